/- Layer 11 (safe), the document: lengths. -/
import Derived.Test.YtggnhgfickkgdaaSaE
set_option linter.unusedVariables false
set_option linter.unusedSimpArgs false
namespace Go.Proofs.Ytggnhgfickkgdaa
open Go Go.RowKit

abbrev Key := UInt32 × Nat
def keyR (x : AtR) : Key := (x.1, x.2.2.1)
def keysC (c : Cl) : List Key := (c.1.1, c.1.2.length) :: c.2.map fun x => (x.2.1, x.2.2.length)
/-- Two keys: no predicate with two lengths. -/
abbrev Fit (a b : Key) : Prop := a.1 = b.1 → a.2 = b.2
theorem Fit.symm {a b : Key} (h : Fit a b) : Fit b a := fun e => (h e.symm).symm
def fitL (K : List Key) : Bool := decide (K.Pairwise Fit)
theorem keys_atoms {w : World} {B n1 : Nat} {A1 : Option Addr} {R : List SlA} {L : List Li} (h : RdL w B A1 n1 R L) (p : UInt32) (A : Option Addr) (n c : Nat) (l : List Tm) (hl : l.length = n) :
    (atomsR p (A, n, c) R L).map keyR = keysC ((p, l), L) := by
  unfold atomsR keysC
  rw [List.map_cons, List.map_map]
  congr 1
  · unfold keyR; rw [← hl]
  · refine List.ext_getElem (by simp [h.lenL, h.lenR]) fun i h1 h2 => ?_
    simp only [List.length_map] at h2
    have hi : i < n1 := by rw [← h.lenL]; exact h2
    obtain ⟨b, o, g, q, l3, Ai, ni, ci, _, _, hx, hr, _, _, _, hrow⟩ := h.at2 hi
    obtain ⟨q1, q2⟩ := List.getElem?_eq_some_iff.1 hx
    obtain ⟨q3, q4⟩ := List.getElem?_eq_some_iff.1 hr
    simp [q2, q4, keyR, rdT_len hrow]
theorem rdAt {w : World} {B n : Nat} {A : Option Addr} {X : List AtR} (h : Rd w B 2 A n (X.flatMap atC)) {i : Nat} {x : AtR} (hi : i < n) (hx : X[i]? = some x) : ∃ b o, A = some ⟨b, o, none⟩ ∧ b < B ∧ w.cell? ⟨b, o + i * 2, none⟩ = some (nv x.1) ∧ w.cell? ⟨b, o + i * 2 + 1, none⟩ = some (.slice x.2.1 x.2.2.1 x.2.2.2) := by
  obtain ⟨b, o, e, hb, hc⟩ := h.2 (by omega)
  have hl : ∀ x : AtR, (atC x).length = 2 := fun _ => rfl
  have f0 := flat_at atC 2 hl hx 0 (by omega)
  have f1 := flat_at atC 2 hl hx 1 (by omega)
  exact ⟨b, o, e, hb, hc _ _ f0, hc _ _ f1⟩
theorem take_len_flat {C : List Cl} {i : Nat} {x : Cl} (h : C[i]? = some x) : (C.take (i + 1)).flatMap keysC = (C.take i).flatMap keysC ++ keysC x := by
  rw [List.take_add_one, h, List.flatMap_append]
  simp
set_option maxRecDepth 100000 in
set_option maxHeartbeats 4000000 in
theorem rLengths_any (A : Option Addr) (n c : Nat) (Q : List ClA) (C : List Cl) (w : World) (h : RdCs w w.heap.size A n Q C) (hn : n ≤ 100000) (hk : ∀ x ∈ C, x.2.length ≤ 1000000) :
    Calls Try.prog 22 #[.slice A n c] w fun e w' => e = .returned (.bool (fitL (C.flatMap keysC))) ∧ Below w.heap.size w w' := by
  have HC := Lib.hid h
  have HK := Lib.hid hk
  clear h hk
  go_enter Try.func22, Try.ntmps22
  repeat (first | go_skip | go_guarded | go_step)
  go_loopw [3, 4] (fun av q wr => ∃ (i : Nat) (Al : Option Addr) (cl : Nat) (X : List AtR), i ≤ n ∧ av = .slice Al X.length cl ∧ q = .int .i64 (i : Int) ∧ OwAt wr w.heap.size Al cl X.length X ∧ X.map keyR = (C.take i).flatMap keysC ∧ X.length ≤ i * 1000001 ∧ Below w.heap.size w wr) (fun _ q _ => n - (intOf q).toNat)
  case atStart => exact ⟨0, none, 0, [], by omega, rfl, rfl, World.ownsRow_nil _ _ _ _, rfl, by simp, Below.refl _ _⟩
  case round =>
    rename World => wr
    obtain ⟨i, Al, cl, X, hi, rfl, rfl, how, hkx, hxl, hbr⟩ := hrel
    have HOW := Lib.hid how
    have HKX := Lib.hid hkx
    have HBR := Lib.hid hbr
    obtain ⟨m, hm⟩ : ∃ m, m = X.length := ⟨_, rfl⟩
    rw [← hm] at hxl ⊢
    have HM := Lib.hid hm
    clear how hkx hbr hm
    by_cases hlt : i < n
    · have hci : (i : Int) < (n : Int) := by omega
      obtain ⟨b, o, p, l, L, A0, n0, c0, A1, n1, c1, R, hA, hb, hx, hq, hd0, hd1, hd2, hrt, hrl⟩ := (HC.out.below HBR.out).at_ hlt
      subst hA
      have hn1 : n1 ≤ 1000000 := by have := HK.out _ (List.mem_of_getElem? hx); have := hrl.lenL; dsimp only at *; omega
      have HTK := Lib.hid (take_len_flat hx)
      have hrl2 := hrl.more HBR.out.size
      have HKA := Lib.hid (keys_atoms hrl p A0 n0 c0 l (rdT_len hrt))
      have hcall := rAtoms_any p A0 n0 c0 A1 n1 c1 R L wr hrl2 hn1
      clear hx hq hrt hrl hrl2 hb
      repeat (first | go_skip | go_guarded | go_step)
      refine hcall.mono ?_
      rintro e w2 ⟨A', c', rfl, ho2, hb2⟩
      have HO2 := Lib.hid ho2.rd
      have HOW2 := Lib.hid (show OwAt w2 w.heap.size Al cl m X by rw [HM.out]; exact HOW.out.later hb2)
      have HB2 := Lib.hid (HBR.out.trans (hb2.mono HBR.out.size))
      have hlen2 := ho2.len
      have HLEN2 := Lib.hid hlen2
      clear hcall ho2 hb2 hd0 hd1 hd2 hlen2
      dsimp only
      have hmb : m + (n1 + 1) ≤ 1000000000000 := by
        have : i * 1000001 ≤ 100000 * 1000001 := Nat.mul_le_mul_right _ (by omega)
        omega
      have hmb2 : m + (n1 + 1) ≤ (i + 1) * 1000001 := by rw [Nat.add_mul]; omega
      repeat (first
        | (at_builtin; refine appA _ rfl (.tmp 13) (.tmp 18) rfl w.heap.size Al cl m X rfl HOW2.out _ A' (n1 + 1) c' _ rfl HO2.out hmb HB2.out.size ?_
           intro A3 c3 Z hoZ htZ hfZ
           have HO3 := Lib.hid hoZ
           have HB3 := Lib.hid (HB2.out.trans (htZ.below (B := w.heap.size) (fun y _ e => (HOW2.out.low e).1) HB2.out.size))
           clear hoZ htZ hfZ)
        | go_skip | go_guarded | go_step)
      have hl3 := HO3.out.len
      go_roundw
      case rel => exact ⟨i + 1, A3, c3, _, by omega, by rw [hl3], by go_num, by rw [hl3]; exact HO3.out, by rw [List.map_append, HKX.out, HKA.out, HTK.out], by rw [hl3]; exact hmb2, HB3.out⟩
      case measure => simp [intOf]; omega
    · obtain rfl : n = i := by omega
      have hci : ¬ (n : Int) < (n : Int) := by omega
      have HKF := Lib.hid (show X.map keyR = C.flatMap keysC by
        have h := HKX.out
        rwa [List.take_of_length_le (by rw [HC.out.lenC]; exact Nat.le_refl _)] at h)
      have HRD := Lib.hid (show Rd wr wr.heap.size 2 Al m (X.flatMap atC) by rw [HM.out]; exact HOW.out.rd)
      have hmb : m ≤ 1000000000000 := by
        have : n * 1000001 ≤ 100000 * 1000001 := Nat.mul_le_mul_right _ (by omega)
        omega
      have HGET := Lib.hid (show ∀ j, j < m → ∃ x, X[j]? = some x from fun j hj => ⟨_, List.getElem?_eq_getElem (by rw [← HM.out]; exact hj)⟩)
      clear hxl
      repeat (first | go_skip | go_guarded | go_step)
      go_loopw [5] (fun q w2 => ∃ i : Nat, i ≤ m ∧ q = .int .i64 (i : Int) ∧ ((X.map keyR).take i).Pairwise Fit ∧ Below wr.heap.size wr w2) (fun q _ => m - (intOf q).toNat)
      case atStart => exact ⟨0, by omega, rfl, by simp, Below.refl _ _⟩
      case round =>
        rename World => w2
        obtain ⟨i, hi2, rfl, hpw, hb2⟩ := hrel
        have HPW := Lib.hid hpw
        have HB2 := Lib.hid hb2
        clear hpw hb2
        by_cases hlti : i < m
        · have hii : (i : Int) < (m : Int) := by omega
          obtain ⟨x, hx⟩ := HGET.out i hlti
          obtain ⟨bb, oo, hAl, hbb, hc0, hc1⟩ := rdAt HRD.out hlti hx
          subst hAl
          obtain ⟨px, Ax, nx, cx⟩ := x
          dsimp only at hc0 hc1
          have HX := Lib.hid hx
          have HX0 := Lib.hid (show ∀ V, Below wr.heap.size wr V → V.cell? ⟨bb, oo + i * 2, none⟩ = some (nv px) ∧ V.cell? ⟨bb, oo + i * 2 + 1, none⟩ = some (.slice Ax nx cx) from fun V hV => ⟨(hV.cell (p := ⟨bb, oo + i * 2, none⟩) hbb).trans hc0, (hV.cell (p := ⟨bb, oo + i * 2 + 1, none⟩) hbb).trans hc1⟩)
          clear hx hc0 hc1
          repeat (first | go_skip | go_guarded | go_step)
          go_loopw [6] (fun q w3 => ∃ k : Nat, k ≤ i ∧ q = .int .i64 (k : Int) ∧ (∀ y ∈ (X.map keyR).take k, Fit y (px, nx)) ∧ Below wr.heap.size wr w3) (fun q _ => i - (intOf q).toNat)
          case atStart => exact ⟨0, by omega, rfl, by simp, HB2.out⟩
          case round =>
            rename World => w3
            obtain ⟨k, hk, rfl, hfit, hb3⟩ := hrel
            have HFT := Lib.hid hfit
            have HB3 := Lib.hid hb3
            clear hfit hb3
            by_cases hltk : k < i
            · have hki : (k : Int) < (i : Int) := by omega
              have hkm : (k : Int) < (m : Int) := by omega
              obtain ⟨y, hy⟩ := HGET.out k (by omega)
              obtain ⟨b4, o4, hAl, _, hc0, hc1⟩ := rdAt HRD.out (by omega) hy
              cases hAl
              obtain ⟨py, Ay, ny, cy⟩ := y
              dsimp only at hc0 hc1
              have HY := Lib.hid hy
              have qx0 := fun q => (HX0.out (w3.drewN q) (belowDrewQ HB3.out q)).1
              have qx1 := fun q => (HX0.out (w3.drewN q) (belowDrewQ HB3.out q)).2
              have qy0 : ∀ q, (w3.drewN q).cell? ⟨bb, oo + k * 2, none⟩ = some (nv py) := fun q => ((belowDrewQ HB3.out q).cell (p := ⟨bb, oo + k * 2, none⟩) hbb).trans hc0
              have qy1 : ∀ q, (w3.drewN q).cell? ⟨bb, oo + k * 2 + 1, none⟩ = some (.slice Ay ny cy) := fun q => ((belowDrewQ HB3.out q).cell (p := ⟨bb, oo + k * 2 + 1, none⟩) hbb).trans hc1
              have hmk : (X.map keyR)[k]? = some (py, ny) := by rw [List.getElem?_map, HY.out]; rfl
              have hmi : (X.map keyR)[i]? = some (px, nx) := by rw [List.getElem?_map, HX.out]; rfl
              have HMK := Lib.hid hmk
              have HMI := Lib.hid hmi
              clear hy hc0 hc1 hmk hmi
              have HROUND := Lib.hid (show Fit (py, ny) (px, nx) → ∀ y ∈ (X.map keyR).take (k + 1), Fit y (px, nx) from fun hf y hy => by
                rw [List.take_add_one, HMK.out] at hy
                rcases List.mem_append.1 hy with hy | hy
                · exact HFT.out y hy
                · simp only [Option.toList_some, List.mem_singleton] at hy
                  subst hy
                  exact hf)
              by_cases hp : px = py
              · have hd : ((px.toNat : Int) == (py.toNat : Int)) = true := by subst hp; simp
                have HP := Lib.hid hp
                clear hp
                by_cases hnn : nx = ny
                · have hd2 : ((nx : Int) != (ny : Int)) = false := by subst hnn; simp
                  have HN := Lib.hid hnn
                  clear hnn
                  go_upto_region 12 with (fail)
                  go_quiet (fail)
                  repeat (first | go_skip | go_guarded | go_step)
                  have hb9 := belowDrewQ HB3.out nq
                  go_roundw
                  case rel => exact ⟨k + 1, by omega, by go_num, HROUND.out (fun _ => HN.out.symm), hb9⟩
                  case measure => simp [intOf]; omega
                · have hd2 : ((nx : Int) != (ny : Int)) = true := by simp; omega
                  have HN := Lib.hid hnn
                  clear hnn
                  go_upto_region 12 with (fail)
                  go_quiet (fail)
                  repeat (first | go_skip | go_guarded | go_step)
                  go_ret
                  refine ⟨?_, HBR.out.trans ((belowDrewQ HB3.out _).mono HBR.out.size)⟩
                  have : fitL (C.flatMap keysC) = false := by
                    unfold fitL
                    rw [decide_eq_false_iff_not, ← HKF.out]
                    intro hpw
                    obtain ⟨q1, q2⟩ := List.getElem?_eq_some_iff.1 HMK.out
                    obtain ⟨q3, q4⟩ := List.getElem?_eq_some_iff.1 HMI.out
                    have := List.pairwise_iff_getElem.1 hpw k i q1 q3 hltk
                    rw [q2, q4] at this
                    exact HN.out (this HP.out.symm).symm
                  rw [this]; rfl
              · have hd := u32ne' hp
                have HP := Lib.hid hp
                clear hp
                go_upto_region 12 with (fail)
                go_quiet (fail)
                repeat (first | go_skip | go_guarded | go_step)
                have hb9 := belowDrewQ HB3.out nq
                go_roundw
                case rel => exact ⟨k + 1, by omega, by go_num, HROUND.out (fun e => absurd e.symm HP.out), hb9⟩
                case measure => simp [intOf]; omega
            · obtain rfl : i = k := by omega
              have hki : ¬ (i : Int) < (i : Int) := by omega
              repeat (first | go_skip | go_guarded | go_step)
              go_roundw
              case rel => exact ⟨i + 1, by omega, by go_num, by
                have hmi : (X.map keyR)[i]? = some (px, nx) := by rw [List.getElem?_map, HX.out]; rfl
                rw [List.take_add_one, hmi]
                refine List.pairwise_append.2 ⟨HPW.out, by simp, fun a ha b hb => ?_⟩
                simp only [Option.toList_some, List.mem_singleton] at hb
                subst hb
                exact HFT.out a ha, HB3.out⟩
              case measure => simp [intOf]; omega
        · obtain rfl : m = i := by omega
          have hii : ¬ (m : Int) < (m : Int) := by omega
          repeat (first | go_skip | go_guarded | go_step)
          go_ret
          refine ⟨?_, HBR.out.trans (HB2.out.mono HBR.out.size)⟩
          have : fitL (C.flatMap keysC) = true := by
            unfold fitL
            rw [decide_eq_true_iff, ← HKF.out]
            have h := HPW.out
            rwa [List.take_of_length_le (by rw [List.length_map, ← HM.out]; exact Nat.le_refl _)] at h
          rw [this]; rfl
end Go.Proofs.Ytggnhgfickkgdaa
