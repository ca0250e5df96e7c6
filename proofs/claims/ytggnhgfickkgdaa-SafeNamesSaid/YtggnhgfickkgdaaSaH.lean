/- Layer 11 (safe), the document: Arities. -/
import Derived.Test.YtggnhgfickkgdaaSaG
set_option linter.unusedVariables false
set_option linter.unusedSimpArgs false
namespace Go.Proofs.Ytggnhgfickkgdaa
open Go Go.RowKit

def aritB (K F : List Key) (i : Nat) (f : Key) : Bool := decide (f.2 ≤ 6) && (K.all (fun y => decide (Fit y f)) && (F.take i).all (fun y => decide (Fit y f)))
def aritFrom (K F : List Key) : List Key → Nat → Nat × Nat
  | [], _ => (0, 0)
  | f :: r, i => if aritB K F i f = true then aritFrom K F r (i + 1) else (i, 9)
/-- What Arities answers. -/
def aritM (C : List Cl) (F : List Key) : Nat × Nat := aritFrom (C.flatMap keysC) F F 0
theorem aritFrom_bad {K F r : List Key} {i : Nat} {f : Key} (h : aritB K F i f = false) : aritFrom K F (f :: r) i = (i, 9) := if_neg (by rw [h]; exact Bool.noConfusion)
theorem aritFrom_ok {K F r : List Key} {i : Nat} {f : Key} (h : aritB K F i f = true) : aritFrom K F (f :: r) i = aritFrom K F r (i + 1) := if_pos h
theorem fit_round {K : List Key} {k : Nat} {y f : Key} (hy : K[k]? = some y) (h : ∀ z ∈ K.take k, Fit z f) (hf : Fit y f) : ∀ z ∈ K.take (k + 1), Fit z f := fun z hz => by
  rw [List.take_add_one, hy] at hz
  rcases List.mem_append.1 hz with hz | hz
  · exact h z hz
  · simp only [Option.toList_some, List.mem_singleton] at hz
    subst hz
    exact hf
theorem arit_no {K F : List Key} {i : Nat} {f y : Key} (hy : y ∈ K ∨ y ∈ F.take i) (hn : ¬ Fit y f) : aritB K F i f = false := by
  unfold aritB
  rcases hy with hy | hy
  · have : K.all (fun y => decide (Fit y f)) = false := List.all_eq_false.2 ⟨y, hy, by rw [decide_eq_true_iff]; exact hn⟩
    rw [this]; simp
  · have : (F.take i).all (fun y => decide (Fit y f)) = false := List.all_eq_false.2 ⟨y, hy, by rw [decide_eq_true_iff]; exact hn⟩
    rw [this]; simp
theorem arit_yes {K F : List Key} {i : Nat} {f : Key} (h6 : f.2 ≤ 6) (h1 : ∀ y ∈ K, Fit y f) (h2 : ∀ y ∈ F.take i, Fit y f) : aritB K F i f = true := by
  unfold aritB
  rw [decide_eq_true h6, List.all_eq_true.2 (fun y hy => decide_eq_true (h1 y hy)), List.all_eq_true.2 (fun y hy => decide_eq_true (h2 y hy))]
  rfl
set_option maxRecDepth 100000 in
set_option maxHeartbeats 4000000 in
theorem rArities_any (A : Option Addr) (n c : Nat) (Q : List ClA) (C : List Cl) (A2 : Option Addr) (n2 c2 : Nat) (Y : List AtR) (w : World) (h : RdCs w w.heap.size A n Q C) (h2 : Rd w w.heap.size 2 A2 n2 (Y.flatMap atC)) (hY : Y.length = n2) (hn : n ≤ 100000) (hn2 : n2 ≤ 1000000) (hk : ∀ x ∈ C, x.2.length ≤ 1000000) :
    Calls Try.prog 11 #[.slice A n c, .slice A2 n2 c2] w fun e w' => e = .returned (.tuple #[.int .i64 ((aritM C (Y.map keyR)).1 : Int), .int .i64 ((aritM C (Y.map keyR)).2 : Int)]) ∧ Below w.heap.size w w' := by
  have HC := Lib.hid h
  have HK := Lib.hid hk
  have HF := Lib.hid h2
  have HYL := Lib.hid hY
  clear h hk h2 hY
  go_enter Try.func11, Try.ntmps11
  repeat (first | go_skip | go_guarded | go_step)
  go_loopw [6, 7] (fun av q wr => ∃ (i : Nat) (Al : Option Addr) (cl : Nat) (X : List AtR), i ≤ n ∧ av = .slice Al X.length cl ∧ q = .int .i64 (i : Int) ∧ OwAt wr w.heap.size Al cl X.length X ∧ X.map keyR = (C.take i).flatMap keysC ∧ X.length ≤ i * 1000001 ∧ Below w.heap.size w wr) (fun _ q _ => n - (intOf q).toNat)
  case atStart => exact ⟨0, none, 0, [], by omega, rfl, rfl, World.ownsRow_nil _ _ _ _, rfl, by simp, Below.refl _ _⟩
  case round =>
    rename World => wr
    obtain ⟨i, Al, cl, X, hi, rfl, rfl, how, hkx, hxl, hbr⟩ := hrel
    have HOW := Lib.hid how
    have HKX := Lib.hid hkx
    have HBR := Lib.hid hbr
    obtain ⟨m, hm⟩ : ∃ m, m = X.length := ⟨_, rfl⟩
    rw [← hm] at hxl ⊢
    have HM := Lib.hid hm
    clear how hkx hbr hm
    by_cases hlt : i < n
    · have hci : (i : Int) < (n : Int) := by omega
      obtain ⟨b, o, p, l, L, A0, n0, c0, A1, n1, c1, R, hA, hb, hx, hq, hd0, hd1, hd2, hrt, hrl⟩ := (HC.out.below HBR.out).at_ hlt
      subst hA
      have hn1 : n1 ≤ 1000000 := by have := HK.out _ (List.mem_of_getElem? hx); have := hrl.lenL; dsimp only at *; omega
      have HTK := Lib.hid (take_len_flat hx)
      have hrl2 := hrl.more HBR.out.size
      have HKA := Lib.hid (keys_atoms hrl p A0 n0 c0 l (rdT_len hrt))
      have hcall := rAtoms_any p A0 n0 c0 A1 n1 c1 R L wr hrl2 hn1
      clear hx hq hrt hrl hrl2 hb
      repeat (first | go_skip | go_guarded | go_step)
      refine hcall.mono ?_
      rintro e w2 ⟨A', c', rfl, ho2, hb2⟩
      have HO2 := Lib.hid ho2.rd
      have HOW2 := Lib.hid (show OwAt w2 w.heap.size Al cl m X by rw [HM.out]; exact HOW.out.later hb2)
      have HB2 := Lib.hid (HBR.out.trans (hb2.mono HBR.out.size))
      have hlen2 := ho2.len
      have HLEN2 := Lib.hid hlen2
      clear hcall ho2 hb2 hd0 hd1 hd2 hlen2
      dsimp only
      have hmb : m + (n1 + 1) ≤ 1000000000000 := by
        have : i * 1000001 ≤ 100000 * 1000001 := Nat.mul_le_mul_right _ (by omega)
        omega
      have hmb2 : m + (n1 + 1) ≤ (i + 1) * 1000001 := by rw [Nat.add_mul]; omega
      repeat (first
        | (at_builtin; refine appA _ rfl (.tmp 18) (.tmp 23) rfl w.heap.size Al cl m X rfl HOW2.out _ A' (n1 + 1) c' _ rfl HO2.out hmb HB2.out.size ?_
           intro A3 c3 Z hoZ htZ hfZ
           have HO3 := Lib.hid hoZ
           have HB3 := Lib.hid (HB2.out.trans (htZ.below (B := w.heap.size) (fun y _ e => (HOW2.out.low e).1) HB2.out.size))
           clear hoZ htZ hfZ)
        | go_skip | go_guarded | go_step)
      have hl3 := HO3.out.len
      go_roundw
      case rel => exact ⟨i + 1, A3, c3, _, by omega, by rw [hl3], by go_num, by rw [hl3]; exact HO3.out, by rw [List.map_append, HKX.out, HKA.out, HTK.out], by rw [hl3]; exact hmb2, HB3.out⟩
      case measure => simp [intOf]; omega
    · obtain rfl : n = i := by omega
      have hci : ¬ (n : Int) < (n : Int) := by omega
      have HKF := Lib.hid (show X.map keyR = C.flatMap keysC by
        have h := HKX.out
        rwa [List.take_of_length_le (by rw [HC.out.lenC]; exact Nat.le_refl _)] at h)
      have HRD := Lib.hid (show Rd wr wr.heap.size 2 Al m (X.flatMap atC) by rw [HM.out]; exact HOW.out.rd)
      have HFD := Lib.hid (Rd.more (Rd.below HF.out HBR.out) HBR.out.size)
      have hmb : m ≤ 1000000000000 := by
        have : n * 1000001 ≤ 100000 * 1000001 := Nat.mul_le_mul_right _ (by omega)
        omega
      have HGET := Lib.hid (show ∀ j, j < m → ∃ x, X[j]? = some x from fun j hj => ⟨_, List.getElem?_eq_getElem (by rw [← HM.out]; exact hj)⟩)
      have HGEY := Lib.hid (show ∀ j, j < n2 → ∃ x, Y[j]? = some x from fun j hj => ⟨_, List.getElem?_eq_getElem (by rw [HYL.out]; exact hj)⟩)
      clear hxl
      repeat (first | go_skip | go_guarded | go_step)
      go_loopw [8] (fun q w2 => ∃ i : Nat, i ≤ n2 ∧ q = .int .i64 (i : Int) ∧ aritM C (Y.map keyR) = aritFrom (X.map keyR) (Y.map keyR) ((Y.map keyR).drop i) i ∧ Below wr.heap.size wr w2) (fun q _ => n2 - (intOf q).toNat)
      case atStart => exact ⟨0, by omega, rfl, by unfold aritM; rw [HKF.out]; rfl, Below.refl _ _⟩
      case round =>
        rename World => w2
        obtain ⟨i, hi2, rfl, har, hb2⟩ := hrel
        have HAR := Lib.hid har
        have HB2 := Lib.hid hb2
        clear har hb2
        by_cases hlti : i < n2
        · have hii : (i : Int) < (n2 : Int) := by omega
          obtain ⟨x, hx⟩ := HGEY.out i hlti
          obtain ⟨bf, of, hAf, hbf, hc0, hc1⟩ := rdAt HFD.out hlti hx
          subst hAf
          obtain ⟨px, Ax, nx, cx⟩ := x
          dsimp only at hc0 hc1
          have HX := Lib.hid hx
          have k0 := (HB2.out.cell (p := ⟨bf, of + i * 2, none⟩) hbf).trans hc0
          have k1 := (HB2.out.cell (p := ⟨bf, of + i * 2 + 1, none⟩) hbf).trans hc1
          have HDROP := Lib.hid (show (Y.map keyR).drop i = (px, nx) :: (Y.map keyR).drop (i + 1) by
            have hm : (Y.map keyR)[i]? = some (px, nx) := by rw [List.getElem?_map, hx]; rfl
            obtain ⟨q1, q2⟩ := List.getElem?_eq_some_iff.1 hm
            rw [List.drop_eq_getElem_cons q1, q2])
          obtain ⟨U, hU, hub, hbU⟩ : ∃ U, U = w2.alloc (.cells #[nv px, .slice Ax nx cx] 43) ∧ Bk U w2.heap.size 43 [nv px, .slice Ax nx cx] ∧ Below w2.heap.size w2 U := ⟨_, rfl, Bk.new w2 _ _, (Below.refl _ _).alloc (Nat.le_refl _) _⟩
          have HU := Lib.hid hU
          have HUB := Lib.hid hub
          have HBU := Lib.hid (HB2.out.trans (hbU.mono HB2.out.size))
          clear hx hc0 hc1 hU hub hbU
          go_upto_region 10 with (fail)
          rw [← HU.out]
          obtain ⟨gf, hgf⟩ : ∃ gf, gf = w2.heap.size := ⟨_, rfl⟩
          rw [← hgf] at HUB ⊢
          clear k0 k1 hgf HU
          have u0 := HUB.out.read (Below.refl _ _) 0 rfl
          have u1 := HUB.out.read (Below.refl _ _) 1 rfl
          by_cases h6 : 6 < nx
          · have h6i : (6 : Int) < (nx : Int) := by omega
            have HN := Lib.hid (show aritB (X.map keyR) (Y.map keyR) i (px, nx) = false by unfold aritB; rw [decide_eq_false (by dsimp only; omega)]; rfl)
            clear h6
            repeat (first | go_skip | go_guarded | go_step)
            go_ret2
            exact ⟨by rw [HAR.out, HDROP.out, aritFrom_bad HN.out]; rfl, HBR.out.trans (HBU.out.mono HBR.out.size)⟩
          have h6i : ¬ (6 : Int) < (nx : Int) := by omega
          repeat (first | go_skip | go_guarded | go_step)
          clear u0 u1
          go_loopw [10] (fun q w3 => ∃ k : Nat, k ≤ m ∧ q = .int .i64 (k : Int) ∧ (∀ y ∈ (X.map keyR).take k, Fit y (px, nx)) ∧ Below U.heap.size U w3) (fun q _ => m - (intOf q).toNat)
          case atStart => exact ⟨0, by omega, rfl, by simp, Below.refl _ _⟩
          case round =>
            rename World => w3
            obtain ⟨k, hk, rfl, hfit, hb3⟩ := hrel
            have HFTw3 := Lib.hid hfit
            have HBw3 := Lib.hid hb3
            clear hfit hb3
            by_cases hltk : k < m
            · have hki : (k : Int) < (m : Int) := by omega
              have hkm : (k : Int) < (m : Int) := by omega
              obtain ⟨y, hy⟩ := HGET.out k (by omega)
              obtain ⟨b4, o4, hAl, hb4, hc0, hc1⟩ := rdAt HRD.out (by omega) hy
              subst hAl
              obtain ⟨py, Ay, ny, cy⟩ := y
              dsimp only at hc0 hc1
              have HY := Lib.hid hy
              have hall : ∀ q, Below U.heap.size U (w3.drewN q) := fun q => belowDrewQ HBw3.out q
              have qx0 : ∀ q, (w3.drewN q).cell? ⟨gf, 0, none⟩ = some (nv px) := fun q => HUB.out.read (hall q) 0 rfl
              have qx1 : ∀ q, (w3.drewN q).cell? ⟨gf, 1, none⟩ = some (.slice Ax nx cx) := fun q => HUB.out.read (hall q) 1 rfl
              have qy0 : ∀ q, (w3.drewN q).cell? ⟨b4, o4 + k * 2, none⟩ = some (nv py) := fun q => ((HBU.out.trans ((hall q).mono HBU.out.size)).cell (p := ⟨b4, o4 + k * 2, none⟩) hb4).trans hc0
              have qy1 : ∀ q, (w3.drewN q).cell? ⟨b4, o4 + k * 2 + 1, none⟩ = some (.slice Ay ny cy) := fun q => ((HBU.out.trans ((hall q).mono HBU.out.size)).cell (p := ⟨b4, o4 + k * 2 + 1, none⟩) hb4).trans hc1
              have HMK := Lib.hid (show (X.map keyR)[k]? = some (py, ny) by rw [List.getElem?_map, HY.out]; rfl)
              clear hy hc0 hc1 hall
              by_cases hp : py = px
              · have hd : ((py.toNat : Int) == (px.toNat : Int)) = true := by subst hp; simp
                have HP := Lib.hid hp
                clear hp
                by_cases hnn : ny = nx
                · have hd2 : ((ny : Int) != (nx : Int)) = false := by subst hnn; simp
                  have HN := Lib.hid hnn
                  clear hnn
                  go_upto_region 15 with (fail)
                  go_quiet (fail)
                  repeat (first | go_skip | go_guarded | go_step)
                  have hb9 := belowDrewQ HBw3.out nq
                  go_roundw
                  case rel => exact ⟨k + 1, by omega, by go_num, fit_round HMK.out HFTw3.out (fun _ => HN.out), hb9⟩
                  case measure => simp [intOf]; omega
                · have hd2 : ((ny : Int) != (nx : Int)) = true := by simp; omega
                  have HN := Lib.hid hnn
                  clear hnn
                  go_upto_region 15 with (fail)
                  go_quiet (fail)
                  repeat (first | go_skip | go_guarded | go_step)
                  go_ret2
                  have hno := arit_no (K := X.map keyR) (F := Y.map keyR) (i := i) (f := (px, nx)) (y := (py, ny)) (.inl (List.mem_of_getElem? HMK.out)) (fun hf => HN.out (hf HP.out))
                  exact ⟨by rw [HAR.out, HDROP.out, aritFrom_bad hno]; rfl, HBR.out.trans ((HBU.out.trans ((belowDrewQ HBw3.out _).mono HBU.out.size)).mono HBR.out.size)⟩
              · have hd := u32ne' hp
                have HP := Lib.hid hp
                clear hp
                go_upto_region 15 with (fail)
                go_quiet (fail)
                repeat (first | go_skip | go_guarded | go_step)
                have hb9 := belowDrewQ HBw3.out nq
                go_roundw
                case rel => exact ⟨k + 1, by omega, by go_num, fit_round HMK.out HFTw3.out (fun e => absurd e HP.out), hb9⟩
                case measure => simp [intOf]; omega
            · obtain rfl : m = k := by omega
              have hki : ¬ (m : Int) < (m : Int) := by omega
              have HALL := Lib.hid (show ∀ y ∈ X.map keyR, Fit y (px, nx) by
                have h := HFTw3.out
                rwa [List.take_of_length_le (by rw [List.length_map, ← HM.out]; exact Nat.le_refl _)] at h)
              repeat (first | go_skip | go_guarded | go_step)
              go_loopw [11] (fun q w3 => ∃ k : Nat, k ≤ i ∧ q = .int .i64 (k : Int) ∧ (∀ y ∈ (Y.map keyR).take k, Fit y (px, nx)) ∧ Below U.heap.size U w3) (fun q _ => i - (intOf q).toNat)
              case atStart => exact ⟨0, by omega, rfl, by simp, HBw3.out⟩
              case round =>
                rename World => w4
                obtain ⟨k, hk, rfl, hfit, hb3⟩ := hrel
                have HFTw4 := Lib.hid hfit
                have HBw4 := Lib.hid hb3
                clear hfit hb3
                by_cases hltk : k < i
                · have hki : (k : Int) < (i : Int) := by omega
                  have hkm : (k : Int) < (n2 : Int) := by omega
                  obtain ⟨y, hy⟩ := HGEY.out k (by omega)
                  obtain ⟨b4, o4, hAl, hb4, hc0, hc1⟩ := rdAt HFD.out (by omega) hy
                  cases hAl
                  obtain ⟨py, Ay, ny, cy⟩ := y
                  dsimp only at hc0 hc1
                  have HY := Lib.hid hy
                  have hall : ∀ q, Below U.heap.size U (w4.drewN q) := fun q => belowDrewQ HBw4.out q
                  have qx0 : ∀ q, (w4.drewN q).cell? ⟨gf, 0, none⟩ = some (nv px) := fun q => HUB.out.read (hall q) 0 rfl
                  have qx1 : ∀ q, (w4.drewN q).cell? ⟨gf, 1, none⟩ = some (.slice Ax nx cx) := fun q => HUB.out.read (hall q) 1 rfl
                  have qy0 : ∀ q, (w4.drewN q).cell? ⟨bf, of + k * 2, none⟩ = some (nv py) := fun q => ((HBU.out.trans ((hall q).mono HBU.out.size)).cell (p := ⟨bf, of + k * 2, none⟩) hb4).trans hc0
                  have qy1 : ∀ q, (w4.drewN q).cell? ⟨bf, of + k * 2 + 1, none⟩ = some (.slice Ay ny cy) := fun q => ((HBU.out.trans ((hall q).mono HBU.out.size)).cell (p := ⟨bf, of + k * 2 + 1, none⟩) hb4).trans hc1
                  have HMK := Lib.hid (show (Y.map keyR)[k]? = some (py, ny) by rw [List.getElem?_map, HY.out]; rfl)
                  clear hy hc0 hc1 hall
                  by_cases hp : py = px
                  · have hd : ((py.toNat : Int) == (px.toNat : Int)) = true := by subst hp; simp
                    have HP := Lib.hid hp
                    clear hp
                    by_cases hnn : ny = nx
                    · have hd2 : ((ny : Int) != (nx : Int)) = false := by subst hnn; simp
                      have HN := Lib.hid hnn
                      clear hnn
                      go_upto_region 20 with (fail)
                      go_quiet (fail)
                      repeat (first | go_skip | go_guarded | go_step)
                      have hb9 := belowDrewQ HBw4.out nq
                      go_roundw
                      case rel => exact ⟨k + 1, by omega, by go_num, fit_round HMK.out HFTw4.out (fun _ => HN.out), hb9⟩
                      case measure => simp [intOf]; omega
                    · have hd2 : ((ny : Int) != (nx : Int)) = true := by simp; omega
                      have HN := Lib.hid hnn
                      clear hnn
                      go_upto_region 20 with (fail)
                      go_quiet (fail)
                      repeat (first | go_skip | go_guarded | go_step)
                      go_ret2
                      have hno := arit_no (K := X.map keyR) (F := Y.map keyR) (i := i) (f := (px, nx)) (y := (py, ny)) (.inr (List.mem_of_getElem? (i := k) (by rw [List.getElem?_take, if_pos hltk]; exact HMK.out))) (fun hf => HN.out (hf HP.out))
                      exact ⟨by rw [HAR.out, HDROP.out, aritFrom_bad hno]; rfl, HBR.out.trans ((HBU.out.trans ((belowDrewQ HBw4.out _).mono HBU.out.size)).mono HBR.out.size)⟩
                  · have hd := u32ne' hp
                    have HP := Lib.hid hp
                    clear hp
                    go_upto_region 20 with (fail)
                    go_quiet (fail)
                    repeat (first | go_skip | go_guarded | go_step)
                    have hb9 := belowDrewQ HBw4.out nq
                    go_roundw
                    case rel => exact ⟨k + 1, by omega, by go_num, fit_round HMK.out HFTw4.out (fun e => absurd e HP.out), hb9⟩
                    case measure => simp [intOf]; omega
                · obtain rfl : i = k := by omega
                  have hki : ¬ (i : Int) < (i : Int) := by omega
                  have HYES := Lib.hid (arit_yes (K := X.map keyR) (F := Y.map keyR) (i := i) (f := (px, nx)) (by dsimp only; omega) (fun y hy => HALL.out y hy) HFTw4.out)
                  repeat (first | go_skip | go_guarded | go_step)
                  go_roundw
                  case rel => exact ⟨i + 1, by omega, by go_num, by rw [HAR.out, HDROP.out, aritFrom_ok HYES.out], HBU.out.trans (HBw4.out.mono HBU.out.size)⟩
                  case measure => simp [intOf]; omega

        · obtain rfl : n2 = i := by omega
          have hii : ¬ (n2 : Int) < (n2 : Int) := by omega
          repeat (first | go_skip | go_guarded | go_step)
          go_ret2
          exact ⟨by rw [HAR.out, List.drop_of_length_le (by rw [List.length_map, HYL.out]; exact Nat.le_refl _)]; rfl, HBR.out.trans (HB2.out.mono HBR.out.size)⟩
end Go.Proofs.Ytggnhgfickkgdaa
