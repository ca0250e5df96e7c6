/- Texts, packed: SrK -/
import Derived.Test.YtfmghkplafploaaPwZH
import Derived.Test.YtfmghkplafploaaPwZD
set_option linter.unusedVariables false
set_option linter.unusedSimpArgs false
namespace Go.Proofs.Ytfmghkplafploaa
open Go Go.RowKit

/-- The levels so far: of what stands in the first j parts; unknown is -1. -/
def Lvs (n : Nat) (cq lev : Nat → Nat) (j : Nat) (X : List Int) : Prop := X.length = n ∧ ∀ v, v < n → X[v]? = some (if cq v < j then (lev (cq v) : Int) else -1)
theorem Lvs.begun (n : Nat) (cq lev : Nat → Nat) : Lvs n cq lev 0 (List.replicate n (-1)) :=
  ⟨by simp, fun v hv => by rw [List.getElem?_replicate, if_pos hv, if_neg (by omega)]⟩
/-- .. of the next part k are set. -/
def LvsP (n : Nat) (cq lev : Nat → Nat) (j : Nat) (p : List Nat) (k z : Nat) (X : List Int) : Prop :=
  X.length = n ∧ ∀ v, v < n → X[v]? = some (if v ∈ p.take k then (z : Int) else if cq v < j then (lev (cq v) : Int) else -1)
theorem Lvs.part {n : Nat} {cq lev : Nat → Nat} {j : Nat} {X : List Int} (h : Lvs n cq lev j X) (p : List Nat) (z : Nat) : LvsP n cq lev j p 0 z X :=
  ⟨h.1, fun v hv => by rw [List.take_zero, if_neg (by simp)]; exact h.2 v hv⟩
theorem LvsP.step {n : Nat} {cq lev : Nat → Nat} {j : Nat} {p : List Nat} {k z u : Nat} {X : List Int} (h : LvsP n cq lev j p k z X) (hu : p[k]? = some u) (hun : u < n) : LvsP n cq lev j p (k + 1) z (X.set u (z : Int)) := by
  refine ⟨by rw [List.length_set]; exact h.1, fun v hv => ?_⟩
  rw [List.getElem?_set]
  by_cases e : u = v
  · subst e
    rw [if_pos rfl, if_pos (by rw [h.1]; exact hun), if_pos (by rw [List.take_add_one, hu]; simp)]
  · rw [if_neg e, h.2 v hv]
    by_cases m : v ∈ p.take k
    · rw [if_pos m, if_pos (by rw [List.take_add_one]; exact List.mem_append_left _ m)]
    · have m' : ¬ v ∈ p.take (k + 1) := fun q => by
        rw [List.take_add_one, hu] at q
        rcases List.mem_append.1 q with q | q
        · exact m q
        · simp at q; exact e q.symm
      rw [if_neg m, if_neg m']
theorem LvsP.whole {n : Nat} {cq lev : Nat → Nat} {j : Nat} {p : List Nat} {k z : Nat} {X : List Int} (h : LvsP n cq lev j p k z X) (hk : p.length ≤ k) (hp : ∀ v, v < n → (v ∈ p ↔ cq v = j)) :
    Lvs n cq (fun i => if i = j then z else lev i) (j + 1) X := by
  refine ⟨h.1, fun v hv => ?_⟩
  rw [h.2 v hv, List.take_of_length_le hk]
  dsimp only
  by_cases e : cq v = j
  · rw [if_pos ((hp v hv).2 e), if_pos (by omega), if_pos e]
  · rw [if_neg (fun q => e ((hp v hv).1 q))]
    by_cases l : cq v < j
    · rw [if_pos l, if_pos (by omega), if_neg e]
    · rw [if_neg l, if_neg (by omega)]
theorem lvs_bk {w : World} {g : Nat} {X : List Int} (h : Bk w g 3 (X.map iz)) {v : Nat} {x : Int} (hx : X[v]? = some x) : w.cell? ⟨g, v, none⟩ = some (.int .i64 x) := by
  rw [h.cell, List.getElem?_map, hx]
  rfl
/-- What climb answers. -/
def Climbed (n : Nat) (cq : Nat → Nat) (Q : List (List Nat)) (D : Nat → List Hn) (w w' : World) (e : Ending) : Prop :=
  ∃ (er : Nat) (A' : Option Addr) (m c' : Nat), e = .returned (.tuple #[.slice A' m c', .int .i64 (er : Int)]) ∧ Below w.heap.size w w' ∧
    ((er = 11 ∧ ∃ u, u < n ∧ ∃ x ∈ D u, cq x.1 = cq u ∧ x.2 = true) ∨
     (er = 0 ∧ m = n ∧ ∃ (lev : Nat → Nat) (X : List Int), Good D cq Q Q.length lev ∧ Lvs n cq lev Q.length X ∧ Rd w' w'.heap.size 1 A' n (X.map iz)))
set_option maxRecDepth 100000 in
set_option maxHeartbeats 16000000 in
theorem climb_any (Ap : Option Addr) (cp : Nat) (Q : List (List Nat)) (Rp : List (Nat × Nat)) (Ah : Option Addr) (n ch : Nat) (R : Nat → SlA) (D : Nat → List Hn) (cq : Nat → Nat) (w : World)
    (hP : RdP w w.heap.size Ap Q Rp) (hq : Q.length ≤ 4096) (hH : RdHs w w.heap.size Ah n R D) (hn : n ≤ 3600)
    (hc : ∀ j p, Q[j]? = some p → p.length ≤ 4096 ∧ (∀ v ∈ p, v < n) ∧ ∀ v, v < n → (v ∈ p ↔ cq v = j))
    (hd : ∀ u, u < n → (D u).length ≤ 100000 ∧ ∀ x ∈ D u, x.1 < n ∧ cq x.1 ≤ cq u) :
    Calls Try.prog 17 #[.slice Ap Q.length cp, .slice Ah n ch] w fun e w' => Climbed n cq Q D w w' e := by
  have HP := Lib.hid hP
  have HH := Lib.hid hH
  have HC := Lib.hid hc
  have HD := Lib.hid hd
  obtain ⟨mq, hmq⟩ : ∃ mq, mq = Q.length := ⟨_, rfl⟩
  rw [← hmq] at hq ⊢
  have HMQ := Lib.hid hmq
  have hrep := rep_any (-1) n w.heap.size (w.alloc (.cells #[.int .i64 (-1)] 3)) (Bk.new w 3 [iz (-1)]) (by omega)
  obtain ⟨g1, hg1⟩ : ∃ g1, g1 = (w.alloc (.cells #[.int .i64 (-1)] 3)).heap.size := ⟨_, rfl⟩
  have hW1 : Below w.heap.size w (w.alloc (.cells #[.int .i64 (-1)] 3)) := (Below.refl _ _).alloc (Nat.le_refl _) _
  have HG1 := Lib.hid (show w.heap.size ≤ g1 by rw [hg1]; exact hW1.size)
  rw [← hg1] at hrep
  have HW1 := Lib.hid hW1
  clear hP hH hc hd hmq hg1 hW1
  go_enter Try.func17, Try.ntmps17
  repeat (first | go_skip | go_guarded | go_step | go_step3)
  refine hrep.mono ?_
  rintro e w2 ⟨rfl, hbk2, hb2⟩
  have HK2 := Lib.hid (show Bk w2 g1 3 ((List.replicate n (-1 : Int)).map iz) by rw [List.map_replicate]; exact hbk2)
  have HB2 := Lib.hid (HW1.out.trans (hb2.mono HG1.out))
  clear hrep hbk2 hb2
  dsimp only
  repeat (first | go_skip | go_guarded | go_step | go_step3)
  go_loopw [4, 5, 21] (fun lv ev q wr => ∃ (j : Nat) (lev : Nat → Nat) (X : List Int), j ≤ mq ∧ lv = .slice (some ⟨g1, 0, none⟩) n n ∧ ev = .int .i64 0 ∧ q = .int .i64 (j : Int) ∧ Good D cq Q j lev ∧ Lvs n cq lev j X ∧ Bk wr g1 3 (X.map iz) ∧ Below w.heap.size w wr) (fun _ _ q _ => mq - (intOf q).toNat)
  case atStart => exact ⟨0, fun _ => 0, _, by omega, rfl, rfl, rfl, Good.zero _ _ _ _, Lvs.begun _ _ _, HK2.out, HB2.out⟩
  case round =>
    rename World => wr
    obtain ⟨j, lev, X, hj, rfl, rfl, rfl, hgood, hlvs, hbk, hbr⟩ := hrel
    have HGD := Lib.hid hgood
    have HLV := Lib.hid hlvs
    have HBK := Lib.hid hbk
    have HBR := Lib.hid hbr
    clear hgood hlvs hbk hbr
    by_cases hlt : j < mq
    · have hci : (j : Int) < (mq : Int) := by omega
      obtain ⟨b, o, r, p, hA, hb, hr, hp, hc0, hrb, hpr, hcells⟩ := HP.out.at_ (i := j) (by rw [← HMQ.out]; exact hlt)
      have k0 := (HBR.out.cell (p := ⟨b, o + j, none⟩) hb).trans hc0
      obtain ⟨hpl, hpn, hpm⟩ := HC.out j p hp
      obtain ⟨r1, r2⟩ := r
      obtain ⟨np, hnp⟩ : ∃ np, np = p.length := ⟨_, rfl⟩
      dsimp only at k0 hrb hpr hcells
      rw [← hnp] at k0 hpl hpr
      have HNP := Lib.hid hnp
      have HPP := Lib.hid hp
      have HPN := Lib.hid hpn
      have HPM := Lib.hid hpm
      have HCE := Lib.hid (show ∀ V, Below w.heap.size w V → ∀ (i v : Nat), p[i]? = some v → V.cell? ⟨r1, i, none⟩ = some (ni v) from fun V hV i v hv => (hV.cell (p := ⟨r1, i, none⟩) hrb).trans (hcells i v hv))
      subst hA
      clear hb hr hp hc0 hrb hcells hpn hpm hnp
      repeat (first | go_skip | go_guarded | go_step)
      clear k0
      go_loopw [4, 5, 8, 27] (fun lv ev zv q wz => ∃ (k z : Nat), k ≤ np ∧ lv = .slice (some ⟨g1, 0, none⟩) n n ∧ ev = .int .i64 0 ∧ zv = .int .i64 (z : Int) ∧ q = .int .i64 (k : Int) ∧ Clm lev cq j ((p.take k).flatMap D) z ∧ Bk wz g1 3 (X.map iz) ∧ Below w.heap.size w wz) (fun _ _ _ q _ => np - (intOf q).toNat)
      case atStart => exact ⟨0, 0, by omega, rfl, rfl, rfl, rfl, Clm.nil _ _ _, HBK.out, HBR.out⟩
      case round =>
        rename World => wz
        obtain ⟨k, z, hk, rfl, rfl, rfl, rfl, hclm, hbkz, hbz⟩ := hrel
        have hzj : z ≤ j := hclm.le HGD.out
        have HCL := Lib.hid hclm
        have HKZ := Lib.hid hbkz
        have HBZ := Lib.hid hbz
        clear hclm hbkz hbz
        by_cases hlk : k < np
        · have hck : (k : Int) < (np : Int) := by omega
          obtain ⟨u, hu⟩ : ∃ u, p[k]? = some u := ⟨_, List.getElem?_eq_getElem (by rw [← HNP.out]; exact hlk)⟩
          have hun := HPN.out u (List.mem_of_getElem? hu)
          have hcu : cq u = j := (HPM.out u hun).1 (List.mem_of_getElem? hu)
          have c0 := HCE.out wz HBZ.out k u hu
          obtain ⟨b4, o4, hA4, hb4, hc4, hrow⟩ := (HH.out.below HBZ.out).at_ hun
          have hroww := HH.out.row u hun
          obtain ⟨hdl, hdx⟩ := HD.out u hun
          obtain ⟨⟨Ar, nr, cr⟩, hsv⟩ : ∃ s, s = R u := ⟨_, rfl⟩
          rw [← hsv] at hc4 hroww
          dsimp only at hc4 hroww
          have hnrb : nr ≤ 100000 := by rw [← hg_len hroww]; exact hdl
          have HROW := Lib.hid hroww
          have HDN := Lib.hid (hg_len hroww)
          have HU := Lib.hid hu
          have HCU := Lib.hid hcu
          have HDX := Lib.hid hdx
          have hui : (u : Int) < (n : Int) := by omega
          have hu0 : (0 : Int) ≤ (u : Int) := by omega
          have HTK := Lib.hid (show (p.take (k + 1)).flatMap D = (p.take k).flatMap D ++ D u by
            rw [List.take_add_one, hu, List.flatMap_append]
            simp)
          subst hA4
          clear hu hcu hb4 hrow hroww hdl hdx hsv
          repeat (first | go_skip | go_guarded | go_step)
          clear c0 hc4
          go_loopw [4, 5, 8, 36] (fun lv ev zv q wy => ∃ (t z : Nat), t ≤ nr ∧ lv = .slice (some ⟨g1, 0, none⟩) n n ∧ ev = .int .i64 0 ∧ zv = .int .i64 (z : Int) ∧ q = .int .i64 (t : Int) ∧ Clm lev cq j ((p.take k).flatMap D ++ (D u).take t) z ∧ Bk wy g1 3 (X.map iz) ∧ Below w.heap.size w wy) (fun _ _ _ q _ => nr - (intOf q).toNat)
          case atStart => exact ⟨0, z, by omega, rfl, rfl, rfl, rfl, by rw [List.take_zero, List.append_nil]; exact HCL.out, HKZ.out, HBZ.out⟩
          case round =>
            clear HCL HKZ HBZ
            rename World => wy
            obtain ⟨t, z, ht, rfl, rfl, rfl, rfl, hclm, hbky, hby⟩ := hrel
            have hzj : z ≤ j := hclm.le HGD.out
            have HCL := Lib.hid hclm
            have HKY := Lib.hid hbky
            have HBY := Lib.hid hby
            clear hclm hbky hby
            by_cases hlr : t < nr
            · have hcr : (t : Int) < (nr : Int) := by omega
              obtain ⟨b5, o5, x, hA5, hb5, hx, e0, e1⟩ := hg_at (HROW.out.below HBY.out) hlr
              obtain ⟨y, ub⟩ := x
              dsimp only at e0 e1
              obtain ⟨hyn, hyu⟩ := HDX.out _ (List.mem_of_getElem? hx)
              dsimp only at hyn hyu
              have HYM := Lib.hid (List.mem_of_getElem? hx)
              have HTT := Lib.hid (show (p.take k).flatMap D ++ (D u).take (t + 1) = ((p.take k).flatMap D ++ (D u).take t) ++ [(y, ub)] by
                rw [List.take_add_one, hx, List.append_assoc]
                rfl)
              have hyi : (y : Int) < (n : Int) := by omega
              have hy0 : (0 : Int) ≤ (y : Int) := by omega
              obtain ⟨ux, hux⟩ : ∃ ux : Int, ux = ((dl ub : Nat) : Int) := ⟨_, rfl⟩
              rw [← hux] at e1
              obtain ⟨U, hU, hbU, hbu⟩ := box2 wy (.int .i64 (y : Int)) (.int .i64 ux) 71
              have HUU := Lib.hid hU
              have HKU := Lib.hid (HKY.out.later hbu)
              have HBU := Lib.hid (HBY.out.trans (hbu.mono HBY.out.size))
              have j0 := hbU.read (Below.refl _ _) 0 rfl
              have j1 := hbU.read (Below.refl _ _) 1 rfl
              have hxv := HLV.out.2 y hyn
              have HHX := Lib.hid hux
              have HYU := Lib.hid hyu
              subst hA5
              clear hx hb5 hU hbU hbu hux hyu
              go_upto_region 12 with (fail)
              rw [← HUU.out]
              clear e0 e1
              by_cases hlow : cq y < j
              · rw [if_pos hlow] at hxv
                have c1 := lvs_bk HKU.out hxv
                obtain ⟨lv, hlv⟩ : ∃ lv, lv = lev (cq y) := ⟨_, rfl⟩
                rw [← hlv] at c1
                have hlvb : lv ≤ 4096 := by
                  have := HGD.out.le _ hlow
                  omega
                have HLVV := Lib.hid hlv
                have HLOW := Lib.hid hlow
                have hne : ((lv : Int) == -1) = false := by rw [beq_eq_false_iff_ne]; omega
                clear hlow hxv hlv
                cases ub with
                | false =>
                  obtain rfl : ux = 0 := HHX.out
                  obtain ⟨z', hz'⟩ : ∃ z', z' = max z lv := ⟨_, rfl⟩
                  have hmx : max (z : Int) (lv : Int) = (z' : Int) := by omega
                  have HCN := Lib.hid (show Clm lev cq j ((p.take k).flatMap D ++ (D u).take (t + 1)) z' by
                    rw [HTT.out, hz', HLVV.out]
                    exact HCL.out.low (x := (y, false)) HLOW.out)
                  clear hz'
                  go_upto_region 14 with (fail)
                  go_quiet (fail)
                  repeat (first | go_skip | go_guarded | go_step)
                  go_roundw
                  case rel => exact ⟨t + 1, z', by omega, rfl, rfl, rfl, by go_num, HCN.out, HKU.out, belowDrews HBU.out _⟩
                  case measure => simp [intOf]; omega
                | true =>
                  obtain rfl : ux = 1 := HHX.out
                  obtain ⟨z', hz'⟩ : ∃ z', z' = max z (lv + 1) := ⟨_, rfl⟩
                  have hmx : max (z : Int) ((lv : Int) + 1) = (z' : Int) := by omega
                  have HCN := Lib.hid (show Clm lev cq j ((p.take k).flatMap D ++ (D u).take (t + 1)) z' by
                    rw [HTT.out, hz', HLVV.out]
                    exact HCL.out.low (x := (y, true)) HLOW.out)
                  clear hz'
                  go_upto_region 14 with (fail)
                  go_quiet (fail)
                  repeat (first | go_skip | go_guarded | go_step)
                  go_roundw
                  case rel => exact ⟨t + 1, z', by omega, rfl, rfl, rfl, by go_num, HCN.out, HKU.out, belowDrews HBU.out _⟩
                  case measure => simp [intOf]; omega
              · rw [if_neg hlow] at hxv
                have c1 := lvs_bk HKU.out hxv
                have HOWN := Lib.hid (show cq y = j by have := HYU.out; have := HCU.out; omega)
                clear hlow hxv
                cases ub with
                | false =>
                  obtain rfl : ux = 0 := HHX.out
                  have hmx : max (z : Int) (-1) = (z : Int) := by omega
                  have HCN := Lib.hid (show Clm lev cq j ((p.take k).flatMap D ++ (D u).take (t + 1)) z by
                    rw [HTT.out]
                    exact HCL.out.own (x := (y, false)) HOWN.out rfl)
                  go_upto_region 14 with (fail)
                  go_quiet (fail)
                  repeat (first | go_skip | go_guarded | go_step)
                  go_roundw
                  case rel => exact ⟨t + 1, z, by omega, rfl, rfl, rfl, by go_num, HCN.out, HKU.out, belowDrews HBU.out _⟩
                  case measure => simp [intOf]; omega
                | true =>
                  obtain rfl : ux = 1 := HHX.out
                  have HYES := Lib.hid (show ∃ u, u < n ∧ ∃ x ∈ D u, cq x.1 = cq u ∧ x.2 = true from ⟨u, hun, (y, true), HYM.out, by rw [HCU.out]; exact HOWN.out, rfl⟩)
                  repeat (first | go_skip | go_guarded | go_step)
                  (try simp only [Exit.inBlock, Exit.then, Exit.noGoto])
                  go_ret2
                  exact ⟨11, none, 0, 0, rfl, HBU.out, .inl ⟨rfl, HYES.out⟩⟩
            · obtain rfl : nr = t := by omega
              have hcr : ¬ (nr : Int) < (nr : Int) := by omega
              repeat (first | go_skip | go_guarded | go_step)
              go_roundw
              case rel => exact ⟨k + 1, z, by omega, rfl, rfl, rfl, by go_num, by
                rw [HTK.out]
                have h := HCL.out
                rwa [List.take_of_length_le (l := D u) (by rw [HDN.out]; exact Nat.le_refl _)] at h, HKY.out, HBY.out⟩
              case measure => simp [intOf]; omega
        · obtain rfl : np = k := by omega
          have hck : ¬ (np : Int) < (np : Int) := by omega
          have HCW := Lib.hid (show Clm lev cq j (p.flatMap D) z by
            have h := HCL.out
            rwa [List.take_of_length_le (by rw [← HNP.out]; exact Nat.le_refl _)] at h)
          repeat (first | go_skip | go_guarded | go_step)
          go_loopw [65] (fun q wy => ∃ (k : Nat) (Y : List Int), k ≤ np ∧ q = .int .i64 (k : Int) ∧ LvsP n cq lev j p k z Y ∧ Bk wy g1 3 (Y.map iz) ∧ Below w.heap.size w wy) (fun q _ => np - (intOf q).toNat)
          case atStart => exact ⟨0, X, by omega, rfl, HLV.out.part p z, HKZ.out, HBZ.out⟩
          case round =>
            rename World => wy
            obtain ⟨k, Y, hk2, rfl, hlp, hbky, hby⟩ := hrel
            have HLP := Lib.hid hlp
            have HKY := Lib.hid hbky
            have HBY := Lib.hid hby
            clear hlp hbky hby
            by_cases hlk2 : k < np
            · have hck2 : (k : Int) < (np : Int) := by omega
              obtain ⟨u, hu⟩ : ∃ u, p[k]? = some u := ⟨_, List.getElem?_eq_getElem (by rw [← HNP.out]; exact hlk2)⟩
              have hun := HPN.out u (List.mem_of_getElem? hu)
              have c0 := HCE.out wy HBY.out k u hu
              obtain ⟨old, hold⟩ : ∃ old, Y[u]? = some old := ⟨_, List.getElem?_eq_getElem (by rw [HLP.out.1]; exact hun)⟩
              have c1 := lvs_bk HKY.out hold
              have f1 := HKY.out.frozen u
              have hui : (u : Int) < (n : Int) := by omega
              have hu0 : (0 : Int) ≤ (u : Int) := by omega
              have HU := Lib.hid hu
              have HST := Lib.hid (HKY.out.set_ u (iz (z : Int)))
              have HBS := Lib.hid (HBY.out.setCell (p := ⟨g1, u, none⟩) HG1.out (iz (z : Int)))
              clear hu hold
              repeat (first | go_skip | go_guarded | go_step)
              go_roundw
              case rel => exact ⟨k + 1, Y.set u (z : Int), by omega, by go_num, HLP.out.step HU.out hun, by
                rw [List.map_set]
                exact HST.out, HBS.out⟩
              case measure => simp [intOf]; omega
            · obtain rfl : np = k := by omega
              have hck2 : ¬ (np : Int) < (np : Int) := by omega
              repeat (first | go_skip | go_guarded | go_step)
              go_roundw
              case rel => exact ⟨j + 1, _, Y, by omega, rfl, rfl, by go_num, HGD.out.step HPP.out HCW.out, HLP.out.whole (by rw [← HNP.out]; exact Nat.le_refl _) HPM.out, HKY.out, HBY.out⟩
              case measure => simp [intOf]; omega
    · obtain rfl : mq = j := by omega
      have hci : ¬ (mq : Int) < (mq : Int) := by omega
      repeat (first | go_skip | go_guarded | go_step)
      (try simp only [Exit.inBlock, Exit.then, Exit.noGoto])
      go_ret2
      exact ⟨0, some ⟨g1, 0, none⟩, n, n, rfl, HBR.out, .inr ⟨rfl, rfl, lev, X, by rw [← HMQ.out]; exact HGD.out, by rw [← HMQ.out]; exact HLV.out, by
        have h := HBK.out.rd n (by rw [List.length_map, HLV.out.1]; exact Nat.le_refl _)
        rwa [List.take_of_length_le (by rw [List.length_map, HLV.out.1]; exact Nat.le_refl _)] at h⟩⟩
end Go.Proofs.Ytfmghkplafploaa

