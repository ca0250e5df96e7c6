/- Layer 11 (safe), the document: Right. -/
import Derived.Test.YtggnhgfickkgdaaSaF
set_option linter.unusedVariables false
set_option linter.unusedSimpArgs false
namespace Go.Proofs.Ytggnhgfickkgdaa
open Go Go.RowKit

def badAt (C : List Cl) (i : Nat) (x : Cl) : Nat := if mayC x = false then 8 else if safeC x = false then 10 else if fitL ((C.take (i + 1)).flatMap keysC) = false then 9 else 0
def rightFrom (C : List Cl) : List Cl → Nat → Nat × Nat
  | [], _ => (0, 0)
  | x :: r, i => if badAt C i x = 0 then rightFrom C r (i + 1) else (i, badAt C i x)
/-- What Right answers. -/
def rightM (C : List Cl) : Nat × Nat := if 400 < C.length then (0, 6) else rightFrom C C 0
theorem rightFrom_bad {C r : List Cl} {i : Nat} {x : Cl} (h : badAt C i x ≠ 0) : rightFrom C (x :: r) i = (i, badAt C i x) := if_neg h
theorem rightFrom_ok {C r : List Cl} {i : Nat} {x : Cl} (h : badAt C i x = 0) : rightFrom C (x :: r) i = rightFrom C r (i + 1) := if_pos h
/-- What one goes through has no more than so much in it. -/
def Slim (C : List Cl) : Prop := ∀ x ∈ C, x.1.2.length ≤ 1000000 ∧ x.2.length ≤ 1000000 ∧ ∀ y ∈ x.2, y.2.2.length ≤ 1000000
theorem RdCs.cut {w : World} {B n k : Nat} {A : Option Addr} {Q : List ClA} {C : List Cl} (h : RdCs w B A n Q C) (hk : k ≤ n) : RdCs w B A k (Q.take k) (C.take k) := by
  have hz : ((C.take k).zip (Q.take k)) = (C.zip Q).take k := by unfold List.zip; rw [List.take_zipWith]
  refine ⟨by rw [List.length_take, h.lenQ]; omega, by rw [List.length_take, h.lenC]; omega, ?_, fun i q x h1 h2 => ?_⟩
  · have hlen : ∀ X : List (Cl × ClA), (X.flatMap clC).length = X.length * 3 := fun X => by
      induction X with
      | nil => rfl
      | cons x X ih => rw [List.flatMap_cons, List.length_append, ih, List.length_cons]; simp [clC]; omega
    rw [hz]
    refine ⟨by rw [hlen, List.length_take, List.length_zip, h.lenQ, h.lenC]; omega, fun hp => ?_⟩
    obtain ⟨b, o, e, hb, hc⟩ := h.top.2 (by omega)
    refine ⟨b, o, e, hb, fun j u hu => hc j u ?_⟩
    have hpre : (C.zip Q).flatMap clC = ((C.zip Q).take k).flatMap clC ++ ((C.zip Q).drop k).flatMap clC := by
      rw [← List.flatMap_append, List.take_append_drop]
    rw [hpre, List.getElem?_append_left (List.getElem?_eq_some_iff.1 hu).1]
    exact hu
  · rw [List.getElem?_take] at h1 h2
    split at h1
    · rename_i hlt
      rw [if_pos hlt] at h2
      exact h.row i q x h1 h2
    · cases h1
set_option maxRecDepth 100000 in
set_option maxHeartbeats 4000000 in
theorem rRight_any (A : Option Addr) (n c : Nat) (Q : List ClA) (C : List Cl) (w : World) (h : RdCs w w.heap.size A n Q C) (hnc : n ≤ c) (hs : Slim C) :
    Calls Try.prog 9 #[.slice A n c] w fun e w' => e = .returned (.tuple #[.int .i64 ((rightM C).1 : Int), .int .i64 ((rightM C).2 : Int)]) ∧ Below w.heap.size w w' := by
  have HC := Lib.hid h
  have HS := Lib.hid hs
  have hlen := h.lenC
  clear h hs
  by_cases hb : 400 < n
  · have hbi : (400 : Int) < (n : Int) := by omega
    have HM := Lib.hid (show rightM C = (0, 6) by unfold rightM; rw [if_pos (by omega)])
    clear hlen
    go_enter Try.func9, Try.ntmps9
    repeat (first | go_skip | go_guarded | go_step)
    go_ret2
    exact ⟨by rw [HM.out]; rfl, Below.refl _ _⟩
  · have hbi : ¬ (400 : Int) < (n : Int) := by omega
    have HM := Lib.hid (show rightM C = rightFrom C C 0 by unfold rightM; rw [if_neg (by omega)])
    have HLEN := Lib.hid hlen
    clear hlen
    go_enter Try.func9, Try.ntmps9
    repeat (first | go_skip | go_guarded | go_step)
    go_loopw [4] (fun q wr => ∃ i : Nat, i ≤ n ∧ q = .int .i64 (i : Int) ∧ rightM C = rightFrom C (C.drop i) i ∧ Below w.heap.size w wr) (fun q _ => n - (intOf q).toNat)
    case atStart => exact ⟨0, by omega, rfl, HM.out, Below.refl _ _⟩
    case round =>
      rename World => wr
      obtain ⟨i, hi, rfl, hrm, hbr⟩ := hrel
      have HRM := Lib.hid hrm
      have HBR := Lib.hid hbr
      clear hrm hbr
      by_cases hlt : i < n
      · have hci : (i : Int) < (n : Int) := by omega
        have hrc := HC.out.below HBR.out
        obtain ⟨b, o, p, l, L, A0, n0, c0, A1, n1, c1, R, hA, hb, hx, hq, hd0, hd1, hd2, hrt, hrl⟩ := hrc.at_ hlt
        obtain ⟨hs1, hs2, hs3⟩ := HS.out _ (List.mem_of_getElem? hx)
        dsimp only at hs1 hs2 hs3
        have hn0 : n0 ≤ 1000000 := by have := rdT_len hrt; omega
        have hn1 : n1 ≤ 1000000 := by have := hrl.lenL; omega
        have HDROP := Lib.hid (show C.drop i = ((p, l), L) :: C.drop (i + 1) by
          obtain ⟨q1, q2⟩ := List.getElem?_eq_some_iff.1 hx
          rw [List.drop_eq_getElem_cons q1, q2])
        have HRT := Lib.hid hrt
        have HRL := Lib.hid hrl
        have HS3 := Lib.hid hs3
        have HD := Lib.hid (show ∀ V, Below wr.heap.size wr V → V.cell? ⟨b, o + i * 3, none⟩ = some (nv p) ∧ V.cell? ⟨b, o + i * 3 + 1, none⟩ = some (.slice A0 n0 c0) ∧ V.cell? ⟨b, o + i * 3 + 2, none⟩ = some (.slice A1 n1 c1) from fun V hV => by
          have hbl : b < wr.heap.size := Nat.lt_of_lt_of_le hb HBR.out.size
          exact ⟨(hV.cell (p := ⟨b, o + i * 3, none⟩) hbl).trans hd0, (hV.cell (p := ⟨b, o + i * 3 + 1, none⟩) hbl).trans hd1, (hV.cell (p := ⟨b, o + i * 3 + 2, none⟩) hbl).trans hd2⟩)
        have HCUT := Lib.hid (show RdCs wr w.heap.size A (i + 1) (Q.take (i + 1)) (C.take (i + 1)) from hrc.cut (by omega))
        subst hA
        have hmay := rAMay_any p A0 n0 c0 l A1 n1 c1 R L wr (Rd.more hrt HBR.out.size) (hrl.more HBR.out.size) hn0 hn1 hs3
        clear hrc hx hq hrt hrl hb hs1 hs2 hs3
        repeat (first | go_skip | go_guarded | go_step)
        refine hmay.mono ?_
        rintro e w2 ⟨rfl, hb2⟩
        have HB2 := Lib.hid hb2
        have HBW2 := Lib.hid (HBR.out.trans (hb2.mono HBR.out.size))
        obtain ⟨d0, d1, d2⟩ := HD.out w2 hb2
        clear hmay hb2 hd0 hd1 hd2
        dsimp only
        cases hm : mayC ((p, l), L) with
        | false =>
          have HB8 := Lib.hid (show badAt C i ((p, l), L) = 8 by unfold badAt; rw [if_pos hm])
          clear hm
          repeat (first | go_skip | go_guarded | go_step)
          go_ret2
          exact ⟨by rw [HRM.out, HDROP.out, rightFrom_bad (by rw [HB8.out]; omega), HB8.out]; rfl, HBW2.out⟩
        | true =>
          have HMY := Lib.hid hm
          clear hm
          have hsafe := rSafe_any p A0 n0 c0 l A1 n1 c1 R L w2 (Rd.more (Rd.below HRT.out (HB2.out.mono HBR.out.size)) HBW2.out.size) ((HRL.out.below (HB2.out.mono HBR.out.size)).more HBW2.out.size) hn0 hn1 HS3.out
          repeat (first | go_skip | go_guarded | go_step)
          refine hsafe.mono ?_
          rintro e w3 ⟨rfl, hb3⟩
          have HBW3 := Lib.hid (HBW2.out.trans (hb3.mono HBW2.out.size))
          have HB3 := Lib.hid (HB2.out.trans (hb3.mono HB2.out.size))
          clear hsafe hb3 d0 d1 d2
          dsimp only
          cases hm : safeC ((p, l), L) with
          | false =>
            have HB10 := Lib.hid (show badAt C i ((p, l), L) = 10 by unfold badAt; rw [if_neg (by rw [HMY.out]; exact Bool.noConfusion), if_pos hm])
            clear hm
            repeat (first | go_skip | go_guarded | go_step)
            go_ret2
            exact ⟨by rw [HRM.out, HDROP.out, rightFrom_bad (by rw [HB10.out]; omega), HB10.out]; rfl, HBW3.out⟩
          | true =>
            have HSF := Lib.hid hm
            clear hm
            have hwr1 : IntKind.i64.wrap ((i : Int) + 1) = (i : Int) + 1 := by rw [IntKind.wrap_i64]; omega
            have hlc : (i : Int) + 1 ≤ (c : Int) := by omega
            have hl0 : (0 : Int) ≤ (i : Int) + 1 := by omega
            have hlens := rLengths_any (some ⟨b, o, none⟩) (i + 1) c (Q.take (i + 1)) (C.take (i + 1)) w3 ((HCUT.out.below (HB3.out.mono HBR.out.size)).more HBW3.out.size) (by omega) (fun x hx => (HS.out x (List.mem_of_mem_take hx)).2.1)
            repeat (first | go_skip | go_guarded | go_step)
            refine hlens.mono ?_
            rintro e w4 ⟨rfl, hb4⟩
            have HBW4 := Lib.hid (HBW3.out.trans (hb4.mono HBW3.out.size))
            clear hlens hb4
            dsimp only
            cases hm : fitL ((C.take (i + 1)).flatMap keysC) with
            | false =>
              have HB9 := Lib.hid (show badAt C i ((p, l), L) = 9 by unfold badAt; rw [if_neg (by rw [HMY.out]; exact Bool.noConfusion), if_neg (by rw [HSF.out]; exact Bool.noConfusion), if_pos hm])
              clear hm
              repeat (first | go_skip | go_guarded | go_step)
              go_ret2
              exact ⟨by rw [HRM.out, HDROP.out, rightFrom_bad (by rw [HB9.out]; omega), HB9.out]; rfl, HBW4.out⟩
            | true =>
              have HB9 := Lib.hid (show badAt C i ((p, l), L) = 0 by unfold badAt; rw [if_neg (by rw [HMY.out]; exact Bool.noConfusion), if_neg (by rw [HSF.out]; exact Bool.noConfusion), if_neg (by rw [hm]; exact Bool.noConfusion)])
              clear hm
              repeat (first | go_skip | go_guarded | go_step)
              go_roundw
              case rel => exact ⟨i + 1, by omega, by go_num, by rw [HRM.out, HDROP.out, rightFrom_ok HB9.out], HBW4.out⟩
              case measure => simp [intOf]; omega
      · obtain rfl : n = i := by omega
        have hci : ¬ (n : Int) < (n : Int) := by omega
        repeat (first | go_skip | go_guarded | go_step)
        go_ret2
        exact ⟨by rw [HRM.out, List.drop_of_length_le (by rw [HLEN.out]; exact Nat.le_refl _)]; rfl, HBR.out⟩
end Go.Proofs.Ytggnhgfickkgdaa
