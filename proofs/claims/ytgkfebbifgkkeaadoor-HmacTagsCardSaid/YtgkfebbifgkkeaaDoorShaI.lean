/- Layer 2 (sha): Sum of byte strings. -/
import Derived.Test.YtgkfebbifgkkeaaDoorShaH
import Derived.Test.YtgkfebbifgkkeaaDoorRow
set_option linter.unusedVariables false
namespace Go.Proofs.YtgkfebbifgkkeaaDoor
open Go Go.RowKit

theorem flat_le (sl : List (List UInt8)) : ∀ i, (sl.take i).flatten.length ≤ sl.flatten.length := fun i => by
  have h := List.take_append_drop i sl
  have h2 : sl.flatten = (sl.take i).flatten ++ (sl.drop i).flatten := by rw [← List.flatten_append, h]
  rw [h2, List.length_append]
  omega
theorem flat_step (sl : List (List UInt8)) (i : Nat) (l : List UInt8) (h : sl[i]? = some l) : (sl.take (i + 1)).flatten = (sl.take i).flatten ++ l := by
  rw [List.take_add_one, h]
  simp

set_option maxRecDepth 100000 in
set_option maxHeartbeats 1000000 in
theorem sum_any (A : Option Addr) (n c : Nat) (R : List (Option Addr × Nat × Nat)) (sl : List (List UInt8)) (w : World) (hr : Rws w w.heap.size A n R sl) (hbd : sl.flatten.length ≤ 1125899906842624) (hnb : n ≤ 1099511627776) (ht : Tab w) :
    Calls Tryd.prog 15 #[.slice A n c] w fun e w' => e = .returned (tagV sl.flatten) ∧ Below w.heap.size w w' := by
  have HR := Lib.hid hr
  have HT := Lib.hid ht
  have hlt := ht.lt
  have hlt0 := ht.lt0
  have HSL := Lib.hid hr.lenS
  obtain ⟨W0, hW0, hz0, hbw0, hs0⟩ := zero27 w
  have HW0 := Lib.hid hW0
  clear hr ht hW0
  go_enter Tryd.func15, Tryd.ntmps15
  go_wp2_with fail
  rw [← HW0.out]
  refine (new_any W0 (HT.out.below hbw0)).mono ?_
  rintro e W1 ⟨rfl, hst1, hb1, hs1⟩
  have hz1 := hz0.later hb1
  have hbw1 : Below w.heap.size w W1 := hbw0.trans (hb1.mono hbw0.size)
  rw [hs0] at hst1 hs1 ⊢
  clear hz0 hbw0 hb1 HW0
  go_wp2_with fail
  go_loopw [9] (fun p wr => ∃ i : Nat, i ≤ n ∧ p = .int .i64 (i : Int) ∧ St wr (w.heap.size + 1) (sl.take i).flatten ∧ Bk wr w.heap.size 28 (zB 32) ∧ Below w.heap.size w wr)
    (fun p _ => n - (intOf p).toNat)
  case atStart => exact ⟨0, by omega, rfl, hst1, hz1, hbw1⟩
  case round =>
    clear hst1 hz1 hbw1 hs1
    obtain ⟨i, hi, rfl, hst, hz, hbw⟩ := hrel
    by_cases hlt : i < n
    · have hci : (i : Int) < (n : Int) := by omega
      obtain ⟨b, o, Ai, ni, ci, l, hA, hb, hc, hl, hri, hnc⟩ := (HR.out.below hbw).at_ hlt
      subst hA
      have hfl := flat_step sl i l hl
      have hle := flat_le sl (i + 1)
      have hll : l.length = ni := by simpa using hri.len1
      have hbd2 : (sl.take i).flatten.length + ni ≤ 1152921504606846976 := by
        rw [hfl, List.length_append] at hle
        omega
      have HFL := Lib.hid hfl
      clear hl hle hll hfl
      go_wp2_with fail
      refine (write_any (w.heap.size + 1) _ Ai ni ci l _ hst (Rdg.ofRd hri (by omega) hbw.size) hnc hbd2 (HT.out.below hbw) (by omega) (by omega)).mono ?_
      rintro e W2 ⟨rfl, hst2, hgr⟩
      have hz2 : Bk W2 w.heap.size 28 (zB 32) := (hgr.block _ hz.lt (by simp)).trans hz
      have hbw2 := hbw.grown hgr hbw.size (fun k hk => by cases hk; omega)
      rw [← HFL.out] at hst2
      clear hst hz hbw hgr hri hc
      go_wp2
      go_roundw
      case rel => exact ⟨i + 1, by omega, by go_num, hst2, hz2, hbw2⟩
      case measure => simp [intOf]; omega
    · obtain rfl : i = n := by omega
      clear hlt hi
      rw [List.take_of_length_le (by have := HSL.out; omega)] at hst
      have HS2 := Lib.hid hbw.size
      have hsz2 : (Tryd.prog.info? 28).map (·.size) = some ((shaL sl.flatten).map bv).toArray.size := by
        rw [List.size_toArray, List.length_map, shaL_len]
        kernel_rfl
      go_wp2_with fail
      refine (sumM_any (w.heap.size + 1) _ _ hst hbd (HT.out.below hbw)).mono ?_
      rintro e W3 ⟨rfl, hb3⟩
      unfold tagV
      go_wp2_with (refine wpList_store_row (P := Tryd.prog) rfl 28 _ _ rfl w.heap.size _ rfl rfl _ _ (hz.later hb3) hsz2 (by simp [zB, shaL_len]) (by simp [bv, Value.oneCell']) ?_)
      refine bodyPost_ret (v := .agg ((shaL sl.flatten).map bv).toArray) (results_cell_row rfl _ _ w.heap.size _ _ _ _ rfl (setRow_heap W3 w.heap.size _ _ _ _ (hz.later hb3)) Tryd.underlying28 rfl hsz2) rfl ⟨rfl, below_setRow (hbw.trans (hb3.mono HS2.out)) (Nat.le_refl _) _⟩
end Go.Proofs.YtgkfebbifgkkeaaDoor
