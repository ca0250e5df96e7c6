/- Layer 2 (sha): Sum of byte strings. -/
import Derived.Test.YtnjahmikenjjaaaDoorShaH
set_option linter.unusedVariables false
namespace Go.Proofs.YtnjahmikenjjaaaDoor
open Go Go.RowKit

/-- A slice of byte slices that is read: each row's slice, and what it holds. -/
structure Rws (w : World) (B : Nat) (A : Option Addr) (n : Nat) (R : List (Option Addr × Nat × Nat)) (sl : List (List UInt8)) : Prop where
  lenR : R.length = n
  lenS : sl.length = n
  top : Rd w B 1 A n (R.map fun r : Option Addr × Nat × Nat => Value.slice r.1 r.2.1 r.2.2)
  row : ∀ (i : Nat) (r : Option Addr × Nat × Nat) (l : List UInt8), R[i]? = some r → sl[i]? = some l → Rd w B 1 r.1 r.2.1 (l.map bv) ∧ r.2.1 ≤ r.2.2
theorem Rws.below {w w' : World} {B n : Nat} {A : Option Addr} {R : List (Option Addr × Nat × Nat)} {sl : List (List UInt8)} (h : Rws w B A n R sl) (hb : Below B w w') : Rws w' B A n R sl :=
  ⟨h.lenR, h.lenS, h.top.below hb, fun i r l h1 h2 => ⟨(h.row i r l h1 h2).1.below hb, (h.row i r l h1 h2).2⟩⟩
theorem Rws.at_ {w : World} {B n : Nat} {A : Option Addr} {R : List (Option Addr × Nat × Nat)} {sl : List (List UInt8)} (h : Rws w B A n R sl) {i : Nat} (hi : i < n) :
    ∃ b o Ai ni ci l, A = some ⟨b, o, none⟩ ∧ b < B ∧ w.cell? ⟨b, o + i, none⟩ = some (.slice Ai ni ci) ∧ sl[i]? = some l ∧ Rd w B 1 Ai ni (l.map bv) ∧ ni ≤ ci := by
  obtain ⟨b, o, u, rfl, hb, hu, hc⟩ := h.top.at1 hi
  have h1 : R[i]? = some (R[i]'(by rw [h.lenR]; exact hi)) := List.getElem?_eq_getElem _
  have h2 : sl[i]? = some (sl[i]'(by rw [h.lenS]; exact hi)) := List.getElem?_eq_getElem _
  rw [List.getElem?_map, h1] at hu
  simp only [Option.map_some, Option.some.injEq] at hu
  have hrow := h.row i _ _ h1 h2
  exact ⟨b, o, _, _, _, _, rfl, hb, by rw [hc, ← hu], h2, hrow.1, hrow.2⟩
theorem Rws.zero {w : World} {B : Nat} {A : Option Addr} : Rws w B A 0 [] [] := ⟨rfl, rfl, Rd.nil, fun i r l h => by simp at h⟩
abbrev RowA := Option Addr × Nat × Nat
abbrev RowA.val (r : RowA) : Value := .slice r.1 r.2.1 r.2.2
def RowIs (w : World) (B : Nat) (r : RowA) (l : List UInt8) : Prop := Rd w B 1 r.1 r.2.1 (l.map bv) ∧ r.2.1 ≤ r.2.2
theorem Rws.mk1 {w : World} {B : Nat} {A : Option Addr} {r0 : RowA} {l0 : List UInt8} (h : Rd w B 1 A 1 [r0.val]) (h0 : RowIs w B r0 l0) : Rws w B A 1 [r0] [l0] :=
  ⟨rfl, rfl, h, fun i r l hr hl => by
    have hi : i < 1 := (List.getElem?_eq_some_iff.1 hr).1
    obtain rfl : i = 0 := by omega
    cases hr
    cases hl
    exact h0⟩
theorem Rws.mk2 {w : World} {B : Nat} {A : Option Addr} {r0 r1 : RowA} {l0 l1 : List UInt8} (h : Rd w B 1 A 2 [r0.val, r1.val]) (h0 : RowIs w B r0 l0) (h1 : RowIs w B r1 l1) : Rws w B A 2 [r0, r1] [l0, l1] :=
  ⟨rfl, rfl, h, fun i r l hr hl => by
    have hi : i < 2 := (List.getElem?_eq_some_iff.1 hr).1
    have c : i = 0 ∨ i = 1 := by omega
    rcases c with rfl | rfl
    · cases hr
      cases hl
      exact h0
    · cases hr
      cases hl
      exact h1⟩
theorem Rws.mk3 {w : World} {B : Nat} {A : Option Addr} {r0 r1 r2 : RowA} {l0 l1 l2 : List UInt8} (h : Rd w B 1 A 3 [r0.val, r1.val, r2.val]) (h0 : RowIs w B r0 l0) (h1 : RowIs w B r1 l1) (h2 : RowIs w B r2 l2) : Rws w B A 3 [r0, r1, r2] [l0, l1, l2] :=
  ⟨rfl, rfl, h, fun i r l hr hl => by
    have hi : i < 3 := (List.getElem?_eq_some_iff.1 hr).1
    have c : i = 0 ∨ i = 1 ∨ i = 2 := by omega
    rcases c with rfl | rfl | rfl
    · cases hr
      cases hl
      exact h0
    · cases hr
      cases hl
      exact h1
    · cases hr
      cases hl
      exact h2⟩
/-- The cells of a literal, as a slice. -/
theorem rdNew {w : World} {H : Nat} (t : TypeId) (cs : List Value) (fr : Nat × Nat) (h : w.heap.size = H) (B : Nat) (hB : H < B) : Rd (w.alloc (.cells cs.toArray t fr)) B 1 (some ⟨H, 0, none⟩) cs.length cs :=
  ⟨by simp, fun _ => ⟨_, _, rfl, hB, fun j u hu => by
    subst h
    rw [Nat.zero_add, cell_of_row _ _ j cs.toArray t fr (heap_alloc_new w _)]
    simpa using hu⟩⟩
theorem Rws.lit1 {W : World} {A0 : Option Addr} {n0 c0 : Nat} {l0 : List UInt8} (t : TypeId) (h0 : Rd W W.heap.size 1 A0 n0 (l0.map bv)) (k0 : n0 ≤ c0) :
    Rws (W.alloc (.cells #[.slice A0 n0 c0] t)) (W.alloc (.cells #[.slice A0 n0 c0] t)).heap.size (some ⟨W.heap.size, 0, none⟩) 1 [(A0, n0, c0)] [l0] :=
  Rws.mk1 (rdNew t [.slice A0 n0 c0] (0, 0) rfl _ (by simp)) ⟨(h0.alloc (Nat.le_refl _) _).more (by simp), k0⟩
theorem Rws.lit2 {W : World} {A0 A1 : Option Addr} {n0 c0 n1 c1 : Nat} {l0 l1 : List UInt8} (t : TypeId) (h0 : Rd W W.heap.size 1 A0 n0 (l0.map bv)) (k0 : n0 ≤ c0) (h1 : Rd W W.heap.size 1 A1 n1 (l1.map bv)) (k1 : n1 ≤ c1) :
    Rws (W.alloc (.cells #[.slice A0 n0 c0, .slice A1 n1 c1] t)) (W.alloc (.cells #[.slice A0 n0 c0, .slice A1 n1 c1] t)).heap.size (some ⟨W.heap.size, 0, none⟩) 2 [(A0, n0, c0), (A1, n1, c1)] [l0, l1] :=
  Rws.mk2 (rdNew t [.slice A0 n0 c0, .slice A1 n1 c1] (0, 0) rfl _ (by simp)) ⟨(h0.alloc (Nat.le_refl _) _).more (by simp), k0⟩ ⟨(h1.alloc (Nat.le_refl _) _).more (by simp), k1⟩
theorem flat_le (sl : List (List UInt8)) : ∀ i, (sl.take i).flatten.length ≤ sl.flatten.length := fun i => by
  have h := List.take_append_drop i sl
  have h2 : sl.flatten = (sl.take i).flatten ++ (sl.drop i).flatten := by rw [← List.flatten_append, h]
  rw [h2, List.length_append]
  omega
theorem flat_step (sl : List (List UInt8)) (i : Nat) (l : List UInt8) (h : sl[i]? = some l) : (sl.take (i + 1)).flatten = (sl.take i).flatten ++ l := by
  rw [List.take_add_one, h]
  simp

set_option maxRecDepth 100000 in
set_option maxHeartbeats 1000000 in
theorem sum_any (A : Option Addr) (n c : Nat) (R : List (Option Addr × Nat × Nat)) (sl : List (List UInt8)) (w : World) (hr : Rws w w.heap.size A n R sl) (hbd : sl.flatten.length ≤ 1125899906842624) (hnb : n ≤ 1099511627776) (ht : Tab w) :
    Calls Tryd.prog 10 #[.slice A n c] w fun e w' => e = .returned (tagV sl.flatten) ∧ Below w.heap.size w w' := by
  have HR := Lib.hid hr
  have HT := Lib.hid ht
  have hlt := ht.lt
  have hlt0 := ht.lt0
  have HSL := Lib.hid hr.lenS
  obtain ⟨W0, hW0, hz0, hbw0, hs0⟩ := zero27 w
  have HW0 := Lib.hid hW0
  clear hr ht hW0
  go_enter Tryd.func10, Tryd.ntmps10
  go_wp2_with fail
  rw [← HW0.out]
  refine (new_any W0 (HT.out.below hbw0)).mono ?_
  rintro e W1 ⟨rfl, hst1, hb1, hs1⟩
  have hz1 := hz0.later hb1
  have hbw1 : Below w.heap.size w W1 := hbw0.trans (hb1.mono hbw0.size)
  rw [hs0] at hst1 hs1 ⊢
  clear hz0 hbw0 hb1 HW0
  go_wp2_with fail
  go_loopw [9] (fun p wr => ∃ i : Nat, i ≤ n ∧ p = .int .i64 (i : Int) ∧ St wr (w.heap.size + 1) (sl.take i).flatten ∧ Bk wr w.heap.size 27 (zB 32) ∧ Below w.heap.size w wr)
    (fun p _ => n - (intOf p).toNat)
  case atStart => exact ⟨0, by omega, rfl, hst1, hz1, hbw1⟩
  case round =>
    clear hst1 hz1 hbw1 hs1
    obtain ⟨i, hi, rfl, hst, hz, hbw⟩ := hrel
    by_cases hlt : i < n
    · have hci : (i : Int) < (n : Int) := by omega
      obtain ⟨b, o, Ai, ni, ci, l, hA, hb, hc, hl, hri, hnc⟩ := (HR.out.below hbw).at_ hlt
      subst hA
      have hfl := flat_step sl i l hl
      have hle := flat_le sl (i + 1)
      have hll : l.length = ni := by simpa using hri.len1
      have hbd2 : (sl.take i).flatten.length + ni ≤ 1152921504606846976 := by
        rw [hfl, List.length_append] at hle
        omega
      have HFL := Lib.hid hfl
      clear hl hle hll hfl
      go_wp2_with fail
      refine (write_any (w.heap.size + 1) _ Ai ni ci l _ hst (Rdg.ofRd hri (by omega) hbw.size) hnc hbd2 (HT.out.below hbw) (by omega) (by omega)).mono ?_
      rintro e W2 ⟨rfl, hst2, hgr⟩
      have hz2 : Bk W2 w.heap.size 27 (zB 32) := (hgr.block _ hz.lt (by simp)).trans hz
      have hbw2 := hbw.grown hgr hbw.size (fun k hk => by cases hk; omega)
      rw [← HFL.out] at hst2
      clear hst hz hbw hgr hri hc
      go_wp2
      go_roundw
      case rel => exact ⟨i + 1, by omega, by go_num, hst2, hz2, hbw2⟩
      case measure => simp [intOf]; omega
    · obtain rfl : i = n := by omega
      clear hlt hi
      rw [List.take_of_length_le (by have := HSL.out; omega)] at hst
      have HS2 := Lib.hid hbw.size
      have hsz2 : (Tryd.prog.info? 27).map (·.size) = some ((shaL sl.flatten).map bv).toArray.size := by
        rw [List.size_toArray, List.length_map, shaL_len]
        kernel_rfl
      go_wp2_with fail
      refine (sumM_any (w.heap.size + 1) _ _ hst hbd (HT.out.below hbw)).mono ?_
      rintro e W3 ⟨rfl, hb3⟩
      unfold tagV
      go_wp2_with (refine wpList_store_row (P := Tryd.prog) rfl 27 _ _ rfl w.heap.size _ rfl rfl _ _ (hz.later hb3) hsz2 (by simp [zB, shaL_len]) (by simp [bv, Value.oneCell']) ?_)
      refine bodyPost_ret (v := .agg ((shaL sl.flatten).map bv).toArray) (results_cell_row rfl _ _ w.heap.size _ _ _ _ rfl (setRow_heap W3 w.heap.size _ _ _ _ (hz.later hb3)) Tryd.underlying27 rfl hsz2) rfl ⟨rfl, below_setRow (hbw.trans (hb3.mono HS2.out)) (Nat.le_refl _) _⟩
end Go.Proofs.YtnjahmikenjjaaaDoor
