/- Layer 1 (octet): the small callees' contracts. -/
import Derived.Test.YtdoonjldnehbdaaOctM
import Derived.Test.YtdoonjldnehbdaaOw
import Derived.RangeFuncNested
import Derived.RangeFuncBound
import Derived.RangeFuncCalls
import Derived.RangeFuncLeaves
import Derived.Shelf.Abstract
import Derived.Shelf.RegionOpen
import Derived.OwnWalkIn
import Derived.TacticsInMore
import Derived.LoopNIn
import Derived.LoopIn
import Derived.Test.YtdoonjldnehbdaaRows
set_option linter.unusedVariables false
namespace Go.Proofs.Ytdoonjldnehbdaa
open Go Go.RowKit

set_option maxHeartbeats 400000 in
theorem fresh_nat (A : Option Addr) (n c r : Nat) (bs : List UInt8) (w : World) (hr : Rd w w.heap.size 1 A n (bs.map bv)) (hb : n + r ≤ 70368744177664) :
    Calls Try.prog 24 #[.slice A n c, .int .i64 (r : Int)] w fun e w' => ∃ A' c', e = .returned (.slice A' n c') ∧ Ow w' w.heap.size A' c' n bs ∧ Below w.heap.size w w' := by
  obtain ⟨i0, hi, hz0, hz1, hz2⟩ := info_parts u8info
  go_enter Try.func24, Try.ntmps24
  go_wp2_with (first
    | (at_make; refine wpList_make_own _ rfl _ _ 22 rfl w.heap.size 5 i0 _ 1 Try.underlying22 hi hz0 hz1 _ _ _ (n + r) rfl rfl (by omega) (by rw [hz2]; omega) (by simp only [maxLen]; omega) (Nat.le_refl _) ?_; intro w1 hown1 hg1)
    | (at_builtin; refine wpList_app _ rfl _ _ 22 rfl w.heap.size 5 i0 _ 1 1 Try.underlying22 hi hz0 hz1 hz2 rfl (by decide) _ _ _ rfl hown1 w.heap.size A n c (bs.map bv) rfl (hr.below ((Below.refl _ _).grown hg1 (Nat.le_refl _) (by simp))) (bv_one bs) (by simp only [maxLen]; omega) (by omega) hg1.size ?_; intro A' c' w2 hown2 hg2 _))
  go_ret
  simp only [Nat.zero_add, List.nil_append] at *
  exact ⟨A', c', rfl, hown2, belowApp ((Below.refl _ _).grown hg1 (Nat.le_refl _) (by simp)) hown1 hg2 hg1.size⟩
theorem fresh_any (A : Option Addr) (n c : Nat) (r : Int) (bs : List UInt8) (w : World) (hr : Rd w w.heap.size 1 A n (bs.map bv)) (h0 : 0 ≤ r) (hb : n + r.toNat ≤ 70368744177664) :
    Calls Try.prog 24 #[.slice A n c, .int .i64 r] w fun e w' => ∃ A' c', e = .returned (.slice A' n c') ∧ Ow w' w.heap.size A' c' n bs ∧ Below w.heap.size w w' := by
  obtain ⟨r, rfl⟩ := Int.eq_ofNat_of_zero_le h0
  exact fresh_nat A n c r bs w hr (by simpa using hb)

theorem isPlace_yes (A : Option Addr) (n c : Nat) (t : Int) (w : World) (h : 0 ≤ t ∧ t ≤ n) :
    Calls Try.prog 26 #[.slice A n c, .int .i64 t] w fun e w' => e = .returned (.bool true) ∧ w = w' := by
  obtain ⟨h1, h2⟩ := h
  go_enter Try.func26, Try.ntmps26
  go_wp2
  go_ret
  exact ⟨rfl, rfl⟩
theorem isPlace_no (A : Option Addr) (n c : Nat) (t : Int) (w : World) (h : t < 0 ∨ (n : Int) < t) :
    Calls Try.prog 26 #[.slice A n c, .int .i64 t] w fun e w' => e = .returned (.bool false) ∧ w = w' := by
  rcases h with h | h
  · go_enter Try.func26, Try.ntmps26
    go_wp2
    go_ret
    exact ⟨rfl, rfl⟩
  · have h0 : 0 ≤ t := by omega
    have hd : decide (t ≤ (n : Int)) = false := by simp; omega
    go_enter Try.func26, Try.ntmps26
    go_wp2
    go_ret
    exact ⟨rfl, rfl⟩
theorem isSize_yes (t : Int) (w : World) (h : 1 ≤ t ∧ t ≤ 8) :
    Calls Try.prog 27 #[.int .i64 t] w fun e w' => e = .returned (.bool true) ∧ w = w' := by
  obtain ⟨h1, h2⟩ := h
  go_enter Try.func27, Try.ntmps27
  go_wp2
  go_ret
  exact ⟨rfl, rfl⟩
theorem isSize_no (t : Int) (w : World) (h : t < 1 ∨ 8 < t) :
    Calls Try.prog 27 #[.int .i64 t] w fun e w' => e = .returned (.bool false) ∧ w = w' := by
  rcases h with h | h
  · go_enter Try.func27, Try.ntmps27
    go_wp2
    go_ret
    exact ⟨rfl, rfl⟩
  · have h0 : 1 ≤ t := by omega
    have hd : decide (t ≤ 8) = false := by simp; omega
    go_enter Try.func27, Try.ntmps27
    go_wp2
    go_ret
    exact ⟨rfl, rfl⟩

end Go.Proofs.Ytdoonjldnehbdaa
