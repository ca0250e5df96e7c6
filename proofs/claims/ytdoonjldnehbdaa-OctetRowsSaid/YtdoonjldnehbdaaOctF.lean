/- Layer 1 (octet): the reference's taker of byte strings. -/
import Derived.Test.YtdoonjldnehbdaaOctE
set_option linter.unusedVariables false
namespace Go.Proofs.Ytdoonjldnehbdaa
open Go Go.RowKit

set_option maxRecDepth 100000 in
set_option maxHeartbeats 1000000 in
theorem rTakeBytes_any (A : Option Addr) (n c : Nat) (t most : Int) (bs : List UInt8) (w : World) (hr : Rd w w.heap.size 1 A n (bs.map bv)) (hc : n ≤ c) (hm : n ≤ 140737488355328) (hn : n ≤ 70368744177664) (hw : -9223372036854775808 ≤ most ∧ most ≤ 9223372036854775807) (ss : List UInt8) (x z : Nat) (hans : tbAns bs t most = (ss, x, z)) :
    Calls Try.prog 20 #[.slice A n c, .int .i64 t, .int .i64 most] w fun e w' => ∃ A' c' m, e = .returned (.tuple #[.slice A' m c', .int .i64 (x : Int), .int .i64 (z : Int)]) ∧ Ow w' w.heap.size A' c' m ss ∧ Below w.heap.size w w' := by
  have hl : bs.length = n := by simpa using hr.len1
  obtain ⟨v1, x1, z1, h1⟩ : ∃ v x z, tvAns bs t = (v, x, z) := ⟨_, _, _, rfl⟩
  have hbd := tvAns_bd h1
  have HC := Lib.hid (rTakeVar_any A n c t bs w hr hc (by omega) v1 x1 z1 h1)
  unfold tbAns at hans
  rw [h1] at hans
  dsimp only at hans
  by_cases hz : z1 = 0
  · subst hz
    rw [if_neg (by simp)] at hans
    by_cases hmost : most < 0 ∨ most < (v1 : Int)
    · rw [if_pos hmost] at hans
      simp only [Prod.mk.injEq] at hans
      obtain ⟨rfl, rfl, rfl⟩ := hans
      by_cases hneg : most < 0
      · go_enter Try.func20, Try.ntmps20
        go_wp2_with (go_at_call 16; refine HC.out.mono ?_; rintro e w1 ⟨rfl, hb1⟩)
        go_ret3
        exact ⟨none, 0, 0, rfl, owNil _ _, hb1⟩
      · have hneg : 0 ≤ most := by omega
        have hmost : most < (v1 : Int) := by omega
        go_enter Try.func20, Try.ntmps20
        go_wp2_with (go_at_call 16; refine HC.out.mono ?_; rintro e w1 ⟨rfl, hb1⟩)
        go_ret3
        exact ⟨none, 0, 0, rfl, owNil _ _, hb1⟩
    · rw [if_neg hmost] at hans
      have hm1 : 0 ≤ most := by omega
      have hm2 : (v1 : Int) ≤ most := by omega
      have hw2 : most ≤ 9223372036854775807 := hw.2
      have hx1 : x1 ≤ n := by omega
      clear hw hmost
      by_cases hsh : bs.length < x1 + v1
      · rw [if_pos hsh] at hans
        simp only [Prod.mk.injEq] at hans
        obtain ⟨rfl, rfl, rfl⟩ := hans
        have hsh : n < x1 + v1 := by omega
        clear hl hbd
        go_enter Try.func20, Try.ntmps20
        go_wp2_with (go_at_call 16; refine HC.out.mono ?_; rintro e w1 ⟨rfl, hb1⟩)
        go_ret3
        exact ⟨none, 0, 0, rfl, owNil _ _, hb1⟩
      · rw [if_neg hsh] at hans
        simp only [Prod.mk.injEq] at hans
        obtain ⟨rfl, rfl, rfl⟩ := hans
        have hsh : x1 + v1 ≤ n := by omega
        have hcut := hr.cut1 (k := x1) (m := x1 + v1) (cap := c) (by omega) hsh hc
        rw [← List.map_drop, ← List.map_take] at hcut
        have hlv : x1 + v1 - x1 ≤ 70368744177664 := by omega
        have hev : x1 + v1 - x1 = v1 := by omega
        have HE := Lib.hid hev
        clear hev
        clear hl hbd
        go_enter Try.func20, Try.ntmps20
        go_wp2_with (first | (go_at_call 16; refine HC.out.mono ?_; rintro e w1 ⟨rfl, hb1⟩) | (at_builtin; refine app8 _ rfl _ _ rfl w.heap.size _ _ 0 [] rfl (owLit0 w1 _ hb1.size) w.heap.size _ (x1 + v1 - x1) (c - x1) _ rfl (hcut.below (hb1.alloc hb1.size _)) (by omega) (by have := hb1.size; simp; omega) ?_; intro A1 c1 w2 ho1 hb2 _; rw [Nat.zero_add] at ho1))
        all_goals go_ret3
        all_goals rw [HE.out] at ho1
        all_goals exact ⟨A1, c1, v1, by simp, ho1, (hb1.alloc hb1.size _).trans hb2⟩
  · rw [if_pos hz] at hans
    simp only [Prod.mk.injEq] at hans
    obtain ⟨rfl, rfl, rfl⟩ := hans
    have hz1 : ((z1 : Int) == 0) = false := by simpa using hz
    have hz2 : ((z1 : Int) != 0) = true := by simpa using hz
    go_enter Try.func20, Try.ntmps20
    go_wp2_with (go_at_call 16; refine HC.out.mono ?_; rintro e w1 ⟨rfl, hb1⟩)
    go_ret3
    exact ⟨none, 0, 0, rfl, owNil _ _, hb1⟩
end Go.Proofs.Ytdoonjldnehbdaa
