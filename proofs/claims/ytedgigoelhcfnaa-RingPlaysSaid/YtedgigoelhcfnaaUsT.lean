/- slices.Sort of numbers of 32 bits, over a row that is owned: what it leaves is the row sorted. -/
import Derived.Test.YtedgigoelhcfnaaUsS
set_option linter.unusedVariables false
set_option linter.unusedSimpArgs false
namespace Go.Proofs.Ytedgigoelhcfnaa
open Go Go.RowKit Go.Sort

/-- The row in ascending order. -/
def ascU (l : List UInt32) : List UInt32 := l.mergeSort fun x y => decide (x.toNat ≤ y.toNat)
theorem sortU (l : List UInt32) : (Go.Sort.sort ltU l.toArray).toList = ascU l := by
  obtain ⟨hP, hSo⟩ := sort_sorts ltU swo_ltU l.toArray
  have h := sorted_unique_holds swo_ltU (fun x y h1 h2 => by simp only [ltU, decide_eq_false_iff_not] at h1 h2; exact UInt32.toNat_inj.1 (by omega)) l.toArray _ hP hSo
  rw [h]
  unfold ascU
  congr 1
  funext x y
  show (!decide (y.toNat < x.toNat)) = decide (x.toNat ≤ y.toNat)
  by_cases h : x.toNat ≤ y.toNat
  · have h' : ¬ y.toNat < x.toNat := by omega
    simp [h, h']
  · have h' : y.toNat < x.toNat := by omega
    simp [h, h']
theorem ascU_perm (l : List UInt32) : (ascU l).Perm l := List.mergeSort_perm l _
theorem ascU_sorted (l : List UInt32) : (ascU l).Pairwise fun x y => x.toNat ≤ y.toNat := by
  have h := List.pairwise_mergeSort (le := fun x y : UInt32 => decide (x.toNat ≤ y.toNat)) (fun a b c h1 h2 => by simp only [decide_eq_true_eq] at *; omega) (fun a b => by simp only [Bool.or_eq_true, decide_eq_true_eq]; omega) l
  exact h.imp fun h => by simpa using h
theorem ascU_length (l : List UInt32) : (ascU l).length = l.length := (ascU_perm l).length_eq
set_option maxRecDepth 100000 in
theorem usInsNil (w : World) : Calls Try.prog 28 #[.slice none 0 0, .int .i64 0, .int .i64 0] w fun e w' => e = .returned (.tuple #[]) ∧ w' = w := by
  go_enter Try.func28, Try.ntmps28
  repeat (first | go_skip | go_guarded | go_step)
  go_loopw [6] (fun q wr => q = .int .i64 1 ∧ wr = w) (fun q _ => 0)
  case atStart => exact ⟨rfl, rfl⟩
  case round =>
    obtain ⟨rfl, rfl⟩ := hrel
    repeat (first | go_skip | go_guarded | go_step)
    go_end0
    exact ⟨rfl, rfl⟩
set_option maxRecDepth 100000 in
theorem usPdqNil (w : World) : Calls Try.prog 26 #[.slice none 0 0, .int .i64 0, .int .i64 0, .int .i64 0] w fun e w' => e = .returned (.tuple #[]) ∧ w' = w := by
  go_enter Try.func26, Try.ntmps26
  go_wp2
  go_loopg [1, 2, 3, 8, 9] 0 (fun k s1 s2 s3 s8 s9 wr => s1 = .int .i64 0 ∧ s2 = .int .i64 0 ∧ s3 = .int .i64 0 ∧ s8 = .bool true ∧ s9 = .bool true ∧ wr = w)
  case atStart => exact ⟨rfl, rfl, rfl, rfl, rfl, rfl⟩
  case round =>
    obtain ⟨rfl, rfl, rfl, rfl, rfl, rfl⟩ := hrel
    go_wp2_with (go_at_call 28; refine (usInsNil _).mono ?_; rintro e w1 ⟨rfl, rfl⟩)
    (try simp only [Exit.inBlock, Exit.then]); refine bodyPost_ret (results_none rfl _ _ _) rfl ?_
    exact ⟨rfl, rfl⟩
set_option maxRecDepth 100000 in
theorem usSortNil (w : World) : Calls Try.prog 23 #[.slice none 0 0] w fun e w' => e = .returned (.tuple #[]) ∧ w' = w := by
  have hL : ∀ w, Calls Try.prog 27 #[.int .u64 0] w fun e w' => e = .returned (.int .i64 0) ∧ w' = w := fun w => usLen 0 (by omega) w
  go_enter Try.func23, Try.ntmps23
  repeat (first | go_skip | go_guarded | go_step)
  refine (hL _).mono ?_
  rintro e w' ⟨rfl, rfl⟩
  dsimp only
  repeat (first | go_skip | go_guarded | go_step)
  refine (usPdqNil _).mono ?_
  rintro e w' ⟨rfl, rfl⟩
  dsimp only
  repeat (first | go_skip | go_guarded | go_step)
  go_end0
  exact ⟨rfl, rfl⟩
theorem usSortOwn (base : Nat) (A : Option Addr) (c n : Nat) (l : List UInt32) (w : World) (h : w.ownsRow base 31 1 (.slice A n c) n (l.map nu)) (hsz : n ≤ 1000000000000) :
    Calls Try.prog 23 #[.slice A n c] w fun e w' => e = .returned (.tuple #[]) ∧ w'.ownsRow base 31 1 (.slice A n c) n ((ascU l).map nu) ∧ Turn (fun k => A.map (·.block) = some k) w w' := by
  have hl : l.length = n := by have := h.1; simpa using this
  rcases h.2 with ⟨hv, hn0⟩ | ⟨g, cap, cur, hv, hb, hg, hnc, hcm, hcs, htk⟩
  · injection hv with h1 h2 h3
    subst h1 h2 h3
    have hl0 : l = [] := List.eq_nil_of_length_eq_zero hl
    subst hl0
    refine (usSortNil w).mono ?_
    rintro e w' ⟨rfl, rfl⟩
    exact ⟨rfl, by rw [show ascU [] = [] from List.eq_nil_of_length_eq_zero (ascU_length [])]; exact h, Turn.refl _ _⟩
  · injection hv with h1 h2 h3
    subst h1 h3
    simp only [Nat.mul_one] at hcs htk
    have hcur : cur = (l.map nu ++ cur.toList.drop n).toArray := by
      apply Array.ext'
      rw [← htk]
      simp
    have hbk : BkA w g l.toArray (cur.toList.drop n) := by
      show w.heap[g]? = some (.cells _ _ _)
      rw [hg]
      congr 2
    refine (usSort g c n l.toArray (cur.toList.drop n) w (by simpa using hl) hbk hsz).mono ?_
    rintro e w' ⟨rfl, hk, ht⟩
    refine ⟨rfl, ⟨by simp [ascU_length, hl], .inr ⟨g, c, ((ascU l).map nu ++ cur.toList.drop n).toArray, rfl, hb, ?_, hnc, hcm, ?_, ?_⟩⟩, ?_⟩
    · have h2 : w'.heap[g]? = some (.cells _ _ _) := hk
      rw [h2, sortU]
    · have h5 : cur.toList.length = c := by simpa using hcs
      have h6 : (cur.toList.drop n).length = c - n := by rw [List.length_drop, h5]
      rw [List.size_toArray, List.length_append, List.length_map, ascU_length, h6, hl]
      omega
    · have h7 : ((ascU l).map nu).length = n := by rw [List.length_map, ascU_length, hl]
      simp only [Nat.mul_one, List.toList_toArray]
      rw [List.take_append_of_le_length (by omega), List.take_of_length_le (by omega)]
    · exact ht.mono fun k _ hk => by show some g = some k; rw [show k = g from hk]
end Go.Proofs.Ytedgigoelhcfnaa
