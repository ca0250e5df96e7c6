/- Layer 11 (safe), the landed program: slices.Sort, slices.Compact of few numbers. -/
import Derived.Test.YtggnhgfickkgdaaSfU
set_option linter.unusedVariables false
set_option linter.unusedSimpArgs false
namespace Go.Proofs.Ytggnhgfickkgdaa
open Go Go.RowKit

set_option maxRecDepth 100000 in
set_option maxHeartbeats 4000000 in
theorem len64_any (n : Nat) (hn : n ≤ 6) (w : World) : Calls Try.prog 50 #[.int .u64 (n : Int)] w fun e w' => (∃ v : Int, e = .returned (.int .i64 v)) ∧ w' = w := by
  have h : n = 0 ∨ n = 1 ∨ n = 2 ∨ n = 3 ∨ n = 4 ∨ n = 5 ∨ n = 6 := by omega
  rcases h with rfl | rfl | rfl | rfl | rfl | rfl | rfl
  · show Calls Try.prog 50 #[.int .u64 0] w _
    go_enter Try.func50, Try.ntmps50
    repeat (first | go_skip | go_guarded | go_step)
    go_ret
    exact ⟨⟨_, rfl⟩, rfl⟩
  · show Calls Try.prog 50 #[.int .u64 1] w _
    go_enter Try.func50, Try.ntmps50
    repeat (first | go_skip | go_guarded | go_step)
    go_ret
    exact ⟨⟨_, rfl⟩, rfl⟩
  · show Calls Try.prog 50 #[.int .u64 2] w _
    go_enter Try.func50, Try.ntmps50
    repeat (first | go_skip | go_guarded | go_step)
    go_ret
    exact ⟨⟨_, rfl⟩, rfl⟩
  · show Calls Try.prog 50 #[.int .u64 3] w _
    go_enter Try.func50, Try.ntmps50
    repeat (first | go_skip | go_guarded | go_step)
    go_ret
    exact ⟨⟨_, rfl⟩, rfl⟩
  · show Calls Try.prog 50 #[.int .u64 4] w _
    go_enter Try.func50, Try.ntmps50
    repeat (first | go_skip | go_guarded | go_step)
    go_ret
    exact ⟨⟨_, rfl⟩, rfl⟩
  · show Calls Try.prog 50 #[.int .u64 5] w _
    go_enter Try.func50, Try.ntmps50
    repeat (first | go_skip | go_guarded | go_step)
    go_ret
    exact ⟨⟨_, rfl⟩, rfl⟩
  · show Calls Try.prog 50 #[.int .u64 6] w _
    go_enter Try.func50, Try.ntmps50
    repeat (first | go_skip | go_guarded | go_step)
    go_ret
    exact ⟨⟨_, rfl⟩, rfl⟩
theorem len_any (n : Nat) (hn : n ≤ 6) (w : World) : Calls Try.prog 39 #[.int .u64 (n : Int)] w fun e w' => (∃ v : Int, e = .returned (.int .i64 v)) ∧ w' = w := by
  go_enter Try.func39, Try.ntmps39
  repeat (first | go_skip | go_guarded | go_step)
  refine (len64_any n hn w).mono ?_
  rintro e w' ⟨⟨v, rfl⟩, rfl⟩
  dsimp only
  repeat (first | go_skip | go_guarded | go_step)
  go_ret
  exact ⟨⟨_, rfl⟩, rfl⟩
theorem isort_none (A : Option Addr) (c : Nat) (w : World) : Calls Try.prog 40 #[.slice A 0 c, .int .i64 0, .int .i64 0] w fun e w' => e = .returned (.tuple #[]) ∧ w' = w := by
  go_enter Try.func40, Try.ntmps40
  repeat (first | go_skip | go_guarded | go_step)
  go_loopw [6] (fun q wr => q = .int .i64 1 ∧ wr = w) (fun q _ => 13 - (intOf q).toNat)
  case atStart => exact ⟨by go_num, rfl⟩
  case round =>
    obtain ⟨rfl, rfl⟩ := hrel
    repeat (first | go_skip | go_guarded | go_step)
    go_end0
    exact ⟨rfl, rfl⟩
set_option maxRecDepth 100000 in
set_option maxHeartbeats 4000000 in
theorem pdq_any (A : Option Addr) (c n : Nat) (v : Int) (w : World) (R : World → Prop) (hn : n ≤ 6)
    (h : Calls Try.prog 40 #[.slice A n c, .int .i64 0, .int .i64 (n : Int)] w fun e w' => e = .returned (.tuple #[]) ∧ R w') :
    Calls Try.prog 38 #[.slice A n c, .int .i64 0, .int .i64 (n : Int), .int .i64 v] w fun e w' => e = .returned (.tuple #[]) ∧ R w' := by
  have hd : decide ((n : Int) ≤ 12) = true := by simp; omega
  go_enter Try.func38, Try.ntmps38
  repeat (first | go_skip | go_guarded | go_step)
  go_loopw [1, 2] (fun p q wr => p = .int .i64 0 ∧ q = .int .i64 (n : Int) ∧ wr = w) (fun _ _ _ => 0)
  case atStart => exact ⟨rfl, rfl, rfl⟩
  case round =>
    obtain ⟨rfl, rfl, rfl⟩ := hrel
    repeat (first | go_skip | go_guarded | go_step)
    refine h.mono ?_
    rintro e w' ⟨rfl, hR⟩
    dsimp only
    repeat (first | go_skip | go_guarded | go_step)
    refine bodyPost_ret (results_none rfl _ _ _) rfl ?_
    exact ⟨rfl, hR⟩
set_option maxRecDepth 100000 in
set_option maxHeartbeats 4000000 in
theorem sortU_run (A : Option Addr) (c n : Nat) (w : World) (R : World → Prop) (hn : n ≤ 6)
    (h : Calls Try.prog 40 #[.slice A n c, .int .i64 0, .int .i64 (n : Int)] w fun e w' => e = .returned (.tuple #[]) ∧ R w') :
    Calls Try.prog 36 #[.slice A n c] w fun e w' => e = .returned (.tuple #[]) ∧ R w' := by
  have hw : IntKind.u64.wrap (n : Int) = (n : Int) := by
    have hb : IntKind.u64.bits = 64 := rfl
    simp only [IntKind.wrap, hb]
    simp [IntKind.signed]
    omega
  go_enter Try.func36, Try.ntmps36
  repeat (first | go_skip | go_guarded | go_step)
  refine (len_any n hn w).mono ?_
  rintro e w' ⟨⟨v, rfl⟩, rfl⟩
  dsimp only
  repeat (first | go_skip | go_guarded | go_step)
  refine (pdq_any A c n v _ R hn h).mono ?_
  rintro e w2 ⟨rfl, hR⟩
  dsimp only
  repeat (first | go_skip | go_guarded | go_step)
  go_end0
  exact ⟨rfl, hR⟩
theorem sortU_any (A : Option Addr) (c n : Nat) (l : List UInt32) (w : World) (base : Nat) (h : OwU w base A c n l) (hn : n ≤ 6) :
    Calls Try.prog 36 #[.slice A n c] w fun e w' => e = .returned (.tuple #[]) ∧ ∃ l' : List UInt32, l'.Perm l ∧ OwU w' base A c n l' ∧ Turn (fun k => A.map (·.block) = some k) w w' := by
  have hl := rdU_len h.rd
  by_cases h0 : n = 0
  · subst h0
    refine sortU_run A c 0 w (fun w' => ∃ l' : List UInt32, l'.Perm l ∧ OwU w' base A c 0 l' ∧ Turn (fun k => A.map (·.block) = some k) w w') (by omega) ((isort_none A c w).mono ?_)
    rintro e w' ⟨rfl, rfl⟩
    exact ⟨rfl, l, List.Perm.refl _, h, Turn.refl _ _⟩
  · obtain ⟨g, rest, rfl, hb, hc, hm, hr, hbk⟩ := h.block (by omega)
    refine sortU_run _ c n w (fun w' => ∃ l' : List UInt32, l'.Perm l ∧ OwU w' base (some ⟨g, 0, none⟩) c n l' ∧ Turn (fun k => (some (⟨g, 0, none⟩ : Addr)).map (·.block) = some k) w w') hn ((isort_any g c n l rest w hl (by omega) hbk).mono ?_)
    rintro e w' ⟨rfl, l', hp, hk, ht⟩
    exact ⟨rfl, l', hp, OwU.ofBlock hb (by rw [hp.length_eq]; exact hl) hr hc hm hk, ht.mono fun k _ e => by rw [e]; rfl⟩
end Go.Proofs.Ytggnhgfickkgdaa
