/- Texts, packed: StK -/
import Derived.Test.YtfmghkplafploaaPwE
import Derived.Test.YtfmghkplafploaaPwF
import Derived.Test.YtfmghkplafploaaPwG
import Derived.Test.YtfmghkplafploaaPwB
import Derived.Test.YtfmghkplafploaaRows
set_option linter.unusedVariables false
set_option linter.unusedSimpArgs false
namespace Go.Proofs.Ytfmghkplafploaa
open Go Go.RowKit

/-- What is asked of the program's package strat. -/
structure StratOk : Prop where
  levels : ∀ (A : Option Addr) (n c : Nat) (Q : List ClA) (C : List Cl) (w : World), RdCs w w.heap.size A n Q C → n ≤ c → Slim C → n ≤ 1000 →
    Calls Try.prog 6 #[.slice A n c] w fun e w' => ∃ (er : Nat) (A' : Option Addr) (c' : Nat) (L : List Lv), e = .returned (.tuple #[.slice A' L.length c', .int .i64 (er : Int)]) ∧ LevTold C er L ∧ RdV w' w'.heap.size A' L.length L ∧ Below w.heap.size w w'
  strata : ∀ (A : Option Addr) (n c : Nat) (Q : List ClA) (C : List Cl) (w : World), RdCs w w.heap.size A n Q C → n ≤ c → Slim C → n ≤ 1000 →
    Calls Try.prog 7 #[.slice A n c] w fun e w' => ∃ (er : Nat) (A' : Option Addr) (c' : Nat) (S : List (List Nat)) (R : List SlA), e = .returned (.tuple #[.slice A' S.length c', .int .i64 (er : Int)]) ∧ StrTold C er S ∧ RdS w' w'.heap.size A' S.length R S ∧ Below w.heap.size w w'
/-- The anchor. -/
def TWorksOk : Prop := ∀ w : World, Calls Try.prog 5 #[] w fun e w' => e = .returned (.bool true) ∧ Below w.heap.size w w'
theorem LevTold.len {C : List Cl} {e : Nat} {L : List Lv} (h : LevTold C e L) : L.length ≤ (prL C).length := by
  cases h with
  | wrong _ => exact Nat.zero_le _
  | none _ _ => exact Nat.zero_le _
  | some _ _ h3 h4 _ =>
    have := nodup_len (sorted_nodup h3) fun x hx => (h4 x).1 hx
    rwa [List.length_map] at this
theorem StrTold.lens {C : List Cl} {e : Nat} {S : List (List Nat)} (h : StrTold C e S) : S.length ≤ (prL C).length ∧ ∀ s ∈ S, s.length ≤ C.length := by
  cases h with
  | bad _ _ => exact ⟨Nat.zero_le _, fun s hs => by cases hs⟩
  | good _ hl =>
    unfold strM
    rw [List.length_map, List.length_range]
    refine ⟨topM_le fun v hv => ?_, fun s hs => ?_⟩
    · obtain ⟨x, hx, rfl⟩ := List.mem_map.1 hv
      exact hl.lt (fun e he => edge_body he) (List.mem_flatMap.2 ⟨x, hx, by unfold prC; simp⟩)
    · obtain ⟨k, _, rfl⟩ := List.mem_map.1 hs
      exact Nat.le_trans (rowM_len _ k) (by unfold headsM; rw [List.length_map]; exact Nat.le_refl _)
theorem pr_bound {C : List Cl} (hS : Slim C) (hn : C.length ≤ 100000) : (prL C).length ≤ 500000000000 := by
  have h1 := prL_len fun x hx => (hS x hx).2.1
  have : C.length * 1000001 ≤ 100000 * 1000001 := Nat.mul_le_mul_right _ hn
  omega
theorem eqV (p : UInt32) (v : Int) (W : World) : (Op.equalIn 10000 42 (.agg #[nv p, .int .i64 v]) (.agg #[nv p, .int .i64 v])).run Try.prog W = .ok true W := by
  go_simp
  try simp
end Go.Proofs.Ytfmghkplafploaa

