/- Texts, packed: StC StD -/
import Derived.Test.YtfmghkplafploaaPwC
set_option linter.unusedVariables false
set_option linter.unusedSimpArgs false
namespace Go.Proofs.Ytfmghkplafploaa
open Go Go.RowKit

/-- The predicates of P, rising, each with the level 0. -/
structure Prd (X : List Lv) (P : List UInt32) : Prop where
  sorted : (X.map (·.1)).Pairwise (· < ·)
  mem : ∀ p, p ∈ X.map (·.1) ↔ p ∈ P
  zero : ∀ x ∈ X, x.2 = 0
theorem Prd.congr {X : List Lv} {P P' : List UInt32} (h : Prd X P) (e : ∀ p, p ∈ P ↔ p ∈ P') : Prd X P' := ⟨h.sorted, fun p => (h.mem p).trans (e p), h.zero⟩
/-- .. one more, in its place. -/
theorem Prd.ins {X : List Lv} {P : List UInt32} (h : Prd X P) {p : UInt32} {t : Nat} (hn : p ∉ P) (h1 : ∀ x ∈ X.take t, x.1 < p) (h2 : ∀ x ∈ X.drop t, p < x.1) : Prd (X.take t ++ (p, 0) :: X.drop t) (P ++ [p]) := by
  have hX : X = X.take t ++ X.drop t := (List.take_append_drop t X).symm
  have hs := h.sorted
  rw [hX, List.map_append, List.pairwise_append] at hs
  refine ⟨?_, fun q => ?_, fun x hx => ?_⟩
  · rw [List.map_append, List.map_cons, List.pairwise_append, List.pairwise_cons]
    refine ⟨hs.1, ⟨fun q hq => ?_, hs.2.1⟩, fun a ha b hb => ?_⟩
    · obtain ⟨x, hx, rfl⟩ := List.mem_map.1 hq
      exact h2 x hx
    · obtain ⟨x, hx, rfl⟩ := List.mem_map.1 ha
      rcases List.mem_cons.1 hb with rfl | hb
      · exact h1 x hx
      · exact hs.2.2 _ (List.mem_map.2 ⟨x, hx, rfl⟩) b hb
  · have hm := h.mem q
    rw [hX, List.map_append, List.mem_append] at hm
    rw [List.map_append, List.map_cons, List.mem_append, List.mem_cons, List.mem_append, List.mem_singleton]
    constructor
    · rintro (e | e | e)
      · exact .inl (hm.1 (.inl e))
      · exact .inr e
      · exact .inl (hm.1 (.inr e))
    · rintro (e | e)
      · rcases hm.2 e with e | e
        · exact .inl e
        · exact .inr (.inr e)
      · exact .inr (.inl e)
  · rcases List.mem_append.1 hx with hx | hx
    · exact h.zero x (List.mem_of_mem_take hx)
    · rcases List.mem_cons.1 hx with rfl | hx
      · rfl
      · exact h.zero x (List.mem_of_mem_drop hx)
end Go.Proofs.Ytfmghkplafploaa

set_option linter.unusedVariables false
set_option linter.unusedSimpArgs false
namespace Go.Proofs.Ytfmghkplafploaa
open Go Go.RowKit

/-- How much can still be raised. -/
def mu (m : Nat) (X : List Lv) : Nat := (X.map fun x => m - x.2).sum
/-- Levels within a round: tb says whether one has been raised. -/
structure Run (P : List UInt32) (E : List Ed) (G : Nat) (vis : List Ed) (X : List Lv) (tb : Bool) : Prop where
  fst : X.map (·.1) = P
  low : ∀ g, Valid E g → ∀ p ∈ P, lvN X p ≤ g p
  top : ∀ x ∈ X, x.2 < P.length
  le : mu P.length X ≤ G
  lt : tb = true → mu P.length X < G
  vis : tb = false → ∀ e ∈ vis, lvN X e.2.1 + dl e.2.2 ≤ lvN X e.1
section
variable {P : List UInt32} {E vis : List Ed} {G : Nat} {X : List Lv} {tb : Bool}
theorem Run.len (h : Run P E G vis X tb) : X.length = P.length := by rw [← h.fst, List.length_map]
/-- None raised in a whole round: they are the least. -/
theorem Run.least (h : Run P E G E X false) : Least E (lvN X) :=
  ⟨h.vis rfl, fun g hg p => by
    by_cases hp : p ∈ P
    · exact h.low g hg p hp
    · unfold lvN
      rw [lvO_none (by rw [h.fst]; exact hp)]
      exact Nat.zero_le _⟩
theorem Run.start (h : Run P E G vis X tb) : Run P E (mu P.length X) [] X false := ⟨h.fst, h.low, h.top, Nat.le_refl _, (fun e => by cases e), (fun _ e he => by cases he)⟩
theorem Run.wants (h : Run P E G vis X tb) {e : Ed} (he : e ∈ E) (hb : e.2.1 ∈ P) : ∀ g, Valid E g → lvN X e.2.1 + dl e.2.2 ≤ g e.1 := fun g hg => by
  have h1 := h.low g hg _ hb
  have h2 := hg e he
  omega
end
theorem Run.zero {P : List UInt32} {E : List Ed} {X : List Lv} (hf : X.map (·.1) = P) (hs : P.Pairwise (· < ·)) (hz : ∀ x ∈ X, x.2 = 0) : Run P E (mu P.length X) [] X false := by
  have hl : X.length = P.length := by rw [← hf, List.length_map]
  refine ⟨hf, fun g _ p hp => ?_, fun x hx => ?_, Nat.le_refl _, (fun e => by cases e), (fun _ e he => by cases he)⟩
  · have := hz _ (lvN_mem (by rw [hf]; exact hp))
    dsimp only at this
    omega
  · have := List.length_pos_of_mem hx
    rw [hz x hx]
    omega
end Go.Proofs.Ytfmghkplafploaa

