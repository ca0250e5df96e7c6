/- Texts, packed: StX -/
import Derived.Test.YtfmghkplafploaaPwH
import Derived.Test.YtfmghkplafploaaPwJ
import Derived.Test.YtfmghkplafploaaPwP
import Derived.Test.YtfmghkplafploaaPwS
set_option linter.unusedVariables false
set_option linter.unusedSimpArgs false
namespace Go.Proofs.Ytfmghkplafploaa
open Go Go.RowKit

/-- Levels that are one within each part (cmp: which part; what has the same one comes to each other), no Not within a part, and each part's is the most that its edges to others want: they are the least. -/
theorem least_parts {E : List Ed} {P : List UInt32} (cmp : UInt32 → Nat) (lev : Nat → Nat) (hP : ∀ e ∈ E, e.1 ∈ P ∧ e.2.1 ∈ P)
    (hsame : ∀ a b, a ∈ P → b ∈ P → cmp a = cmp b → Way E a b) (hlt : ∀ e ∈ E, cmp e.2.1 ≤ cmp e.1) (hno : ∀ e ∈ E, cmp e.1 = cmp e.2.1 → e.2.2 = false)
    (hge : ∀ e ∈ E, cmp e.2.1 < cmp e.1 → lev (cmp e.2.1) + dl e.2.2 ≤ lev (cmp e.1))
    (hle : ∀ a, a ∈ P → lev (cmp a) = 0 ∨ ∃ e ∈ E, cmp e.1 = cmp a ∧ cmp e.2.1 < cmp a ∧ lev (cmp e.2.1) + dl e.2.2 = lev (cmp a)) :
    Least E (fun p => if p ∈ P then lev (cmp p) else 0) := by
  refine ⟨fun e he => ?_, fun g hg p => ?_⟩
  · obtain ⟨h1, h2⟩ := hP e he
    show (if e.2.1 ∈ P then lev (cmp e.2.1) else 0) + dl e.2.2 ≤ if e.1 ∈ P then lev (cmp e.1) else 0
    rw [if_pos h1, if_pos h2]
    rcases Nat.lt_or_eq_of_le (hlt e he) with h3 | h3
    · exact hge e he h3
    · rw [hno e he h3.symm, h3]
      exact Nat.le_refl _
  · show (if p ∈ P then lev (cmp p) else 0) ≤ g p
    split
    · rename_i hp
      suffices h : ∀ k p, p ∈ P → cmp p = k → lev k ≤ g p from h _ p hp rfl
      intro k
      induction k using Nat.strongRecOn with
      | _ k ih =>
        intro p hp hk
        rcases hle p hp with h0 | ⟨e, he, h1, h2, h3⟩
        · rw [hk] at h0; omega
        · obtain ⟨h4, h5⟩ := hP e he
          have h6 := ih _ (hk ▸ h2) e.2.1 h5 rfl
          have h7 := hg e he
          have h8 := (hsame p e.1 hp h4 h1.symm).le hg
          rw [hk] at h3
          omega
    · exact Nat.zero_le _
/-- A Not within a part: there are no levels. -/
theorem none_parts {E : List Ed} {P : List UInt32} (cmp : UInt32 → Nat) (hP : ∀ e ∈ E, e.1 ∈ P ∧ e.2.1 ∈ P)
    (hsame : ∀ a b, a ∈ P → b ∈ P → cmp a = cmp b → Way E a b) {e : Ed} (he : e ∈ E) (h1 : cmp e.1 = cmp e.2.1) (h2 : e.2.2 = true) : ¬ ∃ f, Valid E f := by
  rintro ⟨f, hf⟩
  obtain ⟨h3, h4⟩ := hP e he
  have h5 := (hsame e.2.1 e.1 h4 h3 h1.symm).le hf
  have h6 := hf e he
  rw [h2] at h6
  simp only [dl, if_true] at h6
  omega

/-! ### Predicates that have numbers -/
/-- Edges between numbers: ps are the predicates in the order of their numbers. -/
def ixU (ps : List UInt32) (p : UInt32) : Nat := ps.findIdx fun q => q == p
theorem ixU_at {ps : List UInt32} (hn : ps.Nodup) {i : Nat} {p : UInt32} (h : ps[i]? = some p) : ixU ps p = i := by
  obtain ⟨h1, h2⟩ := List.getElem?_eq_some_iff.1 h
  have h3 : p ∈ ps := List.mem_of_getElem? h
  have h4 : ixU ps p < ps.length := List.findIdx_lt_length_of_exists ⟨p, h3, by simp⟩
  have h5 : ps[ixU ps p] = p := by
    have h6 := List.findIdx_getElem (xs := ps) (p := fun q => q == p) (w := h4)
    exact beq_iff_eq.1 h6
  rcases Nat.lt_trichotomy (ixU ps p) i with k | k | k
  · exact absurd (h5.trans h2.symm) (List.pairwise_iff_getElem.1 hn _ _ h4 h1 k)
  · exact k
  · exact absurd (h2.trans h5.symm) (List.pairwise_iff_getElem.1 hn _ _ h1 h4 k)
theorem ixU_lt {ps : List UInt32} {p : UInt32} (h : p ∈ ps) : ixU ps p < ps.length := List.findIdx_lt_length_of_exists ⟨p, h, by simp⟩
theorem ixU_get {ps : List UInt32} {p : UInt32} (h : p ∈ ps) : ps[ixU ps p]? = some p := by
  have h4 := ixU_lt h
  rw [List.getElem?_eq_getElem h4]
  have h6 := List.findIdx_getElem (xs := ps) (p := fun q => q == p) (w := h4)
  exact congrArg some (beq_iff_eq.1 h6)
def edN (ps : List UInt32) (E : List Ed) : List (Nat × Nat) := E.map fun e => (ixU ps e.1, ixU ps e.2.1)
theorem edN_in {ps : List UInt32} {E : List Ed} (hP : ∀ e ∈ E, e.1 ∈ ps ∧ e.2.1 ∈ ps) : In ps.length (edN ps E) := by
  intro e he
  obtain ⟨x, hx, rfl⟩ := List.mem_map.1 he
  exact ⟨ixU_lt (hP x hx).1, ixU_lt (hP x hx).2⟩
/-- What comes to a number has a way to its predicate. -/
theorem com_way {ps : List UInt32} {E : List Ed} (hn : ps.Nodup) (hP : ∀ e ∈ E, e.1 ∈ ps ∧ e.2.1 ∈ ps) {u v : Nat} (h : Com (edN ps E) u v) {a : UInt32} (ha : ps[u]? = some a) : ∃ b, ps[v]? = some b ∧ Way E a b := by
  induction h with
  | refl => exact ⟨a, ha, .refl⟩
  | step _ he ih =>
    obtain ⟨b, hb, hw⟩ := ih
    obtain ⟨e, hE, hex⟩ := List.mem_map.1 he
    simp only [Prod.mk.injEq] at hex
    obtain ⟨e1, e2⟩ := hex
    obtain ⟨h1, h2⟩ := hP e hE
    have h3 := ixU_get h1
    rw [e1, hb] at h3
    cases h3
    refine ⟨e.2.1, ?_, hw.step hE rfl⟩
    rw [← e2]
    exact ixU_get h2
/-- Which part a predicate's number is in. -/
def cmpU (ps : List UInt32) (Q : List (List Nat)) (p : UInt32) : Nat := ofQ Q (ixU ps p)
section
variable {ps : List UInt32} {E : List Ed} {Q : List (List Nat)}
theorem same_way (hn : ps.Nodup) (hP : ∀ e ∈ E, e.1 ∈ ps ∧ e.2.1 ∈ ps) (ho : Order ps.length (edN ps E) [] Q) {a b : UInt32} (ha : a ∈ ps) (hb : b ∈ ps) (h : cmpU ps Q a = cmpU ps Q b) : Way E a b := by
  have hI := ho.isParts (edN_in hP)
  have hB : Both (edN ps E) (ixU ps a) (ixU ps b) := (hI.both_iff (ixU_lt ha) (ixU_lt hb)).1 h
  obtain ⟨b', h1, h2⟩ := com_way hn hP hB.1 (ixU_get ha)
  rw [ixU_get hb] at h1
  cases h1
  exact h2
theorem edge_le (hP : ∀ e ∈ E, e.1 ∈ ps ∧ e.2.1 ∈ ps) (ho : Order ps.length (edN ps E) [] Q) : ∀ e ∈ E, cmpU ps Q e.2.1 ≤ cmpU ps Q e.1 := fun e he =>
  ho.later (edN_in hP) (ixU_lt (hP e he).1) (Com.one (List.mem_map.2 ⟨e, he, rfl⟩))
/-- Levels part by part, over the parts that graph tells: the least ones. -/
theorem least_told (hn : ps.Nodup) (hP : ∀ e ∈ E, e.1 ∈ ps ∧ e.2.1 ∈ ps) (ho : Order ps.length (edN ps E) [] Q) (lev : Nat → Nat)
    (hno : ∀ e ∈ E, cmpU ps Q e.1 = cmpU ps Q e.2.1 → e.2.2 = false)
    (hge : ∀ e ∈ E, cmpU ps Q e.2.1 < cmpU ps Q e.1 → lev (cmpU ps Q e.2.1) + dl e.2.2 ≤ lev (cmpU ps Q e.1))
    (hle : ∀ a, a ∈ ps → lev (cmpU ps Q a) = 0 ∨ ∃ e ∈ E, cmpU ps Q e.1 = cmpU ps Q a ∧ cmpU ps Q e.2.1 < cmpU ps Q a ∧ lev (cmpU ps Q e.2.1) + dl e.2.2 = lev (cmpU ps Q a)) :
    Least E (fun p => if p ∈ ps then lev (cmpU ps Q p) else 0) :=
  least_parts (cmpU ps Q) lev hP (fun a b ha hb h => same_way hn hP ho ha hb h) (edge_le hP ho) hno hge hle
theorem none_told (hn : ps.Nodup) (hP : ∀ e ∈ E, e.1 ∈ ps ∧ e.2.1 ∈ ps) (ho : Order ps.length (edN ps E) [] Q) {e : Ed} (he : e ∈ E) (h1 : cmpU ps Q e.1 = cmpU ps Q e.2.1) (h2 : e.2.2 = true) : ¬ ∃ f, Valid E f :=
  none_parts (cmpU ps Q) hP (fun a b ha hb h => same_way hn hP ho ha hb h) he h1 h2
/-- The other way about: edges lead from bodies to heads. -/
theorem least_back (hn : ps.Nodup) (hP : ∀ e ∈ E, e.1 ∈ ps ∧ e.2.1 ∈ ps) (cmp : UInt32 → Nat) (hB : ∀ a b, a ∈ ps → b ∈ ps → cmp a = cmp b → Both (rev (edN ps E)) (ixU ps a) (ixU ps b)) :
    ∀ a b, a ∈ ps → b ∈ ps → cmp a = cmp b → Way E a b := fun a b ha hb h => by
  have h0 := hB a b ha hb h
  have h1 : Com (edN ps E) (ixU ps a) (ixU ps b) := com_rev_iff.1 h0.2
  obtain ⟨b', h2, h3⟩ := com_way hn hP h1 (ixU_get ha)
  rw [ixU_get hb] at h2
  cases h2
  exact h3
end
end Go.Proofs.Ytfmghkplafploaa

