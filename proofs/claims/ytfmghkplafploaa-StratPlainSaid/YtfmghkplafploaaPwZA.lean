/- Texts, packed: SrM -/
import Derived.Test.YtfmghkplafploaaPwT
import Derived.Test.YtfmghkplafploaaPwY
import Derived.Test.YtfmghkplafploaaPwZ
set_option linter.unusedVariables false
set_option linter.unusedSimpArgs false
namespace Go.Proofs.Ytfmghkplafploaa
open Go Go.RowKit

/-- On which one, and whether above it. -/
abbrev Hn := Nat × Bool
def hgM (ps : List UInt32) (E : List Ed) (i : Nat) : List Hn := (E.filter fun e => ixU ps e.1 == i).map fun e => (ixU ps e.2.1, e.2.2)
theorem hgM_snoc (ps : List UInt32) (E : List Ed) (e : Ed) (i : Nat) : hgM ps (E ++ [e]) i = if i = ixU ps e.1 then hgM ps E i ++ [(ixU ps e.2.1, e.2.2)] else hgM ps E i := by
  unfold hgM
  rw [List.filter_append, List.map_append, List.filter_cons]
  by_cases h : i = ixU ps e.1
  · rw [if_pos (by rw [beq_iff_eq]; exact h.symm), if_pos h]; rfl
  · rw [if_neg (by rw [beq_iff_eq]; exact fun q => h q.symm), if_neg h]; simp
theorem hgM_mem {ps : List UInt32} {E : List Ed} {i : Nat} {x : Hn} : x ∈ hgM ps E i ↔ ∃ e ∈ E, ixU ps e.1 = i ∧ (ixU ps e.2.1, e.2.2) = x := by
  unfold hgM
  rw [List.mem_map]
  constructor
  · rintro ⟨e, he, rfl⟩
    rw [List.mem_filter, beq_iff_eq] at he
    exact ⟨e, he.1, he.2, rfl⟩
  · rintro ⟨e, h1, h2, rfl⟩
    exact ⟨e, List.mem_filter.2 ⟨h1, by rw [beq_iff_eq]; exact h2⟩, rfl⟩
theorem hgM_len (ps : List UInt32) (E : List Ed) (i : Nat) : (hgM ps E i).length ≤ E.length := by
  unfold hgM
  rw [List.length_map]
  exact List.length_filter_le _ _
/-- The edges, head by head. -/
def egM (D : Nat → List Hn) (T : Nat) : List (Nat × Nat) := (List.range T).flatMap fun i => (D i).map fun h => (i, h.1)
theorem egM_succ (D : Nat → List Hn) (T : Nat) : egM D (T + 1) = egM D T ++ (D T).map fun h => (T, h.1) := by
  unfold egM
  rw [List.range_succ, List.flatMap_append]
  simp
theorem egM_len (ps : List UInt32) (E : List Ed) (T : Nat) : (egM (hgM ps E) T).length ≤ E.length := by
  have h : (egM (hgM ps E) T).length = (E.filter fun e => decide (ixU ps e.1 < T)).length := by
    induction T with
    | zero =>
      rw [List.filter_eq_nil_iff.2 (fun a _ => by simp)]
      rfl
    | succ T ih =>
      rw [egM_succ, List.length_append, List.length_map, ih]
      unfold hgM
      rw [List.length_map]
      clear ih
      induction E with
      | nil => rfl
      | cons e E ih =>
        rw [List.filter_cons, List.filter_cons, List.filter_cons]
        rcases Nat.lt_trichotomy (ixU ps e.1) T with h | h | h
        · rw [if_pos (decide_eq_true h), if_neg (by rw [beq_iff_eq]; omega), if_pos (decide_eq_true (by omega)), List.length_cons, List.length_cons]; omega
        · rw [if_neg (by rw [decide_eq_true_iff]; omega), if_pos (by rw [beq_iff_eq]; exact h), if_pos (decide_eq_true (by omega)), List.length_cons, List.length_cons]; omega
        · rw [if_neg (by rw [decide_eq_true_iff]; omega), if_neg (by rw [beq_iff_eq]; omega), if_neg (by rw [decide_eq_true_iff]; omega)]; exact ih
  rw [h]
  exact List.length_filter_le _ _
theorem egM_mem {D : Nat → List Hn} {T : Nat} {u v : Nat} : (u, v) ∈ egM D T ↔ u < T ∧ ∃ b, (v, b) ∈ D u := by
  unfold egM
  rw [List.mem_flatMap]
  constructor
  · rintro ⟨i, hi, h⟩
    obtain ⟨x, hx, e⟩ := List.mem_map.1 h
    simp only [Prod.mk.injEq] at e
    obtain ⟨rfl, rfl⟩ := e
    exact ⟨List.mem_range.1 hi, x.2, hx⟩
  · rintro ⟨h1, b, h2⟩
    exact ⟨u, List.mem_range.2 h1, List.mem_map.2 ⟨_, h2, rfl⟩⟩
theorem egM_edN {ps : List UInt32} {E : List Ed} (hP : ∀ e ∈ E, e.1 ∈ ps ∧ e.2.1 ∈ ps) (x : Nat × Nat) : x ∈ egM (hgM ps E) ps.length ↔ x ∈ edN ps E := by
  obtain ⟨u, v⟩ := x
  rw [egM_mem]
  unfold edN
  rw [List.mem_map]
  constructor
  · rintro ⟨_, b, h⟩
    obtain ⟨e, he, rfl, hx⟩ := hgM_mem.1 h
    simp only [Prod.mk.injEq] at hx
    exact ⟨e, he, by rw [hx.1]⟩
  · rintro ⟨e, he, hx⟩
    simp only [Prod.mk.injEq] at hx
    obtain ⟨rfl, rfl⟩ := hx
    exact ⟨ixU_lt (hP e he).1, e.2.2, hgM_mem.2 ⟨e, he, rfl, rfl⟩⟩
theorem com_same {E E' : List (Nat × Nat)} (h : ∀ x, x ∈ E ↔ x ∈ E') (u v : Nat) : Com E u v ↔ Com E' u v :=
  ⟨fun k => k.mono fun e he => (h e).1 he, fun k => k.mono fun e he => (h e).2 he⟩

/-! ### One part's level -/
/-- S: what was asked of this part (the j-th) so far; z: its level so far. -/
structure Clm (lev c : Nat → Nat) (j : Nat) (S : List Hn) (z : Nat) : Prop where
  no : ∀ h ∈ S, c h.1 = j → h.2 = false
  ge : ∀ h ∈ S, c h.1 < j → lev (c h.1) + dl h.2 ≤ z
  wants : z = 0 ∨ ∃ h ∈ S, c h.1 < j ∧ lev (c h.1) + dl h.2 = z
theorem Clm.nil (lev c : Nat → Nat) (j : Nat) : Clm lev c j [] 0 := ⟨fun h k => (by cases k), fun h k => (by cases k), .inl rfl⟩
theorem Clm.low {lev c : Nat → Nat} {j : Nat} {S : List Hn} {z : Nat} (h : Clm lev c j S z) {x : Hn} (hx : c x.1 < j) : Clm lev c j (S ++ [x]) (max z (lev (c x.1) + dl x.2)) := by
  refine ⟨fun y hy e => ?_, fun y hy e => ?_, ?_⟩
  · rcases List.mem_append.1 hy with k | k
    · exact h.no y k e
    · rw [List.mem_singleton.1 k] at e; omega
  · rcases List.mem_append.1 hy with k | k
    · have := h.ge y k e; omega
    · rw [List.mem_singleton.1 k]; omega
  · rcases Nat.le_total z (lev (c x.1) + dl x.2) with k | k
    · exact .inr ⟨x, by simp, hx, by omega⟩
    · rcases h.wants with e | ⟨y, h1, h2, h3⟩
      · exact .inl (by omega)
      · exact .inr ⟨y, List.mem_append_left _ h1, h2, by omega⟩
theorem Clm.own {lev c : Nat → Nat} {j : Nat} {S : List Hn} {z : Nat} (h : Clm lev c j S z) {x : Hn} (hx : c x.1 = j) (hn : x.2 = false) : Clm lev c j (S ++ [x]) z := by
  refine ⟨fun y hy e => ?_, fun y hy e => ?_, ?_⟩
  · rcases List.mem_append.1 hy with k | k
    · exact h.no y k e
    · rw [List.mem_singleton.1 k]; exact hn
  · rcases List.mem_append.1 hy with k | k
    · exact h.ge y k e
    · rw [List.mem_singleton.1 k] at e; omega
  · rcases h.wants with e | ⟨y, h1, h2, h3⟩
    · exact .inl e
    · exact .inr ⟨y, List.mem_append_left _ h1, h2, h3⟩
theorem Clm.congr {lev lev' c : Nat → Nat} {j : Nat} {S : List Hn} {z : Nat} (h : Clm lev c j S z) (he : ∀ i, i < j → lev' i = lev i) : Clm lev' c j S z := by
  refine ⟨h.no, fun y hy e => ?_, ?_⟩
  · rw [he _ e]; exact h.ge y hy e
  · rcases h.wants with e | ⟨y, h1, h2, h3⟩
    · exact .inl e
    · exact .inr ⟨y, h1, h2, by rw [he _ h2]; exact h3⟩
/-- The first j parts have their levels. -/
structure Good (D : Nat → List Hn) (c : Nat → Nat) (Q : List (List Nat)) (j : Nat) (lev : Nat → Nat) : Prop where
  part : ∀ i p, i < j → Q[i]? = some p → Clm lev c i (p.flatMap D) (lev i)
  le : ∀ i, i < j → lev i ≤ i
theorem Good.zero (D : Nat → List Hn) (c : Nat → Nat) (Q : List (List Nat)) (lev : Nat → Nat) : Good D c Q 0 lev := ⟨fun i p h => (by omega), fun i h => (by omega)⟩
theorem Clm.le {D : Nat → List Hn} {c : Nat → Nat} {Q : List (List Nat)} {j : Nat} {lev : Nat → Nat} (g : Good D c Q j lev) {S : List Hn} {z : Nat} (h : Clm lev c j S z) : z ≤ j := by
  rcases h.wants with e | ⟨y, h1, h2, h3⟩
  · omega
  · have := g.le _ h2
    have := dl_le y.2
    omega
theorem Good.step {D : Nat → List Hn} {c : Nat → Nat} {Q : List (List Nat)} {j : Nat} {lev : Nat → Nat} (g : Good D c Q j lev) {p : List Nat} (hp : Q[j]? = some p) {z : Nat} (h : Clm lev c j (p.flatMap D) z) :
    Good D c Q (j + 1) (fun i => if i = j then z else lev i) := by
  have he : ∀ i, i < j → (fun i => if i = j then z else lev i) i = lev i := fun i hi => if_neg (by omega)
  refine ⟨fun i q hi hq => ?_, fun i hi => ?_⟩
  · rcases Nat.lt_or_eq_of_le (Nat.le_of_lt_succ hi) with k | k
    · have := (g.part i q k hq).congr (lev' := fun i => if i = j then z else lev i) (fun i' h' => he i' (by omega))
      rwa [← he i k] at this
    · subst k
      rw [hp] at hq
      cases hq
      have := h.congr (lev' := fun k => if k = i then z else lev k) he
      show Clm _ _ _ _ (if i = i then z else lev i)
      rw [if_pos rfl]
      exact this
  · show (if i = j then z else lev i) ≤ i
    split
    · rename_i k
      have := h.le g
      omega
    · exact g.le i (by omega)
/-- .. all of them: the least levels. -/
theorem good_least {ps : List UInt32} {E : List Ed} {Q : List (List Nat)} {lev : Nat → Nat} (hn : ps.Nodup) (hP : ∀ e ∈ E, e.1 ∈ ps ∧ e.2.1 ∈ ps) (ho : Order ps.length (edN ps E) [] Q) (g : Good (hgM ps E) (ofQ Q) Q Q.length lev) :
    Least E (fun p => if p ∈ ps then lev (cmpU ps Q p) else 0) := by
  have hI := ho.isParts (edN_in hP)
  have key : ∀ a, a ∈ ps → ∃ p, Q[cmpU ps Q a]? = some p ∧ ixU ps a ∈ p ∧ Clm lev (ofQ Q) (cmpU ps Q a) (p.flatMap (hgM ps E)) (lev (cmpU ps Q a)) := fun a ha => by
    obtain ⟨p, h1, h2⟩ := hI.of_mem (ixU_lt ha)
    exact ⟨p, h1, h2, g.part _ p (List.getElem?_eq_some_iff.1 h1).1 h1⟩
  have mem : ∀ e ∈ E, ∀ p : List Nat, ixU ps e.1 ∈ p → (ixU ps e.2.1, e.2.2) ∈ p.flatMap (hgM ps E) := fun e he p hp => List.mem_flatMap.2 ⟨_, hp, hgM_mem.2 ⟨e, he, rfl, rfl⟩⟩
  refine least_told hn hP ho lev (fun e he h => ?_) (fun e he h => ?_) (fun a ha => ?_)
  · obtain ⟨p, h1, h2, h3⟩ := key e.1 (hP e he).1
    exact h3.no _ (mem e he p h2) h.symm
  · obtain ⟨p, h1, h2, h3⟩ := key e.1 (hP e he).1
    exact h3.ge _ (mem e he p h2) h
  · obtain ⟨p, h1, h2, h3⟩ := key a ha
    rcases h3.wants with h4 | ⟨x, h4, h5, h6⟩
    · exact .inl h4
    · obtain ⟨u, h7, h8⟩ := List.mem_flatMap.1 h4
      obtain ⟨e, h9, rfl, rfl⟩ := hgM_mem.1 h8
      exact .inr ⟨e, h9, (hI.of_eq h1 h7).2, h5, h6⟩
end Go.Proofs.Ytfmghkplafploaa

