/- Layer 9 (graph), mathematics: which nodes come to which; parts; the order in which they are told. -/
set_option linter.unusedVariables false
namespace Go.Proofs.Ytbfagejdpbagjaa
open Classical

/-- By edges of E one comes from u to .. -/
inductive Com (E : List (Nat × Nat)) (u : Nat) : Nat → Prop
  | refl : Com E u u
  | step {v x : Nat} : Com E u v → (v, x) ∈ E → Com E u x

section
variable {E E' : List (Nat × Nat)} {n u v x : Nat}
theorem Com.trans (h : Com E u v) (k : Com E v x) : Com E u x := by
  induction k with
  | refl => exact h
  | step _ he ih => exact ih.step he
theorem Com.one (h : (u, v) ∈ E) : Com E u v := Com.refl.step h
theorem Com.head (h : (u, v) ∈ E) (k : Com E v x) : Com E u x := (Com.one h).trans k
theorem Com.closed {S : Nat → Prop} (hS : ∀ a b, S a → (a, b) ∈ E → S b) (h : Com E u v) (hu : S u) : S v := by
  induction h with
  | refl => exact hu
  | step _ he ih => exact hS _ _ ih he
theorem Com.mono (hE : ∀ e ∈ E, e ∈ E') (h : Com E u v) : Com E' u v := by
  induction h with
  | refl => exact .refl
  | step _ he ih => exact ih.step (hE _ he)
/-- All edges lead between nodes. -/
def In (n : Nat) (E : List (Nat × Nat)) : Prop := ∀ e ∈ E, e.1 < n ∧ e.2 < n
theorem Com.lt (hE : In n E) (h : Com E u v) (hu : u < n) : v < n := h.closed (S := (· < n)) (fun a b _ he => (hE _ he).2) hu
/-- Turned round. -/
def rev (E : List (Nat × Nat)) : List (Nat × Nat) := E.map fun e => (e.2, e.1)
theorem mem_rev : (u, v) ∈ rev E ↔ (v, u) ∈ E := by
  unfold rev
  constructor
  · intro h
    obtain ⟨⟨a, b⟩, h1, h2⟩ := List.mem_map.1 h
    simp only [Prod.mk.injEq] at h2
    obtain ⟨rfl, rfl⟩ := h2
    exact h1
  · intro h
    exact List.mem_map.2 ⟨_, h, rfl⟩
theorem com_rev (h : Com E u v) : Com (rev E) v u := by
  induction h with
  | refl => exact .refl
  | step _ he ih => exact Com.head (mem_rev.2 he) ih
theorem com_rev_iff : Com (rev E) u v ↔ Com E v u := by
  constructor
  · intro h
    have := com_rev h
    have e : rev (rev E) = E := by unfold rev; rw [List.map_map]; exact (List.map_congr_left fun _ _ => rfl).trans (List.map_id _)
    rwa [e] at this
  · exact com_rev

/-- To each other. -/
def Both (E : List (Nat × Nat)) (u v : Nat) : Prop := Com E u v ∧ Com E v u
theorem Both.refl : Both E u u := ⟨.refl, .refl⟩
theorem Both.symm (h : Both E u v) : Both E v u := ⟨h.2, h.1⟩
theorem Both.trans (h : Both E u v) (k : Both E v x) : Both E u x := ⟨h.1.trans k.1, k.2.trans h.2⟩

/-- The part of a node. -/
noncomputable def part (n : Nat) (E : List (Nat × Nat)) (v : Nat) : List Nat := (List.range n).filter fun u => decide (Both E v u)
theorem mem_part : u ∈ part n E v ↔ u < n ∧ Both E v u := by unfold part; simp
theorem part_sorted : (part n E v).Pairwise (· < ·) := List.Pairwise.filter _ List.pairwise_lt_range
theorem part_nodup : (part n E v).Nodup := (part_sorted (n := n) (E := E) (v := v)).imp Nat.ne_of_lt
theorem mem_part_self (hv : v < n) : v ∈ part n E v := mem_part.2 ⟨hv, .refl⟩
theorem part_ne (hv : v < n) : part n E v ≠ [] := List.ne_nil_of_mem (mem_part_self hv)
theorem part_eq (h : Both E u v) : part n E u = part n E v := by
  unfold part
  refine List.filter_congr fun x _ => ?_
  have : Both E u x ↔ Both E v x := ⟨fun k => h.symm.trans k, fun k => h.trans k⟩
  simp [this]
theorem part_congr (h : ∀ u, Both E v u ↔ Both E' v u) : part n E v = part n E' v := by
  unfold part
  refine List.filter_congr fun x _ => ?_
  simp [h x]
/-- Two lists that rise and have the same in them are one. -/
theorem sorted_ext : ∀ {l m : List Nat}, l.Pairwise (· < ·) → m.Pairwise (· < ·) → (∀ x, x ∈ l ↔ x ∈ m) → l = m
  | [], [], _, _, _ => rfl
  | [], b :: m, _, _, h => by have := (h b).2 (List.mem_cons_self ..); simp at this
  | a :: l, [], _, _, h => by have := (h a).1 (List.mem_cons_self ..); simp at this
  | a :: l, b :: m, hl, hm, h => by
    obtain ⟨h1, h2⟩ := List.pairwise_cons.1 hl
    obtain ⟨h3, h4⟩ := List.pairwise_cons.1 hm
    have hab : a = b := by
      rcases List.mem_cons.1 ((h a).1 (List.mem_cons_self ..)) with e | e
      · exact e
      · rcases List.mem_cons.1 ((h b).2 (List.mem_cons_self ..)) with f | f
        · exact f.symm
        · have := h3 a e; have := h1 b f; omega
    subst hab
    rw [sorted_ext h2 h4 fun x => ?_]
    constructor
    · intro hx
      rcases List.mem_cons.1 ((h x).1 (List.mem_cons_of_mem _ hx)) with e | e
      · have := h1 x hx; omega
      · exact e
    · intro hx
      rcases List.mem_cons.1 ((h x).2 (List.mem_cons_of_mem _ hx)) with e | e
      · have := h3 x hx; omega
      · exact e
end

/-! ### In which order parts are told -/
/-- A node that is left, whose part leads to no other one that is left. -/
def Sink (n : Nat) (E : List (Nat × Nat)) (told : List Nat) (v : Nat) : Prop := v < n ∧ v ∉ told ∧ ∀ u, u < n → u ∉ told → Com E v u → Com E u v
def Nxt (n : Nat) (E : List (Nat × Nat)) (told : List Nat) (v : Nat) : Prop := Sink n E told v ∧ ∀ u, u < v → ¬ Sink n E told u
inductive Order (n : Nat) (E : List (Nat × Nat)) : List Nat → List (List Nat) → Prop
  | done {T : List Nat} : (∀ v, ¬ Sink n E T v) → Order n E T []
  | next {T : List Nat} {v : Nat} {L : List (List Nat)} : Nxt n E T v → Order n E (T ++ part n E v) L → Order n E T (part n E v :: L)
section
variable {n : Nat} {E : List (Nat × Nat)} {T T' : List Nat}
theorem Nxt.unique {u v : Nat} (h : Nxt n E T u) (k : Nxt n E T v) : u = v := by
  rcases Nat.lt_trichotomy u v with g | g | g
  · exact absurd h.1 (k.2 u g)
  · exact g
  · exact absurd k.1 (h.2 v g)
theorem Order.unique {L M : List (List Nat)} (h : Order n E T L) (k : Order n E T M) : L = M := by
  induction h generalizing M with
  | done hn =>
    cases k with
    | done => rfl
    | next h1 _ => exact absurd h1.1 (hn _)
  | next h1 h2 ih =>
    cases k with
    | done hn => exact absurd h1.1 (hn _)
    | next k1 k2 =>
      obtain rfl := h1.unique k1
      rw [ih k2]
theorem Sink.congr (h : ∀ x, x ∈ T ↔ x ∈ T') {v : Nat} (hs : Sink n E T v) : Sink n E T' v := ⟨hs.1, fun k => hs.2.1 ((h v).2 k), fun u hu hn => hs.2.2 u hu fun k => hn ((h u).1 k)⟩
/-- Some node that is left is a sink. -/
theorem exists_sink : ∀ (m : Nat) (v : Nat), v < n → v ∉ T → ((List.range n).filter fun u => decide (u ∉ T ∧ Com E v u)).length ≤ m → ∃ s, Sink n E T s
  | 0, v, hv, hT, hl => by
    have : v ∈ (List.range n).filter fun u => decide (u ∉ T ∧ Com E v u) := by simp [hv, hT, Com.refl]
    have := List.length_pos_of_mem this
    omega
  | m + 1, v, hv, hT, hl => by
    by_cases hs : Sink n E T v
    · exact ⟨v, hs⟩
    · have : ∃ u, u < n ∧ u ∉ T ∧ Com E v u ∧ ¬ Com E u v := by
        refine byContradiction fun hne => hs ⟨hv, hT, fun u hu hn hc => byContradiction fun hb => hne ⟨u, hu, hn, hc, hb⟩⟩
      obtain ⟨u, hu, hn, hc, hb⟩ := this
      refine exists_sink m u hu hn ?_
      have key : ((List.range n).filter fun x => decide (x ∉ T ∧ Com E u x)).length < ((List.range n).filter fun x => decide (x ∉ T ∧ Com E v x)).length := by
        have sub : (List.range n).filter (fun x => decide (x ∉ T ∧ Com E u x)) = ((List.range n).filter (fun x => decide (x ∉ T ∧ Com E v x))).filter (fun x => decide (Com E u x)) := by
          rw [List.filter_filter]
          refine List.filter_congr fun x _ => ?_
          by_cases h1 : Com E u x
          · have h2 := hc.trans h1
            simp [h1, h2]
          · simp [h1]
        rw [sub]
        refine List.length_filter_lt_length_iff_exists.2 ⟨v, ?_, ?_⟩
        · simp [hv, hT, Com.refl]
        · simp [hb]
      omega
/-- What is told ahead is closed under coming. -/
def Shut (n : Nat) (E : List (Nat × Nat)) (T : List Nat) : Prop := ∀ u v, u ∈ T → Com E u v → v ∈ T
theorem Sink.shut (hE : In n E) (hT : Shut n E T) {v : Nat} (hs : Sink n E T v) : Shut n E (T ++ part n E v) := by
  intro a b ha hab
  rcases List.mem_append.1 ha with h | h
  · exact List.mem_append_left _ (hT a b h hab)
  · obtain ⟨h1, h2⟩ := mem_part.1 h
    by_cases hb : b ∈ T
    · exact List.mem_append_left _ hb
    · have hbn := hab.lt hE h1
      have hvb := h2.1.trans hab
      exact List.mem_append_right _ (mem_part.2 ⟨hbn, hvb, hs.2.2 b hbn hb hvb⟩)
/-- A node that is not told has its whole part untold. -/
theorem Shut.apart (hT : Shut n E T) {v u : Nat} (hv : v ∉ T) (h : u ∈ part n E v) : u ∉ T := fun hu => hv (hT u v hu (mem_part.1 h).2.2)
end
end Go.Proofs.Ytbfagejdpbagjaa
