/- Layer 9 (graph), mathematics: what follows from the order. -/
import Derived.Test.YtbfagejdpbagjaaGrX
set_option linter.unusedVariables false
set_option linter.unusedSimpArgs false
namespace Go.Proofs.Ytbfagejdpbagjaa
open Classical

section
variable {n : Nat} {E E' : List (Nat × Nat)}
theorem order_all (hE : In n E) {T : List Nat} {L : List (List Nat)} (h : Order n E T L) : Shut n E T →
    (∀ p ∈ L, ∃ v, v < n ∧ p = part n E v) ∧ (∀ v, v < n → v ∈ T ∨ ∃ p ∈ L, v ∈ p) ∧ L.Pairwise (fun p q => ∀ x ∈ p, x ∉ q) ∧ (∀ p ∈ L, ∀ x ∈ p, x ∉ T) ∧ ∀ i, Shut n E (T ++ (L.take i).flatten) := by
  induction h with
  | @done T hn =>
    intro hT
    refine ⟨fun p hp => by simp at hp, fun v hv => ?_, List.Pairwise.nil, fun p hp => by simp at hp, fun i => by simpa using hT⟩
    by_cases hv2 : v ∈ T
    · exact .inl hv2
    · obtain ⟨s, hs⟩ := exists_sink (n := n) (E := E) (T := T) _ v hv hv2 (Nat.le_refl _)
      exact absurd hs (hn s)
  | @next T v L h1 h2 ih =>
    intro hT
    have hT2 := h1.1.shut hE hT
    obtain ⟨a1, a2, a3, a4, a5⟩ := ih hT2
    have hap : ∀ x ∈ part n E v, x ∉ T := fun x hx => hT.apart h1.1.2.1 hx
    refine ⟨fun p hp => ?_, fun x hx => ?_, ?_, fun p hp => ?_, fun i => ?_⟩
    · rcases List.mem_cons.1 hp with rfl | hp
      · exact ⟨v, h1.1.1, rfl⟩
      · exact a1 p hp
    · rcases a2 x hx with k | ⟨p, k1, k2⟩
      · rcases List.mem_append.1 k with k | k
        · exact .inl k
        · exact .inr ⟨_, List.mem_cons_self .., k⟩
      · exact .inr ⟨p, List.mem_cons_of_mem _ k1, k2⟩
    · exact List.pairwise_cons.2 ⟨fun q hq x hx hx2 => a4 q hq x hx2 (List.mem_append_right _ hx), a3⟩
    · rcases List.mem_cons.1 hp with rfl | hp
      · exact hap
      · exact fun x hx hxT => a4 p hp x hx (List.mem_append_left _ hxT)
    · cases i with
      | zero => simpa using hT
      | succ i =>
        have := a5 i
        rwa [List.append_assoc] at this
theorem shut_nil : Shut n E [] := fun u v h => absurd h (by simp)
theorem Order.isParts (hE : In n E) {L : List (List Nat)} (h : Order n E [] L) : IsParts n E L := by
  obtain ⟨a1, a2, a3, _, _⟩ := order_all hE h shut_nil
  refine ⟨a1, fun v hv => ?_, a3⟩
  rcases a2 v hv with k | k
  · simp at k
  · exact k
theorem Order.later (hE : In n E) {L : List (List Nat)} (h : Order n E [] L) {u v : Nat} (hu : u < n) (hc : Com E u v) : ofQ L v ≤ ofQ L u := by
  have hI := h.isParts hE
  obtain ⟨_, _, _, _, a5⟩ := order_all hE h shut_nil
  obtain ⟨p, h1, h2⟩ := hI.of_mem hu
  have h3 := a5 (ofQ L u + 1)
  rw [List.nil_append] at h3
  have hm : u ∈ (L.take (ofQ L u + 1)).flatten := by
    rw [List.mem_flatten]
    refine ⟨p, ?_, h2⟩
    refine List.mem_of_getElem? (i := ofQ L u) ?_
    rw [List.getElem?_take, if_pos (by omega)]
    exact h1
  have h4 := h3 u v hm hc
  rw [List.mem_flatten] at h4
  obtain ⟨q, h5, h6⟩ := h4
  obtain ⟨j, hj, e⟩ := List.getElem_of_mem h5
  have hj2 : (L.take (ofQ L u + 1))[j]? = some q := by rw [List.getElem?_eq_getElem hj, e]
  rw [List.getElem?_take] at hj2
  split at hj2
  · rename_i hlt
    have := (hI.of_eq hj2 h6).2
    omega
  · cases hj2
theorem Order.congr (h : ∀ u v, u < n → (Com E u v ↔ Com E' u v)) {T : List Nat} {L : List (List Nat)} (ho : Order n E T L) : Order n E' T L := by
  have hs : ∀ T v, Sink n E T v ↔ Sink n E' T v := fun T v => by
    constructor
    · rintro ⟨a, b, c⟩
      exact ⟨a, b, fun u hu hT hc => (h u v hu).1 (c u hu hT ((h v u a).2 hc))⟩
    · rintro ⟨a, b, c⟩
      exact ⟨a, b, fun u hu hT hc => (h u v hu).2 (c u hu hT ((h v u a).1 hc))⟩
  have hp : ∀ v, v < n → part n E v = part n E' v := fun v hv => by
    unfold part
    refine List.filter_congr fun u hu => ?_
    have hu' := List.mem_range.1 hu
    have : Both E v u ↔ Both E' v u := by unfold Both; rw [h v u hv, h u v hu']
    simp [this]
  induction ho with
  | done hn => exact .done fun v k => hn v ((hs _ v).2 k)
  | @next T v L h1 h2 ih =>
    rw [hp v h1.1.1] at ih ⊢
    exact .next ⟨(hs _ v).1 h1.1, fun u hu k => h1.2 u hu ((hs _ u).2 k)⟩ ih
/-- An edge that leads where one comes anyway. -/
theorem com_more {a b : Nat} (h : Com E a b) {u v : Nat} : Com (E ++ [(a, b)]) u v ↔ Com E u v := by
  constructor
  · intro k
    induction k with
    | refl => exact .refl
    | step _ he ih =>
      rcases List.mem_append.1 he with q | q
      · exact ih.step q
      · simp only [List.mem_singleton, Prod.mk.injEq] at q
        obtain ⟨rfl, rfl⟩ := q
        exact ih.trans h
  · exact Com.mono fun e he => List.mem_append_left _ he
theorem com_back {a b : Nat} {x : Nat} (h : Com (E ++ [(a, b)]) b x) : Com E b x := by
  induction h with
  | refl => exact .refl
  | step _ he ih =>
    rcases List.mem_append.1 he with q | q
    · exact ih.step q
    · simp only [List.mem_singleton, Prod.mk.injEq] at q
      obtain ⟨rfl, rfl⟩ := q
      exact .refl
theorem IsParts.le_of {L L' : List (List Nat)} (h : IsParts n E L) (h' : IsParts n E' L') (hb : ∀ u v, u < n → v < n → Both E u v → Both E' u v) : L'.length ≤ L.length := by
  have h1 : ∀ p ∈ L', p.headD 0 < n ∧ p.headD 0 ∈ p := by
    intro p hp
    obtain ⟨x, p', e⟩ := List.exists_cons_of_ne_nil (h'.ne hp)
    obtain ⟨v, _, e2⟩ := h'.cls p hp
    have : p.headD 0 ∈ p := by rw [e]; simp
    refine ⟨?_, this⟩
    rw [e2] at this
    rw [e2]
    exact (mem_part.1 this).1
  have hnd : (L'.map fun p => ofQ L (p.headD 0)).Nodup := by
    refine List.pairwise_map.2 ?_
    refine h'.apart.imp_of_mem fun {p q} hp hq k e => ?_
    have hbo := hb _ _ (h1 p hp).1 (h1 q hq).1 ((h.both_iff (h1 p hp).1 (h1 q hq).1).1 e)
    obtain ⟨i, hi, ei⟩ := List.getElem_of_mem hp
    have hp2 : L'[i]? = some p := by rw [List.getElem?_eq_getElem hi, ei]
    have : p = part n E' (p.headD 0) := h'.part_of hp2 (h1 p hp).2
    refine k (q.headD 0) ?_ (h1 q hq).2
    rw [this]
    exact mem_part.2 ⟨(h1 q hq).1, hbo⟩
  have := nodup_below L.length _ hnd fun x hx => by
    obtain ⟨p, hp, rfl⟩ := List.mem_map.1 hx
    exact h.of_lt (h1 p hp).1
  simpa using this
theorem IsParts.len_single {L : List (List Nat)} (h : IsParts n [] L) : L.length = n := by
  have hc : ∀ u v, Com [] u v → u = v := fun u v k => by
    induction k with
    | refl => rfl
    | step _ he => simp at he
  refine Nat.le_antisymm h.len_le ?_
  have hnd : ((List.range n).map (ofQ L)).Nodup := by
    refine List.pairwise_map.2 ?_
    refine List.Pairwise.imp_of_mem (fun {a b} ha hb k e => ?_) (List.pairwise_lt_range (n := n))
    have := (h.both_iff (List.mem_range.1 ha) (List.mem_range.1 hb)).1 e
    have := hc _ _ this.1
    omega
  have := nodup_below L.length _ hnd fun x hx => by
    obtain ⟨p, hp, rfl⟩ := List.mem_map.1 hx
    exact h.of_lt (List.mem_range.1 hp)
  simpa using this
theorem in_rev (hE : In n E) : In n (rev E) := fun e he => by
  obtain ⟨a, b⟩ := e
  have := hE _ (mem_rev.1 he)
  exact ⟨this.2, this.1⟩
theorem both_rev {u v : Nat} : Both (rev E) u v ↔ Both E u v := by unfold Both; rw [com_rev_iff, com_rev_iff]; exact And.comm
end
open Go Go.RowKit
theorem partIx_at {n : Nat} {E : List (Nat × Nat)} {L : List (List Nat)} (h : IsParts n E L) {v : Nat} (hv : v < n) : partIx L (v : Int) = (ofQ L v : Int) := by
  obtain ⟨p, h1, h2⟩ := h.of_mem hv
  have hh : ∀ q : List Nat, hasI (v : Int) q = true ↔ v ∈ q := fun q => by
    unfold hasI
    rw [List.any_eq_true]
    constructor
    · rintro ⟨y, h3, h4⟩
      rw [beq_iff_eq] at h4
      have : y = v := by omega
      rwa [this] at h3
    · exact fun k => ⟨v, k, by simp⟩
  unfold partIx
  rw [ixB_found (L.map (hasI v)) 0 (ofQ L v) (fun j hj => ?_) (by rw [List.getElem?_map, h1]; show some (hasI v p) = some true; rw [(hh p).2 h2]), Nat.zero_add]
  have hlt := h.of_lt hv
  rw [List.getElem?_map, List.getElem?_eq_getElem (by omega)]
  show some (hasI v L[j]) = some false
  congr 1
  rw [← Bool.not_eq_true, hh]
  intro hm
  have := (h.of_eq (List.getElem?_eq_getElem (by omega)) hm).2
  omega
theorem partIx_out {n : Nat} {E : List (Nat × Nat)} {L : List (List Nat)} (h : IsParts n E L) {x : Int} (hx : x < 0 ∨ (n : Int) ≤ x) : partIx L x = -1 := by
  unfold partIx
  refine ixB_none _ _ fun b hb => ?_
  obtain ⟨p, hp, rfl⟩ := List.mem_map.1 hb
  obtain ⟨v, _, rfl⟩ := h.cls p hp
  unfold hasI
  rw [List.any_eq_false]
  intro y hy
  have := (mem_part.1 hy).1
  simp
  omega
end Go.Proofs.Ytbfagejdpbagjaa
