/- Layer 11 (safe): lists of clauses and of facts among the arguments of a statement. -/
import Derived.Test.YtggnhgfickkgdaaSaO
set_option linter.unusedVariables false
set_option linter.unusedSimpArgs false
set_option maxRecDepth 100000
namespace Go.Proofs.Ytggnhgfickkgdaa
open Go Go.RowKit Go.ChangeShapes Go.WideShapes Go.Joins Go.Deep

theorem cellsClause : Try.prog.cellsOf 36 = 3 := by kernel_rfl
theorem cellsFact : Try.prog.cellsOf 43 = 2 := by kernel_rfl
section
variable {H : Type} {enc : TypeId × Value → H} {W : World}
/-- Of a row of things of k cells each: the row that is read. -/
theorem row_of {α : Type} (f : α → List Value) (k : Nat) (hk : 0 < k) (hf : ∀ x, (f x).length = k) {a : Addr} {len : Nat} {l : List α} (hll : l.length = len) (hp : ∀ (i : Nat) (x : α), l[i]? = some x → ∀ j, j < k → W.cell? (a.add (i * k + j)) = (f x)[j]?) (hlt : 0 < len → a.block < W.heap.size) :
    Rd W W.heap.size k (some a) len (l.flatMap f) := by
  have hlen : ∀ l : List α, (l.flatMap f).length = l.length * k := by
    intro l
    induction l with
    | nil => simp
    | cons z l ih => rw [List.flatMap_cons, List.length_append, ih, hf, List.length_cons, Nat.add_mul]; omega
  refine ⟨by rw [hlen, hll], fun hn => ?_⟩
  obtain ⟨b, off, spot⟩ := a
  have hspot : spot = none := by
    have ht : l[0]? = some (l[0]'(by omega)) := List.getElem?_eq_getElem _
    have h1 := hp 0 _ ht 0 hk
    have h2 : (f (l[0]'(by omega)))[0]? = some ((f (l[0]'(by omega)))[0]'(by rw [hf]; exact hk)) := List.getElem?_eq_getElem _
    rw [h2] at h1
    simp only [Nat.zero_mul, Nat.add_zero] at h1
    have h3 := World.cell?_spot h1
    simpa [Addr.add] using h3
  subst hspot
  refine ⟨b, off, rfl, hlt hn, fun j u hu => ?_⟩
  have hj : j < len * k := by
    have := (List.getElem?_eq_some_iff.1 hu).1
    rw [hlen, hll] at this
    exact this
  have hjk : j / k < l.length := by rw [hll]; exact Nat.div_lt_of_lt_mul (by rw [Nat.mul_comm]; exact hj)
  have ht : l[j / k]? = some (l[j / k]'hjk) := List.getElem?_eq_getElem _
  have h2 := flat_at f k hf ht (j % k) (Nat.mod_lt _ hk)
  have e1 : j / k * k + j % k = j := by rw [Nat.mul_comm]; exact Nat.div_add_mod j k
  have h3 := hp _ _ ht (j % k) (Nat.mod_lt _ hk)
  rw [e1] at h2 h3
  rw [addPlain] at h3
  rw [h3, ← h2, hu]
theorem open_facts {v : Value} {d : DataW H} {p : List MemPlace} (hv : Value.okWide Try.prog W .any 0 23 v) (h : DataW.Trod enc Try.prog W 0 (fun _ => true) true 23 v d p) (hlt : ∀ x ∈ p, x.block < W.heap.size) :
    ∃ (A : Option Addr) (n c : Nat) (Y : List AtR), v = .slice A n c ∧ n ≤ c ∧ c ≤ maxLen ∧ Y.length = n ∧ Rd W W.heap.size 2 A n (Y.flatMap atC) := by
  obtain ⟨a0, len0, cap0, rfl⟩ := okWide_slice Try.underlying23 hv
  obtain ⟨fuel, hf⟩ := h
  rcases Go.Deep.open_slice Try.underlying23 hf with ⟨hcs, hx⟩ | ⟨a, len, cap, m, k, D, Pl, hcs, _, hl, hm, hz, hx, hi⟩
  · simp [Value.cells] at hcs
    obtain ⟨rfl, rfl, rfl⟩ := hcs
    exact ⟨none, 0, 0, [], rfl, by omega, by simp [maxLen], rfl, Rd.nil⟩
  · simp [Value.cells] at hcs
    obtain ⟨rfl, rfl, rfl⟩ := hcs
    simp only [Prod.mk.injEq] at hx
    obtain ⟨rfl, rfl⟩ := hx
    simp only [if_true] at hz
    rw [cellsFact] at hi hlt
    obtain ⟨l, hll, hp⟩ := list_of (p := fun i (z : AtR) => ∀ j, j < 2 → W.cell? (a.add (i * 2 + j)) = (atC z)[j]?) len0 (fun i hi' => by
      obtain ⟨cs, hcc, htr⟩ := hi i (by omega)
      obtain ⟨_, hcl, hat⟩ := World.cells?_some hcc
      match cs, hcl with
      | [c0, c1], _ =>
        obtain ⟨y0, y1, k2, hxy, _, h0, h1⟩ := trod_struct2 Try.underlying43 htr
        simp only [Prod.mk.injEq] at hxy
        obtain ⟨q, hq⟩ := in_u32 (v := c0) h0
        obtain ⟨A, n, c, t, hv, _, _, hr⟩ := in_us (v := c1) h1 (fun x hx => hlt x (List.mem_append_right _ (List.mem_flatMap.2 ⟨i, by simp; omega, by rw [hxy.2]; simp [hx]⟩)))
        subst hq hv
        refine ⟨(q, A, n, c), fun j hj => ?_⟩
        have g := hat j hj
        rw [addAdd] at g
        exact g)
    exact ⟨some a, len0, cap0, l, rfl, hl, hm, hll, row_of atC 2 (by omega) (fun _ => rfl) hll hp (fun hn => hlt (.cell a.block a.off) (List.mem_append_left _ (MemPlace.mem_row.2 ⟨0, by omega, by simp⟩)))⟩
theorem open_clauses2 {v : Value} {d : DataW H} {p : List MemPlace} (hv : Value.okWide Try.prog W .any 0 22 v) (h : DataW.Trod enc Try.prog W 0 (fun _ => true) true 22 v d p) (hlt : ∀ x ∈ p, x.block < W.heap.size) :
    ∃ (A : Option Addr) (n c : Nat) (Q : List ClA) (C : List Cl), v = .slice A n c ∧ n ≤ c ∧ c ≤ maxLen ∧ RdCs W W.heap.size A n Q C ∧ ∀ q ∈ Q, q.1.2.1 ≤ q.1.2.2 ∧ q.2.1.2.1 ≤ q.2.1.2.2 := by
  obtain ⟨a0, len0, cap0, rfl⟩ := okWide_slice Try.underlying22 hv
  obtain ⟨fuel, hf⟩ := h
  rcases Go.Deep.open_slice Try.underlying22 hf with ⟨hcs, hx⟩ | ⟨a, len, cap, m, k, D, Pl, hcs, _, hl, hm, hz, hx, hi⟩
  · simp [Value.cells] at hcs
    obtain ⟨rfl, rfl, rfl⟩ := hcs
    exact ⟨none, 0, 0, [], [], rfl, by omega, by simp [maxLen], ⟨rfl, rfl, Rd.nil, fun i q x h => by simp at h⟩, fun q hq => by cases hq⟩
  · simp [Value.cells] at hcs
    obtain ⟨rfl, rfl, rfl⟩ := hcs
    simp only [Prod.mk.injEq] at hx
    obtain ⟨rfl, rfl⟩ := hx
    simp only [if_true] at hz
    rw [cellsClause] at hi hlt
    obtain ⟨l, hll, hp⟩ := list_of (p := fun i (z : Cl × ClA) => (∀ j, j < 3 → W.cell? (a.add (i * 3 + j)) = (clC z)[j]?) ∧ RdT W W.heap.size z.2.1.1 z.2.1.2.1 z.1.1.2 ∧ RdL W W.heap.size z.2.2.1.1 z.2.2.1.2.1 z.2.2.2 z.1.2 ∧ z.2.1.2.1 ≤ z.2.1.2.2 ∧ z.2.2.1.2.1 ≤ z.2.2.1.2.2) len0 (fun i hi' => by
      obtain ⟨cs, hcc, htr⟩ := hi i (by omega)
      obtain ⟨_, hcl, hat⟩ := World.cells?_some hcc
      match cs, hcl with
      | [c0, c1, c2], _ =>
        obtain ⟨y0, y1, k2, hxy, _, h0, h1⟩ := trod_struct2 Try.underlying36 htr
        simp only [Prod.mk.injEq] at hxy
        have hsub : ∀ x, x ∈ y0.2 ∨ x ∈ y1.2 → x.block < W.heap.size := fun x hx => hlt x (List.mem_append_right _ (List.mem_flatMap.2 ⟨i, by simp; omega, by rw [hxy.2]; simpa using hx⟩))
        obtain ⟨q, A, n, c, t, hq, hv1, hnc0, _, hr⟩ := in_atom (v0 := c0) (v1 := c1) h0 (fun x hx => hsub x (.inl hx))
        obtain ⟨A1, n1, cc1, R, L, hv2, hnc1, _, hr1⟩ := in_ls (v := c2) h1 (fun x hx => hsub x (.inr hx))
        subst hq hv1 hv2
        refine ⟨(((q, t), L), ((A, n, c), (A1, n1, cc1), R)), fun j hj => ?_, hr, hr1, hnc0, hnc1⟩
        have g := hat j hj
        rw [addAdd] at g
        exact g)
    have hzip : (l.map (·.1)).zip (l.map (·.2)) = l := by
      refine List.ext_getElem (by simp) fun i h1 h2 => ?_
      simp
    refine ⟨some a, len0, cap0, l.map (·.2), l.map (·.1), rfl, hl, hm, ⟨by simp [hll], by simp [hll], ?_, fun i q x h1 h2 => ?_⟩, fun q hq => ?_⟩
    · rw [hzip]
      exact row_of clC 3 (by omega) (fun _ => rfl) hll (fun i x hx => (hp i x hx).1) (fun hn => hlt (.cell a.block a.off) (List.mem_append_left _ (MemPlace.mem_row.2 ⟨0, by omega, by simp⟩)))
    · rw [List.getElem?_map] at h1 h2
      obtain ⟨z, hz1, rfl⟩ := Option.map_eq_some_iff.1 h1
      rw [hz1] at h2
      cases h2
      exact ⟨(hp i z hz1).2.1, (hp i z hz1).2.2.1⟩
    · obtain ⟨z, hz, rfl⟩ := List.mem_map.1 hq
      obtain ⟨i, hi⟩ := List.mem_iff_getElem?.1 hz
      exact (hp i z hi).2.2.2
theorem open_clauses {v : Value} {d : DataW H} {p : List MemPlace} (hv : Value.okWide Try.prog W .any 0 22 v) (h : DataW.Trod enc Try.prog W 0 (fun _ => true) true 22 v d p) (hlt : ∀ x ∈ p, x.block < W.heap.size) :
    ∃ (A : Option Addr) (n c : Nat) (Q : List ClA) (C : List Cl), v = .slice A n c ∧ n ≤ c ∧ c ≤ maxLen ∧ RdCs W W.heap.size A n Q C := by
  obtain ⟨A, n, c, Q, C, h1, h2, h3, h4, _⟩ := open_clauses2 hv h hlt
  exact ⟨A, n, c, Q, C, h1, h2, h3, h4⟩
end
end Go.Proofs.Ytggnhgfickkgdaa
