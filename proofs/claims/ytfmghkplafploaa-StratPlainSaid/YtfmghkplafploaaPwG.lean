/- Texts, packed: SaO SaP -/
import Derived.Test.YtfmghkplafploaaPwA
import Derived.Lib.SmallJoins
import Derived.Deep.SlicePairs
set_option linter.unusedVariables false
set_option maxRecDepth 100000
set_option linter.unusedSimpArgs false
namespace Go.Proofs.Ytfmghkplafploaa
open Go Go.RowKit Go.ChangeShapes Go.WideShapes Go.Joins Go.Deep

theorem laidOutA : laidOutB Try.prog = true := by kernel_rfl
theorem ownKA : ownKnob Try.prog.godebug = none := by kernel_rfl
theorem list_of {α : Type} {p : Nat → α → Prop} : ∀ (n : Nat), (∀ i, i < n → ∃ x, p i x) → ∃ l : List α, l.length = n ∧ ∀ (i : Nat) (x : α), l[i]? = some x → p i x
  | 0, _ => ⟨[], rfl, fun i x h => by simp at h⟩
  | n + 1, h => by
    obtain ⟨l, hl, hp⟩ := list_of n (fun i hi => h i (by omega))
    obtain ⟨x, hx⟩ := h n (by omega)
    refine ⟨l ++ [x], by simp [hl], fun i y hy => ?_⟩
    by_cases hi : i < n
    · rw [List.getElem?_append_left (by omega)] at hy
      exact hp i y hy
    · have hlt := (List.getElem?_eq_some_iff.1 hy).1
      simp only [List.length_append, List.length_singleton] at hlt
      obtain rfl : i = n := by omega
      rw [List.getElem?_append_right (by omega), hl, Nat.sub_self] at hy
      simp only [List.getElem?_cons_zero, Option.some.injEq] at hy
      subst hy
      exact hx
theorem cellsTerm : Try.prog.cellsOf 126 = 2 := by kernel_rfl
theorem cellsLit : Try.prog.cellsOf 33 = 3 := by kernel_rfl
theorem u32_of {n : Int} (hw : (Lit.int .u32 n).wf = true) : ∃ x : UInt32, Value.int .u32 n = nv x := by
  have h1 : IntKind.u32.min = 0 := rfl
  have h2 : IntKind.u32.max = 4294967295 := rfl
  simp only [Lit.wf, Bool.and_eq_true, decide_eq_true_eq] at hw
  refine ⟨UInt32.ofNat n.toNat, ?_⟩
  unfold nv
  rw [UInt32.toNat_ofNat_of_lt' (by show n.toNat < 4294967296; omega)]
  congr 1
  omega
section
variable {H : Type} {enc : TypeId × Value → H} {W : World}
theorem in_u32 {fuel : Nat} {v : Value} {y : DataW H × List MemPlace} (h : DataW.trod enc Try.prog W 0 (fun _ => true) true fuel 25 [v] = some y) : ∃ x : UInt32, v = nv x := by
  obtain ⟨n, hv, hx, hw⟩ := DataW.trod_int Try.underlying25 h
  obtain ⟨x, hx⟩ := u32_of hw
  simp only [List.cons.injEq, and_true] at hv
  exact ⟨x, by rw [hv, hx]⟩
theorem in_ts {fuel : Nat} {v : Value} {y : DataW H × List MemPlace} (h : DataW.trod enc Try.prog W 0 (fun _ => true) true fuel 26 [v] = some y) (hlt : ∀ x ∈ y.2, x.block < W.heap.size) :
    ∃ (A : Option Addr) (n c : Nat) (l : List Tm), v = .slice A n c ∧ n ≤ c ∧ c ≤ maxLen ∧ RdT W W.heap.size A n l := by
  rcases open_slice_pairs Try.underlying26 Try.underlying126 cellsTerm rfl rfl (by kernel_rfl) (by kernel_rfl) h with ⟨hcs, hx⟩ | ⟨a, len, cap, m, k, V0, V1, D0, D1, P0, P1, hcs, _, hl, hm, hz, hx, hi⟩
  · simp only [List.cons.injEq, and_true] at hcs
    exact ⟨none, 0, 0, [], hcs, by omega, by omega, Rd.nil⟩
  · simp only [List.cons.injEq, and_true] at hcs
    subst hx
    simp only [if_true] at hz
    obtain ⟨l, hll, hp⟩ := list_of (p := fun i (t : Tm) => W.cell? (a.add (i * 2)) = some (.bool t.1) ∧ W.cell? (a.add (i * 2 + 1)) = some (nv t.2)) len (fun i hi' => by
      obtain ⟨h1, h2, h3, h4⟩ := hi i (by omega)
      obtain ⟨b, hb, _⟩ := DataW.trod_bool Try.underlying4 h3
      obtain ⟨x, hx⟩ := in_u32 h4
      simp only [List.cons.injEq, and_true] at hb
      exact ⟨(b, x), by rw [h1, hb], by rw [h2, hx]⟩)
    refine ⟨some a, len, cap, l, hcs, hl, hm, by rw [tmCs_len, hll], fun hn => ?_⟩
    obtain ⟨b, off, spot⟩ := a
    have hspot : spot = none := by
      obtain ⟨h1, _⟩ := hi 0 (by omega)
      simpa [Addr.add] using World.cell?_spot h1
    subst hspot
    refine ⟨b, off, rfl, hlt (.cell b off) (List.mem_append_left _ (MemPlace.mem_row.2 ⟨0, by omega, by simp⟩)), fun j u hu => ?_⟩
    have hj : j < len * 2 := by
      have := (List.getElem?_eq_some_iff.1 hu).1
      rw [tmCs_len, hll] at this
      exact this
    have ht : l[j / 2]? = some (l[j / 2]'(by omega)) := List.getElem?_eq_getElem _
    have h2 := tmCs_at ht
    have h3 := hp _ _ ht
    rw [addPlain, addPlain] at h3
    rcases Nat.mod_two_eq_zero_or_one j with e | e
    · have e1 : j / 2 * 2 = j := by omega
      rw [e1] at h2 h3
      rw [h2.1] at hu
      cases hu
      exact h3.1
    · have e1 : j / 2 * 2 + 1 = j := by omega
      rw [e1] at h2 h3
      rw [h2.2] at hu
      cases hu
      exact h3.2
/-- An atom's two cells. -/
theorem in_atom {fuel : Nat} {v0 v1 : Value} {y : DataW H × List MemPlace} (h : DataW.trod enc Try.prog W 0 (fun _ => true) true fuel 28 [v0, v1] = some y) (hlt : ∀ x ∈ y.2, x.block < W.heap.size) :
    ∃ (q : UInt32) (A : Option Addr) (n c : Nat) (l : List Tm), v0 = nv q ∧ v1 = .slice A n c ∧ n ≤ c ∧ c ≤ maxLen ∧ RdT W W.heap.size A n l := by
  obtain ⟨y0, y1, k, rfl, hl, h0, h1⟩ := trod_struct2 Try.underlying28 h
  obtain ⟨q, hq⟩ := in_u32 (v := v0) h0
  obtain ⟨A, n, c, l, hv, hn, hc, hr⟩ := in_ts (v := v1) h1 (fun x hx => hlt x (by simp [hx]))
  exact ⟨q, A, n, c, l, hq, hv, hn, hc, hr⟩
/-- A slice of conditions. -/
theorem in_ls {fuel : Nat} {v : Value} {y : DataW H × List MemPlace} (h : DataW.trod enc Try.prog W 0 (fun _ => true) true fuel 29 [v] = some y) (hlt : ∀ x ∈ y.2, x.block < W.heap.size) :
    ∃ (A : Option Addr) (n c : Nat) (R : List SlA) (L : List Li), v = .slice A n c ∧ n ≤ c ∧ c ≤ maxLen ∧ RdL W W.heap.size A n R L := by
  rcases open_slice Try.underlying29 h with ⟨hcs, hx⟩ | ⟨a, len, cap, m, k, D, Pl, hcs, _, hl, hm, hz, hx, hi⟩
  · simp only [List.cons.injEq, and_true] at hcs
    exact ⟨none, 0, 0, [], [], hcs, by omega, by omega, ⟨rfl, rfl, Rd.nil, fun i r x h => by simp at h⟩⟩
  · simp only [List.cons.injEq, and_true] at hcs
    subst hx
    simp only [if_true] at hz
    rw [cellsLit] at hi hlt
    obtain ⟨l, hll, hp⟩ := list_of (p := fun i (z : Li × SlA) => (W.cell? (a.add (i * 3)) = some (.bool z.1.1) ∧ W.cell? (a.add (i * 3 + 1)) = some (nv z.1.2.1) ∧ W.cell? (a.add (i * 3 + 2)) = some z.2.val) ∧ RdT W W.heap.size z.2.1 z.2.2.1 z.1.2.2) len (fun i hi' => by
      obtain ⟨cs, hcc, htr⟩ := hi i (by omega)
      obtain ⟨_, hcl, hat⟩ := World.cells?_some hcc
      match cs, hcl with
      | [c0, c1, c2], _ =>
        obtain ⟨y0, y1, k2, hxy, _, h0, h1⟩ := trod_struct2 Try.underlying33 htr
        simp only [Prod.mk.injEq] at hxy
        obtain ⟨b, hb, _⟩ := DataW.trod_bool (cs := [c0]) Try.underlying4 h0
        obtain ⟨q, A, n, c, t, hq, hv, _, _, hr⟩ := in_atom (v0 := c1) (v1 := c2) h1 (fun x hx => hlt x (List.mem_append_right _ (List.mem_flatMap.2 ⟨i, by simp; omega, by rw [hxy.2]; simp [hx]⟩)))
        simp only [List.cons.injEq, and_true] at hb
        have g0 := hat 0 (by omega)
        have g1 := hat 1 (by omega)
        have g2 := hat 2 (by omega)
        rw [addAdd] at g0 g1 g2
        subst hb hq hv
        exact ⟨((b, q, t), (A, n, c)), ⟨g0, g1, g2⟩, hr⟩)
    have hR : (l.map (·.2)).length = len := by simp [hll]
    have hL : (l.map (·.1)).length = len := by simp [hll]
    have hzip : (l.map (·.1)).zip (l.map (·.2)) = l := by
      refine List.ext_getElem (by simp) fun i h1 h2 => ?_
      simp
    refine ⟨some a, len, cap, l.map (·.2), l.map (·.1), hcs, hl, hm, hR, hL, ?_, ?_⟩
    · rw [hzip]
      have h3 : ∀ z : Li × SlA, (liC z).length = 3 := fun _ => rfl
      have hlen : (l.flatMap liC).length = len * 3 := by
        have key : ∀ l : List (Li × SlA), (l.flatMap liC).length = l.length * 3 := by
          intro l
          induction l with
          | nil => rfl
          | cons z l ih => rw [List.flatMap_cons, List.length_append, ih, h3, List.length_cons]; omega
        rw [key, hll]
      refine ⟨hlen, fun hn => ?_⟩
      obtain ⟨b, off, spot⟩ := a
      have hspot : spot = none := by
        have ht : l[0]? = some (l[0]'(by omega)) := List.getElem?_eq_getElem _
        simpa [Addr.add] using World.cell?_spot (hp _ _ ht).1.1
      subst hspot
      refine ⟨b, off, rfl, hlt (.cell b off) (List.mem_append_left _ (MemPlace.mem_row.2 ⟨0, by omega, by simp⟩)), fun j u hu => ?_⟩
      have hj : j < len * 3 := by
        have := (List.getElem?_eq_some_iff.1 hu).1
        rw [hlen] at this
        exact this
      have ht : l[j / 3]? = some (l[j / 3]'(by omega)) := List.getElem?_eq_getElem _
      have h2 := flat_at liC 3 h3 ht (j % 3) (Nat.mod_lt _ (by omega))
      have e1 : j / 3 * 3 + j % 3 = j := by omega
      rw [e1, hu] at h2
      have h4 := (hp _ _ ht).1
      rw [addPlain, addPlain, addPlain] at h4
      have hc : j % 3 = 0 ∨ j % 3 = 1 ∨ j % 3 = 2 := by omega
      rcases hc with e | e | e
      · rw [e] at h2
        cases h2
        rw [show off + j = off + j / 3 * 3 by omega]
        exact h4.1
      · rw [e] at h2
        cases h2
        rw [show off + j = off + (j / 3 * 3 + 1) by omega]
        exact h4.2.1
      · rw [e] at h2
        cases h2
        rw [show off + j = off + (j / 3 * 3 + 2) by omega]
        exact h4.2.2
    · intro i r x h1 h2
      rw [List.getElem?_map] at h1 h2
      obtain ⟨z, hz1, rfl⟩ := Option.map_eq_some_iff.1 h1
      rw [hz1] at h2
      cases h2
      exact (hp i z hz1).2
end
end Go.Proofs.Ytfmghkplafploaa

set_option linter.unusedVariables false
set_option linter.unusedSimpArgs false
set_option maxRecDepth 100000
namespace Go.Proofs.Ytfmghkplafploaa
open Go Go.RowKit Go.ChangeShapes Go.WideShapes Go.Joins Go.Deep

theorem cellsClause : Try.prog.cellsOf 31 = 3 := by kernel_rfl
section
variable {H : Type} {enc : TypeId × Value → H} {W : World}
/-- Of a row of things of k cells each: the row that is read. -/
theorem row_of {α : Type} (f : α → List Value) (k : Nat) (hk : 0 < k) (hf : ∀ x, (f x).length = k) {a : Addr} {len : Nat} {l : List α} (hll : l.length = len) (hp : ∀ (i : Nat) (x : α), l[i]? = some x → ∀ j, j < k → W.cell? (a.add (i * k + j)) = (f x)[j]?) (hlt : 0 < len → a.block < W.heap.size) :
    Rd W W.heap.size k (some a) len (l.flatMap f) := by
  have hlen : ∀ l : List α, (l.flatMap f).length = l.length * k := by
    intro l
    induction l with
    | nil => simp
    | cons z l ih => rw [List.flatMap_cons, List.length_append, ih, hf, List.length_cons, Nat.add_mul]; omega
  refine ⟨by rw [hlen, hll], fun hn => ?_⟩
  obtain ⟨b, off, spot⟩ := a
  have hspot : spot = none := by
    have ht : l[0]? = some (l[0]'(by omega)) := List.getElem?_eq_getElem _
    have h1 := hp 0 _ ht 0 hk
    have h2 : (f (l[0]'(by omega)))[0]? = some ((f (l[0]'(by omega)))[0]'(by rw [hf]; exact hk)) := List.getElem?_eq_getElem _
    rw [h2] at h1
    simp only [Nat.zero_mul, Nat.add_zero] at h1
    have h3 := World.cell?_spot h1
    simpa [Addr.add] using h3
  subst hspot
  refine ⟨b, off, rfl, hlt hn, fun j u hu => ?_⟩
  have hj : j < len * k := by
    have := (List.getElem?_eq_some_iff.1 hu).1
    rw [hlen, hll] at this
    exact this
  have hjk : j / k < l.length := by rw [hll]; exact Nat.div_lt_of_lt_mul (by rw [Nat.mul_comm]; exact hj)
  have ht : l[j / k]? = some (l[j / k]'hjk) := List.getElem?_eq_getElem _
  have h2 := flat_at f k hf ht (j % k) (Nat.mod_lt _ hk)
  have e1 : j / k * k + j % k = j := by rw [Nat.mul_comm]; exact Nat.div_add_mod j k
  have h3 := hp _ _ ht (j % k) (Nat.mod_lt _ hk)
  rw [e1] at h2 h3
  rw [addPlain] at h3
  rw [h3, ← h2, hu]
theorem open_clauses2 {v : Value} {d : DataW H} {p : List MemPlace} (hv : Value.okWide Try.prog W .any 0 22 v) (h : DataW.Trod enc Try.prog W 0 (fun _ => true) true 22 v d p) (hlt : ∀ x ∈ p, x.block < W.heap.size) :
    ∃ (A : Option Addr) (n c : Nat) (Q : List ClA) (C : List Cl), v = .slice A n c ∧ n ≤ c ∧ c ≤ maxLen ∧ RdCs W W.heap.size A n Q C ∧ ∀ q ∈ Q, q.1.2.1 ≤ q.1.2.2 ∧ q.2.1.2.1 ≤ q.2.1.2.2 := by
  obtain ⟨a0, len0, cap0, rfl⟩ := okWide_slice Try.underlying22 hv
  obtain ⟨fuel, hf⟩ := h
  rcases Go.Deep.open_slice Try.underlying22 hf with ⟨hcs, hx⟩ | ⟨a, len, cap, m, k, D, Pl, hcs, _, hl, hm, hz, hx, hi⟩
  · simp [Value.cells] at hcs
    obtain ⟨rfl, rfl, rfl⟩ := hcs
    exact ⟨none, 0, 0, [], [], rfl, by omega, by simp [maxLen], ⟨rfl, rfl, Rd.nil, fun i q x h => by simp at h⟩, fun q hq => by cases hq⟩
  · simp [Value.cells] at hcs
    obtain ⟨rfl, rfl, rfl⟩ := hcs
    simp only [Prod.mk.injEq] at hx
    obtain ⟨rfl, rfl⟩ := hx
    simp only [if_true] at hz
    rw [cellsClause] at hi hlt
    obtain ⟨l, hll, hp⟩ := list_of (p := fun i (z : Cl × ClA) => (∀ j, j < 3 → W.cell? (a.add (i * 3 + j)) = (clC z)[j]?) ∧ RdT W W.heap.size z.2.1.1 z.2.1.2.1 z.1.1.2 ∧ RdL W W.heap.size z.2.2.1.1 z.2.2.1.2.1 z.2.2.2 z.1.2 ∧ z.2.1.2.1 ≤ z.2.1.2.2 ∧ z.2.2.1.2.1 ≤ z.2.2.1.2.2) len0 (fun i hi' => by
      obtain ⟨cs, hcc, htr⟩ := hi i (by omega)
      obtain ⟨_, hcl, hat⟩ := World.cells?_some hcc
      match cs, hcl with
      | [c0, c1, c2], _ =>
        obtain ⟨y0, y1, k2, hxy, _, h0, h1⟩ := trod_struct2 Try.underlying31 htr
        simp only [Prod.mk.injEq] at hxy
        have hsub : ∀ x, x ∈ y0.2 ∨ x ∈ y1.2 → x.block < W.heap.size := fun x hx => hlt x (List.mem_append_right _ (List.mem_flatMap.2 ⟨i, by simp; omega, by rw [hxy.2]; simpa using hx⟩))
        obtain ⟨q, A, n, c, t, hq, hv1, hnc0, _, hr⟩ := in_atom (v0 := c0) (v1 := c1) h0 (fun x hx => hsub x (.inl hx))
        obtain ⟨A1, n1, cc1, R, L, hv2, hnc1, _, hr1⟩ := in_ls (v := c2) h1 (fun x hx => hsub x (.inr hx))
        subst hq hv1 hv2
        refine ⟨(((q, t), L), ((A, n, c), (A1, n1, cc1), R)), fun j hj => ?_, hr, hr1, hnc0, hnc1⟩
        have g := hat j hj
        rw [addAdd] at g
        exact g)
    have hzip : (l.map (·.1)).zip (l.map (·.2)) = l := by
      refine List.ext_getElem (by simp) fun i h1 h2 => ?_
      simp
    refine ⟨some a, len0, cap0, l.map (·.2), l.map (·.1), rfl, hl, hm, ⟨by simp [hll], by simp [hll], ?_, fun i q x h1 h2 => ?_⟩, fun q hq => ?_⟩
    · rw [hzip]
      exact row_of clC 3 (by omega) (fun _ => rfl) hll (fun i x hx => (hp i x hx).1) (fun hn => hlt (.cell a.block a.off) (List.mem_append_left _ (MemPlace.mem_row.2 ⟨0, by omega, by simp⟩)))
    · rw [List.getElem?_map] at h1 h2
      obtain ⟨z, hz1, rfl⟩ := Option.map_eq_some_iff.1 h1
      rw [hz1] at h2
      cases h2
      exact ⟨(hp i z hz1).2.1, (hp i z hz1).2.2.1⟩
    · obtain ⟨z, hz, rfl⟩ := List.mem_map.1 hq
      obtain ⟨i, hi⟩ := List.mem_iff_getElem?.1 hz
      exact (hp i z hi).2.2.2
end
end Go.Proofs.Ytfmghkplafploaa

