/- Layer 9 (graph): edges among the arguments of a statement. -/
import Derived.Test.YtbfagejdpbagjaaGrG
import Derived.Test.YtbfagejdpbagjaaAid
import Derived.OpenShut
import Derived.Deep.Slices
set_option linter.unusedVariables false
set_option maxRecDepth 100000
namespace Go.Proofs.Ytbfagejdpbagjaa
open Go Go.RowKit Go.ChangeShapes Go.WideShapes

theorem laidOut : laidOutB Try.prog = true := by kernel_rfl
theorem ownK : ownKnob Try.prog.godebug = none := by kernel_rfl
theorem cellsEd : Try.prog.cellsOf 31 = 2 := by kernel_rfl
theorem cellsInt : Try.prog.cellsOf 3 = 1 := by kernel_rfl
theorem addAt (b o k : Nat) : (⟨b, o, none⟩ : Addr).add k = ⟨b, o + k, none⟩ := by
  unfold Addr.add
  split
  · rename_i h; subst h; rfl
  · rfl
theorem list_of {α : Type} {p : Nat → α → Prop} : ∀ (n : Nat), (∀ i, i < n → ∃ x, p i x) → ∃ l : List α, l.length = n ∧ ∀ (i : Nat) (x : α), l[i]? = some x → p i x
  | 0, _ => ⟨[], rfl, fun i x h => by simp at h⟩
  | n + 1, h => by
    obtain ⟨l, hl, hp⟩ := list_of n (fun i hi => h i (by omega))
    obtain ⟨x, hx⟩ := h n (by omega)
    refine ⟨l ++ [x], by simp [hl], fun i y hy => ?_⟩
    by_cases hi : i < n
    · rw [List.getElem?_append_left (by omega)] at hy
      exact hp i y hy
    · have hlt := (List.getElem?_eq_some_iff.1 hy).1
      simp only [List.length_append, List.length_singleton] at hlt
      obtain rfl : i = n := by omega
      rw [List.getElem?_append_right (by omega), hl, Nat.sub_self] at hy
      simp only [List.getElem?_cons_zero, Option.some.injEq] at hy
      subst hy
      exact hx
section
variable {H : Type} {enc : TypeId × Value → H} {W : World}
theorem open_edges {v : Value} {d : DataW H} {p : List MemPlace} (hv : Value.okWide Try.prog W .any 0 22 v) (h : DataW.Trod enc Try.prog W 0 (fun _ => true) true 22 v d p) (hlt : ∀ x ∈ p, x.block < W.heap.size) :
    ∃ (A : Option Addr) (n c : Nat) (E0 : List (Int × Int)), v = .slice A n c ∧ n ≤ c ∧ c ≤ maxLen ∧ RdE W W.heap.size A n E0 := by
  obtain ⟨a0, len0, cap0, rfl⟩ := okWide_slice Try.underlying22 hv
  obtain ⟨fuel, hf⟩ := h
  rcases Go.Deep.open_slice Try.underlying22 hf with ⟨hcs, hx⟩ | ⟨a, len, cap, m, k, D, Pl, hcs, _, hl, hm, hz, hx, hi⟩
  · simp [Value.cells] at hcs
    obtain ⟨rfl, rfl, rfl⟩ := hcs
    exact ⟨none, 0, 0, [], rfl, by omega, by simp [maxLen], ⟨rfl, fun h => absurd h (by omega)⟩⟩
  · simp [Value.cells] at hcs
    obtain ⟨rfl, rfl, rfl⟩ := hcs
    simp only [Prod.mk.injEq] at hx
    obtain ⟨rfl, rfl⟩ := hx
    simp only [if_true] at hz
    rw [cellsEd] at hi
    have hone : ∀ i, i < len0 → ∃ e : Int × Int, W.cell? (a.add (i * 2)) = some (.int .i64 e.1) ∧ W.cell? ((a.add (i * 2)).add 1) = some (.int .i64 e.2) := by
      intro i hi'
      obtain ⟨cs, h1, h2⟩ := hi i (by omega)
      obtain ⟨_, hlen, hcell⟩ := World.cells?_some h1
      obtain ⟨xs, mm, _, _, _, hxl, hel⟩ := DataW.trod_array Try.underlying31 h2
      match cs, hlen with
      | [c0, c1], _ =>
        have e0 := hel 0 (by omega)
        have e1 := hel 1 (by omega)
        rw [cellsInt] at e0 e1
        rw [List.getElem?_eq_getElem (by omega)] at e0 e1
        simp only [Nat.zero_mul, Nat.one_mul, List.drop_zero, List.drop_succ_cons, List.take_succ_cons, List.take_zero] at e0 e1
        obtain ⟨n0, hv0, _, _⟩ := DataW.trod_int Try.underlying3 e0
        obtain ⟨n1, hv1, _, _⟩ := DataW.trod_int Try.underlying3 e1
        simp only [List.cons.injEq, and_true] at hv0 hv1
        have q0 := hcell 0 (by omega)
        have q1 := hcell 1 (by omega)
        simp only [List.getElem?_cons_zero, List.getElem?_cons_succ] at q0 q1
        refine ⟨(n0, n1), ?_, ?_⟩
        · rw [← hv0, ← q0]; rfl
        · rw [← hv1, ← q1]
    obtain ⟨l, hll, hp⟩ := list_of (p := fun i (e : Int × Int) => W.cell? (a.add (i * 2)) = some (.int .i64 e.1) ∧ W.cell? ((a.add (i * 2)).add 1) = some (.int .i64 e.2)) len0 hone
    refine ⟨some a, len0, cap0, l, rfl, hl, hm, by rw [edFlat_len, hll], fun hn => ?_⟩
    obtain ⟨b, off, spot⟩ := a
    have hspot : spot = none := by
      obtain ⟨e, h1, _⟩ := hone 0 (by omega)
      simpa [Addr.add] using World.cell?_spot h1
    subst hspot
    refine ⟨b, off, rfl, hlt (.cell b off) (List.mem_append_left _ (MemPlace.mem_row.2 ⟨0, by rw [cellsEd]; omega, by simp⟩)), fun j u hu => ?_⟩
    have hj : j < len0 * 2 := by
      have := (List.getElem?_eq_some_iff.1 hu).1
      rw [edFlat_len, hll] at this
      exact this
    have ht : l[j / 2]? = some (l[j / 2]'(by omega)) := List.getElem?_eq_getElem _
    obtain ⟨g1, g2⟩ := edFlat_at l _ _ ht
    obtain ⟨k1, k2⟩ := hp _ _ ht
    rcases Nat.mod_two_eq_zero_or_one j with hm2 | hm2
    · have ej : j = j / 2 * 2 := by omega
      rw [ej, g1] at hu
      rw [ej, ← hu, ← k1, addAt]
    · have ej : j = j / 2 * 2 + 1 := by omega
      rw [ej, g2] at hu
      rw [ej, ← hu, ← k2, addAt, addAt, Nat.add_assoc]
end
end Go.Proofs.Ytbfagejdpbagjaa
