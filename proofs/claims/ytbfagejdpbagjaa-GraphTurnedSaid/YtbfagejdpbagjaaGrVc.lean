/- Layer 9 (graph): what the laws share. -/
import Derived.Test.YtbfagejdpbagjaaGrO
import Derived.Test.YtbfagejdpbagjaaGrX
import Derived.Test.YtbfagejdpbagjaaGrY
set_option linter.unusedVariables false
set_option linter.unusedSimpArgs false
namespace Go.Proofs.Ytbfagejdpbagjaa
open Go Go.RowKit

/-- Edges in a row of the call's own. -/
def OwE (w : World) (base : Nat) (A : Option Addr) (c n : Nat) (l : List (Int × Int)) : Prop := w.ownsRow base 31 2 (.slice A n c) n (l.flatMap edC)
theorem OwE.rd {w : World} {base c n : Nat} {A : Option Addr} {l : List (Int × Int)} (h : OwE w base A c n l) : RdE w w.heap.size A n l := Rd.ofOwn h
theorem OwE.lit0 (w : World) : OwE (w.alloc (.cells #[] 31)) w.heap.size (some ⟨w.heap.size, 0, none⟩) 0 0 [] := World.ownsRow_lit w #[] 0 (Nat.le_refl _) (by simp [maxLen]) rfl
theorem ed_one (l : List (Int × Int)) : ∀ u ∈ l.flatMap edC, u.oneCell' = true := by
  intro u hu
  obtain ⟨e, _, he⟩ := List.mem_flatMap.1 hu
  simp only [edC, List.mem_cons, List.mem_nil_iff, or_false] at he
  rcases he with rfl | rfl <;> rfl
theorem appE {ops : Array Oper} {rest : List Oper} {o : Oper} {a : Act} {Q : Exit → Act → World → Prop} (w : World) (hgd : o.guard = none) (p x : Operand)
    (ho : o.op = .call { callee := .builtin .append, args := #[p, x], argTypes := #[22, 22] })
    (base : Nat) (A0 : Option Addr) (c0 n : Nat) (l : List (Int × Int)) (hv : a.eval p = .slice A0 n c0) (hown : OwE w base A0 c0 n l)
    (B : Nat) (A : Option Addr) (m c : Nat) (news : List (Int × Int)) (hx : a.eval x = .slice A m c) (hr : RdE w B A m news) (hb : n + m ≤ 1000000000000) (hbase : base ≤ w.heap.size)
    (h : ∀ A' c' w', OwE w' base A' c' (n + m) (l ++ news) → Turn (fun k => blockOf A0 = some k) w w' → (blockOf A' = blockOf A0 ∨ blockOf A' = some w.heap.size) → wpList Try.prog ops Q rest (a.put o.dst (.slice A' (n + m) c')) w') : wpList Try.prog ops Q (o :: rest) a w := by
  obtain ⟨i0, hi, hz0, hz1, hz2⟩ := info_parts arr2Info
  refine wpList_app w hgd p x 22 ho base 31 i0 _ 2 16 Try.underlying22 hi hz0 hz1 hz2 rfl (by decide) _ n _ hv hown B A m c _ hx hr (ed_one news) (by simp only [maxLen]; omega) (by omega) hbase ?_
  intro A' c' w' h4 h2 h3
  rw [ownBlock_slice, ownBlock_slice] at h3
  exact h A' c' w' (by unfold OwE; rw [List.flatMap_append]; exact h4) (Turn.ofGrown h2 fun k hk => by rw [ownBlock_slice] at hk; exact hk) h3
/-- .. onto an empty one. -/
theorem appE0 {ops : Array Oper} {rest : List Oper} {o : Oper} {a : Act} {Q : Exit → Act → World → Prop} (w : World) (hgd : o.guard = none) (p x : Operand)
    (ho : o.op = .call { callee := .builtin .append, args := #[p, x], argTypes := #[22, 22] })
    (base : Nat) (A0 : Option Addr) (c0 : Nat) (hv : a.eval p = .slice A0 0 c0) (hown : OwE w base A0 c0 0 [])
    (B : Nat) (A : Option Addr) (m c : Nat) (news : List (Int × Int)) (hx : a.eval x = .slice A m c) (hr : RdE w B A m news) (hb : m ≤ 1000000000000) (hbase : base ≤ w.heap.size)
    (h : ∀ A' c' w', OwE w' base A' c' m news → Turn (fun k => blockOf A0 = some k) w w' → (blockOf A' = blockOf A0 ∨ blockOf A' = some w.heap.size) → wpList Try.prog ops Q rest (a.put o.dst (.slice A' m c')) w') : wpList Try.prog ops Q (o :: rest) a w := by
  refine appE w hgd p x ho base A0 c0 0 [] hv hown B A m c news hx hr (by omega) hbase ?_
  intro A' c' w' h1 h2 h3
  rw [Nat.zero_add] at h1 ⊢
  exact h A' c' w' h1 h2 h3
theorem told_same {n : Int} {E0 : List (Int × Int)} {w w' w1 w1' : World} {e e' : Ending} (h : Told n E0 w w' e) (h' : Told n E0 w1 w1' e') :
    ∃ (st : Int) (L : List (List Nat)) (A A' : Option Addr) (c c' : Nat) (R R' : List (Nat × Nat)), e = .returned (.tuple #[.slice A L.length c, .int .i64 st]) ∧ e' = .returned (.tuple #[.slice A' L.length c', .int .i64 st]) ∧ RdP w' w'.heap.size A L R ∧ RdP w1' w1'.heap.size A' L R' ∧ L.length ≤ 4096 ∧ (∀ p ∈ L, p.length ≤ 4096) ∧ Below w.heap.size w w' ∧ Below w1.heap.size w1 w1' := by
  have hb := h.1
  have hb' := h'.1
  have nilr : ∀ v : World, RdP v v.heap.size none [] [] := fun v => ⟨rfl, Rd.nil, fun i r p hr => by simp at hr⟩
  rcases h.2 with h1 | h1 | ⟨k, E, A, c, L, R, h1, h2, h3, h4, h5, h6, h7, h8, h9⟩
  · rcases h'.2 with k1 | k1 | ⟨k, E, A, c, L, R, k1, k2, k3, k4, k5, k6, k7, k8, k9⟩
    · exact ⟨6, [], none, none, 0, 0, [], [], h1.2, k1.2, nilr _, nilr _, by simp, by simp, hb, hb'⟩
    · exfalso; obtain ⟨q, _⟩ := h1; obtain ⟨q', _⟩ := k1; omega
    · exfalso; obtain ⟨q, _⟩ := h1; omega
  · rcases h'.2 with k1 | k1 | ⟨k, E, A, c, L, R, k1, k2, k3, k4, k5, k6, k7, k8, k9⟩
    · exfalso; obtain ⟨q, _⟩ := h1; obtain ⟨q', _⟩ := k1; omega
    · exact ⟨1, [], none, none, 0, 0, [], [], h1.2.2, k1.2.2, nilr _, nilr _, by simp, by simp, hb, hb'⟩
    · have hl := ei_len E
      rw [k4] at k3
      obtain ⟨A2, c2, L2, R2, q1, q2, q3, q4, _⟩ := told_nat h k1 k2 k4 k5 (by omega)
      obtain rfl := q3.unique k8
      exact ⟨0, L2, A2, A, c2, c, R2, R, q1, k6, q2, k7, q4, fun p hp => Nat.le_trans (order_cls q3 p hp) k2, hb, hb'⟩
  · have hl := ei_len E
    rw [h4] at h3
    obtain ⟨A2, c2, L2, R2, q1, q2, q3, q4, _⟩ := told_nat h' h1 h2 h4 h5 (by omega)
    obtain rfl := q3.unique h8
    exact ⟨0, L2, A, A2, c, c2, R, R2, h6, q1, h7, q2, q4, fun p hp => Nat.le_trans (order_cls q3 p hp) h2, hb, hb'⟩
end Go.Proofs.Ytbfagejdpbagjaa
