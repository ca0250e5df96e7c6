/- Layer 3 (hmac): operations that stand in a drawn region: literals, appends; where all orders of a region meet. -/
import Derived.Test.YtgkfebbifgkkeaaDoorHmW
import Derived.Test.YtgkfebbifgkkeaaDoorHmV
import Derived.Test.YtgkfebbifgkkeaaDoorHmZ
import Derived.Great.BuildSlice
set_option linter.unusedVariables false
set_option linter.unusedSimpArgs false
namespace Go.Proofs.YtgkfebbifgkkeaaDoor
open Go Go.RowKit

/-- All orders of a drawn region end in acts and worlds of which S is so; there the walk goes on, once. -/
theorem wpAny_meet {P : Program} {md : Region.Mode} {ops : Array Oper} {Q : Exit → Act → World → Prop} {fuel : Nat} {listed : Array Bool} {a : Act} {w : World} {b : Act} (S : World → Prop) (hc : ∀ V, S V → Q .normal b V)
    (h : (∀ V, S V → Q .normal b V) → wpAny P md ops Q fuel listed a w) : wpAny P md ops Q fuel listed a w := h hc

theorem any_lit2 {ops : Array Oper} {E : Prop} {o : Oper} {a : Act} {w : World} {K : Act → World → Prop} {Q : Exit → Act → World → Prop} (hwant : Region.wanted o (yielded ops a.tmps) = true) (x0 x1 : Operand)
    (ho : o.op = .buildSlice 23 2 #[(0, x0), (1, x1)]) (A0 A1 : Option Addr) (n0 c0 n1 c1 : Nat) (l0 l1 : List UInt8) (hx0 : a.eval x0 = .slice A0 n0 c0) (hx1 : a.eval x1 = .slice A1 n1 c1)
    (h0 : Rd w w.heap.size 1 A0 n0 (l0.map bv)) (k0 : n0 ≤ c0) (h1 : Rd w w.heap.size 1 A1 n1 (l1.map bv)) (k1 : n1 ≤ c1)
    (h : ∀ V, Rws V V.heap.size (some ⟨w.heap.size, 0, none⟩) 2 [(A0, n0, c0), (A1, n1, c1)] [l0, l1] → Below w.heap.size w V → K (a.put o.dst (.slice (some ⟨w.heap.size, 0, none⟩) 2 2)) V) :
    if Region.wanted o (yielded ops a.tmps) = true then Oper.wp Tryd.prog o a w K Q else E := by
  rw [if_pos hwant]
  obtain ⟨ie, hie, hsz⟩ : ∃ ie, Tryd.prog.info? 22 = some ie ∧ (ie.size = 1 ∧ ie.zero = some (.slice none 0 0)) := by
    have h1 : (Tryd.prog.info? 22).map (fun i => (i.size, i.zero)) = some (1, some (.slice none 0 0)) := by kernel_rfl
    cases hh : Tryd.prog.info? 22 with
    | none => simp [hh] at h1
    | some ie => simp [hh] at h1; exact ⟨ie, rfl, h1⟩
  refine wp_buildSlice 23 22 2 _ ho #[.slice A0 n0 c0, .slice A1 n1 c1] ie _ Tryd.underlying23 hie hsz.2 (by rw [hsz.1]; omega) (by rw [hsz.1]; omega) ?_ ?_
  · rw [hsz.1]
    simp only [List.map_toArray, List.map_cons, List.map_nil, hx0, hx1, List.toList_toArray]
    kernel_rfl
  · exact h _ (Rws.lit2 22 h0 k0 h1 k1) ((Below.refl _ _).alloc (Nat.le_refl _) _)

theorem any_empty8 {ops : Array Oper} {E : Prop} {o : Oper} {a : Act} {w : World} {K : Act → World → Prop} {Q : Exit → Act → World → Prop} (hwant : Region.wanted o (yielded ops a.tmps) = true)
    (ho : o.op = .buildSlice 22 0 #[]) (B : Nat) (hB : B ≤ w.heap.size)
    (h : ∀ V A c, Ow V B A c 0 [] → Below w.heap.size w V → K (a.put o.dst (.slice A 0 c)) V) :
    if Region.wanted o (yielded ops a.tmps) = true then Oper.wp Tryd.prog o a w K Q else E := by
  rw [if_pos hwant]
  obtain ⟨ie, hie, hz, hs, hb⟩ := info_parts u8info
  unfold Oper.wp execOp
  have hr : (Instr.buildSlice 22 0 #[]).run Tryd.prog w = .ok (.slice (some ⟨w.heap.size, 0, none⟩) 0 0) (w.alloc (.cells #[] 5)) := by
    simp [Instr.buildSlice, run_underlying Tryd.underlying22, sizeOf, typeInfo, zeroValue, hie, hz, hs, newRow, Instr.fill]
    kernel_rfl
  simp only [ho, Sem.run_bind, List.map_toArray, List.map_nil, hr, Result.andThen_ok]
  exact h _ _ _ (owLit0 w B hB) ((Below.refl _ _).alloc (Nat.le_refl _) _)

/-- app8 in a drawn region. -/
theorem anyd_app8 {ops : Array Oper} {E : Prop} {o : Oper} {a : Act} {K : Act → World → Prop} {Q : Exit → Act → World → Prop} {w : World} (hwant : Region.wanted o (yielded ops a.tmps) = true) (p x : Operand)
    (ho : o.op = .call { callee := .builtin .append, args := #[p, x], argTypes := #[22, 22] })
    (base : Nat) (A0 : Option Addr) (c0 n : Nat) (bs : List UInt8) (hv : a.eval p = .slice A0 n c0) (hown : Ow w base A0 c0 n bs)
    (B : Nat) (A : Option Addr) (m c : Nat) (news : List UInt8) (hx : a.eval x = .slice A m c) (hr : Rd w B 1 A m (news.map bv)) (hb : n + m ≤ 70368744177664) (hbase : base ≤ w.heap.size)
    (h : ∀ A' c' w', Ow w' base A' c' (n + m) (bs ++ news) → Below base w w' → K (a.put o.dst (.slice A' (n + m) c')) w') : if Region.wanted o (yielded ops a.tmps) = true then Oper.wp Tryd.prog o a w K Q else E := by
  rw [if_pos hwant]
  exact any_app8 w p x ho base A0 c0 n bs hv hown B A m c news hx hr hb hbase h
theorem anyd_zeros8 {ops : Array Oper} {E : Prop} {o : Oper} {a : Act} {K : Act → World → Prop} {Q : Exit → Act → World → Prop} {w : World} (hwant : Region.wanted o (yielded ops a.tmps) = true) (p x : Operand)
    (ho : o.op = .call { callee := .builtin .append, args := #[p, x], argTypes := #[22, 3] })
    (base : Nat) (A0 : Option Addr) (c0 n : Nat) (bs : List UInt8) (hv : a.eval p = .slice A0 n c0) (hown : Ow w base A0 c0 n bs)
    (m : Nat) (hx : a.eval x = .int .i64 (m : Int)) (hb : n + m ≤ 70368744177664) (hbase : base ≤ w.heap.size)
    (h : ∀ A' c' w', Ow w' base A' c' (n + m) (bs ++ List.replicate m 0) → Below base w w' → K (a.put o.dst (.slice A' (n + m) c')) w') : if Region.wanted o (yielded ops a.tmps) = true then Oper.wp Tryd.prog o a w K Q else E := by
  rw [if_pos hwant]
  obtain ⟨A', c', w', hrun, ho2, hb2⟩ := zeros8 w o.type base A0 c0 n bs hown m hb hbase
  unfold Oper.wp execOp
  simp only [ho, resolve, invoke, builtin, Sem.run_bind, Sem.run_pure, Result.andThen_ok, List.map_toArray, List.map_cons, List.map_nil, hv, hx, hrun]
  exact h A' c' w' ho2 hb2

theorem eqH (key msg : List UInt8) (w : World) :
    (Op.equalIn 10000 28 (.agg ((hmacL key msg).map bv).toArray) (.agg ((hmacL key msg).map bv).toArray)).run Tryd.prog w = .ok true w := eqTag _ w
theorem tagLen (key msg : List UInt8) : (Tryd.prog.info? 28).map (·.size) = some ((hmacL key msg).map bv).length := by
  rw [List.length_map, hmacL_len]
  kernel_rfl
theorem rd_take {w : World} {B n : Nat} {A : Option Addr} {l : List UInt8} (h : Rd w B 1 A n (l.map bv)) (k : Nat) (hk : k ≤ n) : Rd w B 1 A k ((l.take k).map bv) :=
  ⟨by have := h.len1; simp at this ⊢; omega, fun hn => by
    obtain ⟨b, o, e, hb, hc⟩ := h.2 (by omega)
    refine ⟨b, o, e, hb, fun j u hu => hc j u ?_⟩
    rw [List.map_take, List.getElem?_take] at hu
    split at hu
    · exact hu
    · cases hu⟩
theorem rd_drop {w : World} {B n : Nat} {A : Option Addr} {l : List UInt8} (h : Rd w B 1 A n (l.map bv)) (k : Nat) (hk : k ≤ n) (c : Nat) (hc : n ≤ c) : Rd w B 1 (if c = k then A else A.map (fun x => x.add k)) (n - k) ((l.drop k).map bv) :=
  ⟨by have := h.len1; simp at this ⊢; omega, fun hn => by
    obtain ⟨b, o, e, hb, hcl⟩ := h.2 (by omega)
    refine ⟨b, o + k, ?_, hb, fun j u hu => ?_⟩
    · rw [if_neg (by omega), e]
      simp only [Option.map_some, addPlain]
    · rw [List.map_drop, List.getElem?_drop] at hu
      have := hcl (k + j) u hu
      rwa [show o + k + j = o + (k + j) by omega]⟩
theorem flat2 (a b : List UInt8) : [a, b].flatten = a ++ b := by simp
end Go.Proofs.YtgkfebbifgkkeaaDoor
