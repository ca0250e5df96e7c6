/- Bytes in a row of the call's own. -/
import Derived.Test.YtcoafgnbmgndeaaAid
import Derived.Test.YtcoafgnbmgndeaaRows
set_option linter.unusedVariables false
namespace Go.Proofs.Ytcoafgnbmgndeaa
open Go Go.RowKit

theorem u8info : (Try.prog.info? 5).map (fun i => (i.zero, i.size, i.bytes)) = some (some (.int .u8 0), 1, 1) := by kernel_rfl

/-- The slice value v of n bytes bs lies in rows of the call's own, from base on. -/
def Ow (w : World) (base : Nat) (A : Option Addr) (c n : Nat) (bs : List UInt8) : Prop := w.ownsRow base 5 1 (.slice A n c) n (bs.map bv)

theorem Ow.rd {w : World} {base c n : Nat} {A : Option Addr} {bs : List UInt8} (h : Ow w base A c n bs) : Rd w w.heap.size 1 A n (bs.map bv) := Rd.ofOwn h
theorem Ow.le {w : World} {base c n : Nat} {A : Option Addr} {bs : List UInt8} (h : Ow w base A c n bs) : n ≤ c := by
  obtain ⟨A', c', e, hle⟩ := ownForm h
  simp only [Value.slice.injEq] at e
  omega
theorem Ow.len {w : World} {base c n : Nat} {A : Option Addr} {bs : List UInt8} (h : Ow w base A c n bs) : bs.length = n := by simpa using h.1

/-- 'out = append(out, x...)' over bytes, in this program. -/
theorem app8 {ops : Array Oper} {rest : List Oper} {o : Oper} {a : Act} {Q : Exit → Act → World → Prop} (w : World) (hgd : o.guard = none) (p x : Operand)
    (ho : o.op = .call { callee := .builtin .append, args := #[p, x], argTypes := #[22, 22] })
    (base : Nat) (A0 : Option Addr) (c0 n : Nat) (bs : List UInt8) (hv : a.eval p = .slice A0 n c0) (hown : Ow w base A0 c0 n bs)
    (B : Nat) (A : Option Addr) (m c : Nat) (news : List UInt8) (hx : a.eval x = .slice A m c) (hr : Rd w B 1 A m (news.map bv)) (hb : n + m ≤ 70368744177664) (hbase : base ≤ w.heap.size)
    (h : ∀ A' c' w', Ow w' base A' c' (n + m) (bs ++ news) → Below base w w' → w.grownBy w' (Value.slice A0 n c0).ownBlock → wpList Try.prog ops Q rest (a.put o.dst (.slice A' (n + m) c')) w') : wpList Try.prog ops Q (o :: rest) a w := by
  obtain ⟨i0, hi, hz0, hz1, hz2⟩ := info_parts u8info
  refine wpList_app w hgd p x 22 ho base 5 i0 _ 1 1 Try.underlying22 hi hz0 hz1 hz2 rfl (by decide) _ n _ hv hown B A m c _ hx hr (bv_one news) (by simp only [maxLen]; omega) (by omega) hbase ?_
  intro A' c' w' h1 h2 _
  exact h A' c' w' (by unfold Ow; rw [List.map_append]; exact h1) (belowApp (Below.refl _ _) hown h2 hbase) h2

/-- The cells of a literal. -/
theorem rdLitM (w : World) (t : TypeId) (cs : List Value) (fr : Nat × Nat) : Rd (w.alloc (.cells cs.toArray t fr)) (w.heap.size + 1) 1 (some ⟨w.heap.size, 0, none⟩) cs.length cs :=
  ⟨by simp, fun _ => ⟨_, _, rfl, by omega, fun j u hu => by
    rw [Nat.zero_add, cell_of_row _ _ j cs.toArray t fr (heap_alloc_new w _)]
    simpa using hu⟩⟩
theorem rdLit (w : World) (t : TypeId) (cs : List Value) : Rd (w.alloc (.cells cs.toArray t)) (w.heap.size + 1) 1 (some ⟨w.heap.size, 0, none⟩) cs.length cs := rdLitM w t cs (0, 0)
theorem rdOne (w : World) (b : UInt8) : Rd (w.alloc (.cells #[.int .u8 (b.toNat : Int)] 5)) (w.heap.size + 1) 1 (some ⟨w.heap.size, 0, none⟩) 1 ([b].map bv) := rdLit w _ [bv b]
theorem owNil (w : World) (base : Nat) : Ow w base none 0 0 [] := World.ownsRow_nil _ _ _ _
theorem owLit0 (w : World) (base : Nat) (hb : base ≤ w.heap.size) : Ow (w.alloc (.cells #[] 5)) base (some ⟨w.heap.size, 0, none⟩) 0 0 [] :=
  World.ownsRow_lit (base := base) w #[] 0 hb (by simp [maxLen]) (by simp)
theorem Ow.alloc {w : World} {base c n : Nat} {A : Option Addr} {bs : List UInt8} (h : Ow w base A c n bs) (o : Obj) : Ow (w.alloc o) base A c n bs := World.ownsRow.alloc h o
theorem Ow.base {w : World} {base base' c n : Nat} {A : Option Addr} {bs : List UInt8} (h : Ow w base A c n bs) (hb : base' ≤ base) : Ow w base' A c n bs := ownBase h hb
theorem Ow.below {w w' : World} {base B c n : Nat} {A : Option Addr} {bs : List UInt8} (h : Ow w base A c n bs) (hb : Below B w w') (hB : w.heap.size ≤ B) : Ow w' base A c n bs := ownBelow h hb hB
end Go.Proofs.Ytcoafgnbmgndeaa
