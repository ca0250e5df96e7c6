/- Layer 9 (graph), the program's search in memory. -/
import Derived.Test.YtbfagejdpbagjaaGrT
import Derived.Test.YtbfagejdpbagjaaFp
import Derived.Test.YtbfagejdpbagjaaRows
import Derived.WalkSmall
import Derived.Deep.QuietTactic
import Derived.BigQuiet
import Derived.StillTailTactics
import Derived.Deep.Cut
import Derived.RegionTactic
import Derived.Great.BuildSlice
set_option linter.unusedVariables false
set_option linter.unusedSimpArgs false
namespace Go.Proofs.Ytbfagejdpbagjaa
open Go Go.RowKit

abbrev ni (k : Nat) : Value := .int .i64 (k : Int)
theorem ni_one (l : List Nat) : ∀ u ∈ l.map ni, u.oneCell' = true := by
  intro u hu
  obtain ⟨x, _, rfl⟩ := List.mem_map.1 hu
  rfl
theorem intInfo : (Try.prog.info? 3).map (fun i => (i.zero, i.size, i.bytes)) = some (some (.int .i64 0), 1, 8) := by kernel_rfl
theorem sliInfo : (Try.prog.info? 33).map (fun i => (i.zero, i.size, i.bytes)) = some (some (.slice none 0 0), 1, 24) := by kernel_rfl
/-- The slice of these numbers lies in a row of the call's own, from base on. -/
def OwI (w : World) (base : Nat) (A : Option Addr) (c n : Nat) (l : List Nat) : Prop := w.ownsRow base 3 1 (.slice A n c) n (l.map ni)
theorem OwI.len {w : World} {base c n : Nat} {A : Option Addr} {l : List Nat} (h : OwI w base A c n l) : l.length = n := by simpa using h.1
theorem OwI.le {w : World} {base c n : Nat} {A : Option Addr} {l : List Nat} (h : OwI w base A c n l) : n ≤ c := by
  obtain ⟨A', c', e, hle⟩ := ownForm h
  simp only [Value.slice.injEq] at e
  omega
theorem OwI.nil (w : World) (base : Nat) : OwI w base none 0 0 [] := World.ownsRow_nil _ _ _ _
/-- Cut at its end. -/
theorem ownCut {w : World} {base n c k : Nat} {e : TypeId} {A : Option Addr} {xs : List Value} (h : w.ownsRow base e 1 (.slice A n c) n xs) (hk : k ≤ n) : w.ownsRow base e 1 (.slice A k c) k (xs.take k) := by
  refine ⟨by rw [List.length_take, h.1]; omega, ?_⟩
  rcases h.2 with ⟨h1, rfl⟩ | ⟨g, cap, cur, h1, h2, h3, h4, h5, h6, h7⟩
  · simp only [Value.slice.injEq] at h1
    obtain ⟨rfl, _, rfl⟩ := h1
    have : k = 0 := by omega
    subst this
    exact .inl ⟨rfl, rfl⟩
  · simp only [Value.slice.injEq] at h1
    obtain ⟨rfl, _, rfl⟩ := h1
    refine .inr ⟨g, c, cur, rfl, h2, h3, by omega, h5, h6, ?_⟩
    rw [← h7, List.take_take]
    congr 1
    omega
theorem OwI.cut {w : World} {base n c k : Nat} {A : Option Addr} {l : List Nat} (h : OwI w base A c n l) (hk : k ≤ n) : OwI w base A c k (l.take k) := by
  unfold OwI
  rw [List.map_take]
  exact ownCut h hk

/-- What the search's slices are. -/
structure Mem where
  tA : Option Addr
  tc : Nat
  oA : Option Addr
  oc : Nat
  pA : Option Addr
  pc : Nat
  cs : List Value
  lv : List Value
  R : List (Nat × Nat)
def blockOf (A : Option Addr) : Option Nat := A.map (·.block)
theorem blockOf_some (b o : Nat) : blockOf (some ⟨b, o, none⟩) = some b := rfl
theorem blockOf_none : blockOf none = none := rfl
/-- The search in memory: its struct in block S, the edges' lists in block LB, as they lay in W0; what it makes lies behind W0. -/
structure SeM (W0 : World) (n S LB : Nat) (m : Mem) (w : World) (s : Se) : Prop where
  frame : Turn (fun k => k = S ∨ k = LB) W0 w
  hS : S < W0.heap.size
  hL : LB < W0.heap.size
  hSL : S ≠ LB
  blk : Bk w S 58 m.cs
  len : m.cs.length = 12293
  far : ∀ v, v < 4096 → m.cs[v * 3]? = some (ni (s.far v).1) ∧ m.cs[v * 3 + 1]? = some (ni (s.far v).2.1) ∧ m.cs[v * 3 + 2]? = some (.bool (s.far v).2.2)
  cLeads : m.cs[12288]? = some (.slice (some ⟨LB, 0, none⟩) n n)
  cCome : m.cs[12289]? = some (ni s.come)
  cTodo : m.cs[12290]? = some (.slice m.tA s.todo.length m.tc)
  cOpn : m.cs[12291]? = some (.slice m.oA s.opn.length m.oc)
  cParts : m.cs[12292]? = some (.slice m.pA s.parts.length m.pc)
  lblk : Bk w LB 33 m.lv
  llen : m.lv.length = n
  lead : ∀ u, u < n → ∃ A c, m.lv[u]? = some (.slice A (s.leads u).length c) ∧ (s.leads u).length ≤ c ∧ (0 < (s.leads u).length → ∃ b o, A = some ⟨b, o, none⟩ ∧ b < W0.heap.size ∧ b ≠ S ∧ b ≠ LB ∧ ∀ j v, (s.leads u)[j]? = some v → W0.cell? ⟨b, o + j, none⟩ = some (ni v))
  todo : OwI w W0.heap.size m.tA m.tc s.todo.length s.todo
  opn : OwI w W0.heap.size m.oA m.oc s.opn.length s.opn
  parts : w.ownsRow W0.heap.size 33 1 (.slice m.pA s.parts.length m.pc) s.parts.length ((m.R.zip s.parts).map fun x => .slice (some ⟨x.1.1, 0, none⟩) x.2.length x.1.2)
  rlen : m.R.length = s.parts.length
  row : ∀ (i : Nat) (r : Nat × Nat) (p : List Nat), m.R[i]? = some r → s.parts[i]? = some p → W0.heap.size ≤ r.1 ∧ r.1 < w.heap.size ∧ p.length ≤ r.2 ∧ ∀ j v, p[j]? = some v → w.cell? ⟨r.1, j, none⟩ = some (ni v)
  ap1 : ∀ k, blockOf m.tA = some k → blockOf m.oA ≠ some k ∧ blockOf m.pA ≠ some k
  ap2 : ∀ k, blockOf m.oA = some k → blockOf m.pA ≠ some k
  ap3 : ∀ r ∈ m.R, blockOf m.tA ≠ some r.1 ∧ blockOf m.oA ≠ some r.1 ∧ blockOf m.pA ≠ some r.1

section
variable {W0 w w' : World} {n S LB : Nat} {m : Mem} {s : Se}
theorem ownBlock_slice (A : Option Addr) (n c : Nat) : (Value.slice A n c).ownBlock = blockOf A := by cases A <;> rfl
theorem SeM.rd (h : SeM W0 n S LB m w s) {i : Nat} {u : Value} (hu : m.cs[i]? = some u) : w.cell? ⟨S, i, none⟩ = some u := (h.blk.cell i).trans hu
theorem SeM.fz (h : SeM W0 n S LB m w s) (i : Nat) : w.frozen? ⟨S, i, none⟩ = false := h.blk.frozen i
theorem SeM.low (h : SeM W0 n S LB m w s) : W0.heap.size ≤ w.heap.size := h.frame.size
theorem run_litI (x : Int) (w : World) : (Instr.buildSlice 33 1 #[(0, .int .i64 x)]).run Try.prog w = .ok (.slice (some ⟨w.heap.size, 0, none⟩) 1 1) (w.alloc (.cells #[.int .i64 x] 3)) := by
  obtain ⟨i0, hi, hz0, hz1, hz2⟩ := info_parts intInfo
  simp [Instr.buildSlice, run_underlying Try.underlying33, sizeOf, typeInfo, zeroValue, hi, hz0, hz1, newRow, Instr.fill]
  kernel_rfl
theorem run_litS (A : Option Addr) (k c : Nat) (w : World) : (Instr.buildSlice 25 1 #[(0, .slice A k c)]).run Try.prog w = .ok (.slice (some ⟨w.heap.size, 0, none⟩) 1 1) (w.alloc (.cells #[.slice A k c] 33)) := by
  obtain ⟨i0, hi, hz0, hz1, hz2⟩ := info_parts sliInfo
  simp [Instr.buildSlice, run_underlying Try.underlying25, sizeOf, typeInfo, zeroValue, hi, hz0, hz1, newRow, Instr.fill]
  kernel_rfl
theorem litI_rd (x : Nat) (w : World) : Rd (w.alloc (.cells #[.int .i64 (x : Int)] 3)) (w.alloc (.cells #[.int .i64 (x : Int)] 3)).heap.size 1 (some ⟨w.heap.size, 0, none⟩) 1 ([x].map ni) :=
  (Bk.new w 3 [ni x]).rd 1 (by simp)
theorem litS_rd (A : Option Addr) (k c : Nat) (w : World) : Rd (w.alloc (.cells #[.slice A k c] 33)) (w.alloc (.cells #[.slice A k c] 33)).heap.size 1 (some ⟨w.heap.size, 0, none⟩) 1 [.slice A k c] :=
  (Bk.new w 33 [.slice A k c]).rd 1 (by simp)
/-- 'l = append(l, x...)' over numbers. -/
theorem appI {ops : Array Oper} {rest : List Oper} {o : Oper} {a : Act} {Q : Exit → Act → World → Prop} (w : World) (hgd : o.guard = none) (p x : Operand)
    (ho : o.op = .call { callee := .builtin .append, args := #[p, x], argTypes := #[33, 33] })
    (base : Nat) (A0 : Option Addr) (c0 n : Nat) (l : List Nat) (hv : a.eval p = .slice A0 n c0) (hown : OwI w base A0 c0 n l)
    (B : Nat) (A : Option Addr) (m c : Nat) (news : List Nat) (hx : a.eval x = .slice A m c) (hr : Rd w B 1 A m (news.map ni)) (hb : n + m ≤ 1000000000000) (hbase : base ≤ w.heap.size)
    (h : ∀ A' c' w', OwI w' base A' c' (n + m) (l ++ news) → Turn (fun k => blockOf A0 = some k) w w' → (blockOf A' = blockOf A0 ∨ blockOf A' = some w.heap.size) → wpList Try.prog ops Q rest (a.put o.dst (.slice A' (n + m) c')) w') : wpList Try.prog ops Q (o :: rest) a w := by
  obtain ⟨i0, hi, hz0, hz1, hz2⟩ := info_parts intInfo
  refine wpList_app w hgd p x 33 ho base 3 i0 _ 1 8 Try.underlying33 hi hz0 hz1 hz2 rfl (by decide) _ n _ hv hown B A m c _ hx hr (ni_one news) (by simp only [maxLen]; omega) (by omega) hbase ?_
  intro A' c' w' h1 h2 h3
  rw [ownBlock_slice, ownBlock_slice] at h3
  exact h A' c' w' (by unfold OwI; rw [List.map_append]; exact h1) (Turn.ofGrown h2 fun k hk => by rw [ownBlock_slice] at hk; exact hk) h3
/-- .. over slices of numbers. -/
theorem appS {ops : Array Oper} {rest : List Oper} {o : Oper} {a : Act} {Q : Exit → Act → World → Prop} (w : World) (hgd : o.guard = none) (p x : Operand)
    (ho : o.op = .call { callee := .builtin .append, args := #[p, x], argTypes := #[25, 25] })
    (base : Nat) (A0 : Option Addr) (c0 n : Nat) (l : List Value) (hv : a.eval p = .slice A0 n c0) (hown : w.ownsRow base 33 1 (.slice A0 n c0) n l)
    (B : Nat) (A : Option Addr) (m c : Nat) (news : List Value) (hx : a.eval x = .slice A m c) (hr : Rd w B 1 A m news) (h1 : ∀ u ∈ news, u.oneCell' = true) (hb : n + m ≤ 1000000000000) (hbase : base ≤ w.heap.size)
    (h : ∀ A' c' w', w'.ownsRow base 33 1 (.slice A' (n + m) c') (n + m) (l ++ news) → Turn (fun k => blockOf A0 = some k) w w' → (blockOf A' = blockOf A0 ∨ blockOf A' = some w.heap.size) → wpList Try.prog ops Q rest (a.put o.dst (.slice A' (n + m) c')) w') : wpList Try.prog ops Q (o :: rest) a w := by
  obtain ⟨i0, hi, hz0, hz1, hz2⟩ := info_parts sliInfo
  refine wpList_app w hgd p x 25 ho base 33 i0 _ 1 24 Try.underlying25 hi hz0 hz1 hz2 rfl (by decide) _ n _ hv hown B A m c _ hx hr h1 (by simp only [maxLen]; omega) (by omega) hbase ?_
  intro A' c' w' h4 h2 h3
  rw [ownBlock_slice, ownBlock_slice] at h3
  exact h A' c' w' h4 (Turn.ofGrown h2 fun k hk => by rw [ownBlock_slice] at hk; exact hk) h3
theorem own_low {w : World} {base n c : Nat} {e : TypeId} {A : Option Addr} {xs : List Value} (h : w.ownsRow base e 1 (.slice A n c) n xs) {k : Nat} (hk : blockOf A = some k) : base ≤ k ∧ k < w.heap.size := h.lt k (by rw [ownBlock_slice]; exact hk)
theorem turn_own {G : Nat → Prop} {w w' : World} {base n c : Nat} {e : TypeId} {A : Option Addr} {xs : List Value} (ht : Turn G w w') (h : w.ownsRow base e 1 (.slice A n c) n xs) (hn : ∀ k, blockOf A = some k → ¬ G k) : w'.ownsRow base e 1 (.slice A n c) n xs :=
  ht.own h fun k hk => hn k (by rw [ownBlock_slice] at hk; exact hk)
theorem SeM.ltS (h : SeM W0 n S LB m w s) : S < w.heap.size := Nat.lt_of_lt_of_le h.hS h.low
end
end Go.Proofs.Ytbfagejdpbagjaa
