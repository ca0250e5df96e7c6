/- Texts, packed: GrY0 GrA GrB GrS0 GrC -/
import Derived.Test.YtfmghkplafploaaPwI
import Derived.Test.YtfmghkplafploaaPwA
import Derived.Test.YtfmghkplafploaaRows
import Derived.WalkSmall
import Derived.Deep.QuietTactic
import Derived.BigQuiet
import Derived.StillTailTactics
import Derived.Deep.Cut
import Derived.RegionTactic
import Derived.Great.BuildSlice
import Derived.Shelf.Small.Wraps
import Derived.Shelf.Sort.Plain
import Derived.Shelf.Slices.Turned
import Derived.Shelf.Slices.Clone
import Derived.Shelf.Spec.SlicesInsertGrow
import Derived.Shelf.Slices.SearchI
import Derived.Shelf.Slices.In.SortNone
import Derived.Shelf.Slices.Empties
import Derived.Shelf.SlicesE.IndexFunc
import Derived.Shelf.SlSortCmp.Whole1
import Derived.Shelf.SlSortCmp.NoneTotal
import Derived.Sort.OwnSortedInts
set_option linter.unusedVariables false
set_option linter.unusedSimpArgs false
namespace Go.Proofs.Ytfmghkplafploaa
open Classical

section
variable {n : Nat} {E E' : List (Nat × Nat)}
theorem order_all (hE : In n E) {T : List Nat} {L : List (List Nat)} (h : Order n E T L) : Shut n E T →
    (∀ p ∈ L, ∃ v, v < n ∧ p = part n E v) ∧ (∀ v, v < n → v ∈ T ∨ ∃ p ∈ L, v ∈ p) ∧ L.Pairwise (fun p q => ∀ x ∈ p, x ∉ q) ∧ (∀ p ∈ L, ∀ x ∈ p, x ∉ T) ∧ ∀ i, Shut n E (T ++ (L.take i).flatten) := by
  induction h with
  | @done T hn =>
    intro hT
    refine ⟨fun p hp => by simp at hp, fun v hv => ?_, List.Pairwise.nil, fun p hp => by simp at hp, fun i => by simpa using hT⟩
    by_cases hv2 : v ∈ T
    · exact .inl hv2
    · obtain ⟨s, hs⟩ := exists_sink (n := n) (E := E) (T := T) _ v hv hv2 (Nat.le_refl _)
      exact absurd hs (hn s)
  | @next T v L h1 h2 ih =>
    intro hT
    have hT2 := h1.1.shut hE hT
    obtain ⟨a1, a2, a3, a4, a5⟩ := ih hT2
    have hap : ∀ x ∈ part n E v, x ∉ T := fun x hx => hT.apart h1.1.2.1 hx
    refine ⟨fun p hp => ?_, fun x hx => ?_, ?_, fun p hp => ?_, fun i => ?_⟩
    · rcases List.mem_cons.1 hp with rfl | hp
      · exact ⟨v, h1.1.1, rfl⟩
      · exact a1 p hp
    · rcases a2 x hx with k | ⟨p, k1, k2⟩
      · rcases List.mem_append.1 k with k | k
        · exact .inl k
        · exact .inr ⟨_, List.mem_cons_self .., k⟩
      · exact .inr ⟨p, List.mem_cons_of_mem _ k1, k2⟩
    · exact List.pairwise_cons.2 ⟨fun q hq x hx hx2 => a4 q hq x hx2 (List.mem_append_right _ hx), a3⟩
    · rcases List.mem_cons.1 hp with rfl | hp
      · exact hap
      · exact fun x hx hxT => a4 p hp x hx (List.mem_append_left _ hxT)
    · cases i with
      | zero => simpa using hT
      | succ i =>
        have := a5 i
        rwa [List.append_assoc] at this
theorem shut_nil : Shut n E [] := fun u v h => absurd h (by simp)
theorem Order.isParts (hE : In n E) {L : List (List Nat)} (h : Order n E [] L) : IsParts n E L := by
  obtain ⟨a1, a2, a3, _, _⟩ := order_all hE h shut_nil
  refine ⟨a1, fun v hv => ?_, a3⟩
  rcases a2 v hv with k | k
  · simp at k
  · exact k
theorem Order.later (hE : In n E) {L : List (List Nat)} (h : Order n E [] L) {u v : Nat} (hu : u < n) (hc : Com E u v) : ofQ L v ≤ ofQ L u := by
  have hI := h.isParts hE
  obtain ⟨_, _, _, _, a5⟩ := order_all hE h shut_nil
  obtain ⟨p, h1, h2⟩ := hI.of_mem hu
  have h3 := a5 (ofQ L u + 1)
  rw [List.nil_append] at h3
  have hm : u ∈ (L.take (ofQ L u + 1)).flatten := by
    rw [List.mem_flatten]
    refine ⟨p, ?_, h2⟩
    refine List.mem_of_getElem? (i := ofQ L u) ?_
    rw [List.getElem?_take, if_pos (by omega)]
    exact h1
  have h4 := h3 u v hm hc
  rw [List.mem_flatten] at h4
  obtain ⟨q, h5, h6⟩ := h4
  obtain ⟨j, hj, e⟩ := List.getElem_of_mem h5
  have hj2 : (L.take (ofQ L u + 1))[j]? = some q := by rw [List.getElem?_eq_getElem hj, e]
  rw [List.getElem?_take] at hj2
  split at hj2
  · rename_i hlt
    have := (hI.of_eq hj2 h6).2
    omega
  · cases hj2
end
end Go.Proofs.Ytfmghkplafploaa

set_option linter.unusedVariables false
set_option linter.unusedSimpArgs false
namespace Go.Proofs.Ytfmghkplafploaa
open Go Go.RowKit

abbrev ni (k : Nat) : Value := .int .i64 (k : Int)
theorem ni_one (l : List Nat) : ∀ u ∈ l.map ni, u.oneCell' = true := by
  intro u hu
  obtain ⟨x, _, rfl⟩ := List.mem_map.1 hu
  rfl
theorem intInfo : (Try.prog.info? 3).map (fun i => (i.zero, i.size, i.bytes)) = some (some (.int .i64 0), 1, 8) := by kernel_rfl
theorem sliInfo : (Try.prog.info? 43).map (fun i => (i.zero, i.size, i.bytes)) = some (some (.slice none 0 0), 1, 24) := by kernel_rfl
/-- The slice of these numbers lies in a row of the call's own, from base on. -/
def OwI (w : World) (base : Nat) (A : Option Addr) (c n : Nat) (l : List Nat) : Prop := w.ownsRow base 3 1 (.slice A n c) n (l.map ni)
theorem OwI.len {w : World} {base c n : Nat} {A : Option Addr} {l : List Nat} (h : OwI w base A c n l) : l.length = n := by simpa using h.1
theorem OwI.le {w : World} {base c n : Nat} {A : Option Addr} {l : List Nat} (h : OwI w base A c n l) : n ≤ c := by
  obtain ⟨A', c', e, hle⟩ := ownForm h
  simp only [Value.slice.injEq] at e
  omega
theorem OwI.nil (w : World) (base : Nat) : OwI w base none 0 0 [] := World.ownsRow_nil _ _ _ _
/-- Cut at its end. -/
theorem ownCut {w : World} {base n c k : Nat} {e : TypeId} {A : Option Addr} {xs : List Value} (h : w.ownsRow base e 1 (.slice A n c) n xs) (hk : k ≤ n) : w.ownsRow base e 1 (.slice A k c) k (xs.take k) := by
  refine ⟨by rw [List.length_take, h.1]; omega, ?_⟩
  rcases h.2 with ⟨h1, rfl⟩ | ⟨g, cap, cur, h1, h2, h3, h4, h5, h6, h7⟩
  · simp only [Value.slice.injEq] at h1
    obtain ⟨rfl, _, rfl⟩ := h1
    have : k = 0 := by omega
    subst this
    exact .inl ⟨rfl, rfl⟩
  · simp only [Value.slice.injEq] at h1
    obtain ⟨rfl, _, rfl⟩ := h1
    refine .inr ⟨g, c, cur, rfl, h2, h3, by omega, h5, h6, ?_⟩
    rw [← h7, List.take_take]
    congr 1
    omega
theorem OwI.cut {w : World} {base n c k : Nat} {A : Option Addr} {l : List Nat} (h : OwI w base A c n l) (hk : k ≤ n) : OwI w base A c k (l.take k) := by
  unfold OwI
  rw [List.map_take]
  exact ownCut h hk

/-- What the search's slices are. -/
structure Mem where
  tA : Option Addr
  tc : Nat
  oA : Option Addr
  oc : Nat
  pA : Option Addr
  pc : Nat
  cs : List Value
  lv : List Value
  R : List (Nat × Nat)
def blockOf (A : Option Addr) : Option Nat := A.map (·.block)
theorem blockOf_some (b o : Nat) : blockOf (some ⟨b, o, none⟩) = some b := rfl
theorem blockOf_none : blockOf none = none := rfl
/-- The search in memory: its struct in block S, the edges' lists in block LB, as they lay in W0; what it makes lies behind W0. -/
structure SeM (W0 : World) (n S LB : Nat) (m : Mem) (w : World) (s : Se) : Prop where
  frame : Turn (fun k => k = S ∨ k = LB) W0 w
  hS : S < W0.heap.size
  hL : LB < W0.heap.size
  hSL : S ≠ LB
  blk : Bk w S 94 m.cs
  len : m.cs.length = 12293
  far : ∀ v, v < 4096 → m.cs[v * 3]? = some (ni (s.far v).1) ∧ m.cs[v * 3 + 1]? = some (ni (s.far v).2.1) ∧ m.cs[v * 3 + 2]? = some (.bool (s.far v).2.2)
  cLeads : m.cs[12288]? = some (.slice (some ⟨LB, 0, none⟩) n n)
  cCome : m.cs[12289]? = some (ni s.come)
  cTodo : m.cs[12290]? = some (.slice m.tA s.todo.length m.tc)
  cOpn : m.cs[12291]? = some (.slice m.oA s.opn.length m.oc)
  cParts : m.cs[12292]? = some (.slice m.pA s.parts.length m.pc)
  lblk : Bk w LB 43 m.lv
  llen : m.lv.length = n
  lead : ∀ u, u < n → ∃ A c, m.lv[u]? = some (.slice A (s.leads u).length c) ∧ (s.leads u).length ≤ c ∧ (0 < (s.leads u).length → ∃ b o, A = some ⟨b, o, none⟩ ∧ b < W0.heap.size ∧ b ≠ S ∧ b ≠ LB ∧ ∀ j v, (s.leads u)[j]? = some v → W0.cell? ⟨b, o + j, none⟩ = some (ni v))
  todo : OwI w W0.heap.size m.tA m.tc s.todo.length s.todo
  opn : OwI w W0.heap.size m.oA m.oc s.opn.length s.opn
  parts : w.ownsRow W0.heap.size 43 1 (.slice m.pA s.parts.length m.pc) s.parts.length ((m.R.zip s.parts).map fun x => .slice (some ⟨x.1.1, 0, none⟩) x.2.length x.1.2)
  rlen : m.R.length = s.parts.length
  row : ∀ (i : Nat) (r : Nat × Nat) (p : List Nat), m.R[i]? = some r → s.parts[i]? = some p → W0.heap.size ≤ r.1 ∧ r.1 < w.heap.size ∧ p.length ≤ r.2 ∧ ∀ j v, p[j]? = some v → w.cell? ⟨r.1, j, none⟩ = some (ni v)
  ap1 : ∀ k, blockOf m.tA = some k → blockOf m.oA ≠ some k ∧ blockOf m.pA ≠ some k
  ap2 : ∀ k, blockOf m.oA = some k → blockOf m.pA ≠ some k
  ap3 : ∀ r ∈ m.R, blockOf m.tA ≠ some r.1 ∧ blockOf m.oA ≠ some r.1 ∧ blockOf m.pA ≠ some r.1

section
variable {W0 w w' : World} {n S LB : Nat} {m : Mem} {s : Se}
theorem ownBlock_slice (A : Option Addr) (n c : Nat) : (Value.slice A n c).ownBlock = blockOf A := by cases A <;> rfl
theorem SeM.rd (h : SeM W0 n S LB m w s) {i : Nat} {u : Value} (hu : m.cs[i]? = some u) : w.cell? ⟨S, i, none⟩ = some u := (h.blk.cell i).trans hu
theorem SeM.fz (h : SeM W0 n S LB m w s) (i : Nat) : w.frozen? ⟨S, i, none⟩ = false := h.blk.frozen i
theorem SeM.low (h : SeM W0 n S LB m w s) : W0.heap.size ≤ w.heap.size := h.frame.size
theorem run_litI (x : Int) (w : World) : (Instr.buildSlice 43 1 #[(0, .int .i64 x)]).run Try.prog w = .ok (.slice (some ⟨w.heap.size, 0, none⟩) 1 1) (w.alloc (.cells #[.int .i64 x] 3)) := by
  obtain ⟨i0, hi, hz0, hz1, hz2⟩ := info_parts intInfo
  simp [Instr.buildSlice, run_underlying Try.underlying43, sizeOf, typeInfo, zeroValue, hi, hz0, hz1, newRow, Instr.fill]
  kernel_rfl
theorem run_litS (A : Option Addr) (k c : Nat) (w : World) : (Instr.buildSlice 38 1 #[(0, .slice A k c)]).run Try.prog w = .ok (.slice (some ⟨w.heap.size, 0, none⟩) 1 1) (w.alloc (.cells #[.slice A k c] 43)) := by
  obtain ⟨i0, hi, hz0, hz1, hz2⟩ := info_parts sliInfo
  simp [Instr.buildSlice, run_underlying Try.underlying38, sizeOf, typeInfo, zeroValue, hi, hz0, hz1, newRow, Instr.fill]
  kernel_rfl
theorem litI_rd (x : Nat) (w : World) : Rd (w.alloc (.cells #[.int .i64 (x : Int)] 3)) (w.alloc (.cells #[.int .i64 (x : Int)] 3)).heap.size 1 (some ⟨w.heap.size, 0, none⟩) 1 ([x].map ni) :=
  (Bk.new w 3 [ni x]).rd 1 (by simp)
theorem litS_rd (A : Option Addr) (k c : Nat) (w : World) : Rd (w.alloc (.cells #[.slice A k c] 43)) (w.alloc (.cells #[.slice A k c] 43)).heap.size 1 (some ⟨w.heap.size, 0, none⟩) 1 [.slice A k c] :=
  (Bk.new w 43 [.slice A k c]).rd 1 (by simp)
/-- 'l = append(l, x...)' over numbers. -/
theorem appI {ops : Array Oper} {rest : List Oper} {o : Oper} {a : Act} {Q : Exit → Act → World → Prop} (w : World) (hgd : o.guard = none) (p x : Operand)
    (ho : o.op = .call { callee := .builtin .append, args := #[p, x], argTypes := #[43, 43] })
    (base : Nat) (A0 : Option Addr) (c0 n : Nat) (l : List Nat) (hv : a.eval p = .slice A0 n c0) (hown : OwI w base A0 c0 n l)
    (B : Nat) (A : Option Addr) (m c : Nat) (news : List Nat) (hx : a.eval x = .slice A m c) (hr : Rd w B 1 A m (news.map ni)) (hb : n + m ≤ 1000000000000) (hbase : base ≤ w.heap.size)
    (h : ∀ A' c' w', OwI w' base A' c' (n + m) (l ++ news) → Turn (fun k => blockOf A0 = some k) w w' → (blockOf A' = blockOf A0 ∨ blockOf A' = some w.heap.size) → wpList Try.prog ops Q rest (a.put o.dst (.slice A' (n + m) c')) w') : wpList Try.prog ops Q (o :: rest) a w := by
  obtain ⟨i0, hi, hz0, hz1, hz2⟩ := info_parts intInfo
  refine wpList_app w hgd p x 43 ho base 3 i0 _ 1 8 Try.underlying43 hi hz0 hz1 hz2 rfl (by decide) _ n _ hv hown B A m c _ hx hr (ni_one news) (by simp only [maxLen]; omega) (by omega) hbase ?_
  intro A' c' w' h1 h2 h3
  rw [ownBlock_slice, ownBlock_slice] at h3
  exact h A' c' w' (by unfold OwI; rw [List.map_append]; exact h1) (Turn.ofGrown h2 fun k hk => by rw [ownBlock_slice] at hk; exact hk) h3
/-- .. over slices of numbers. -/
theorem appS {ops : Array Oper} {rest : List Oper} {o : Oper} {a : Act} {Q : Exit → Act → World → Prop} (w : World) (hgd : o.guard = none) (p x : Operand)
    (ho : o.op = .call { callee := .builtin .append, args := #[p, x], argTypes := #[38, 38] })
    (base : Nat) (A0 : Option Addr) (c0 n : Nat) (l : List Value) (hv : a.eval p = .slice A0 n c0) (hown : w.ownsRow base 43 1 (.slice A0 n c0) n l)
    (B : Nat) (A : Option Addr) (m c : Nat) (news : List Value) (hx : a.eval x = .slice A m c) (hr : Rd w B 1 A m news) (h1 : ∀ u ∈ news, u.oneCell' = true) (hb : n + m ≤ 1000000000000) (hbase : base ≤ w.heap.size)
    (h : ∀ A' c' w', w'.ownsRow base 43 1 (.slice A' (n + m) c') (n + m) (l ++ news) → Turn (fun k => blockOf A0 = some k) w w' → (blockOf A' = blockOf A0 ∨ blockOf A' = some w.heap.size) → wpList Try.prog ops Q rest (a.put o.dst (.slice A' (n + m) c')) w') : wpList Try.prog ops Q (o :: rest) a w := by
  obtain ⟨i0, hi, hz0, hz1, hz2⟩ := info_parts sliInfo
  refine wpList_app w hgd p x 38 ho base 43 i0 _ 1 24 Try.underlying38 hi hz0 hz1 hz2 rfl (by decide) _ n _ hv hown B A m c _ hx hr h1 (by simp only [maxLen]; omega) (by omega) hbase ?_
  intro A' c' w' h4 h2 h3
  rw [ownBlock_slice, ownBlock_slice] at h3
  exact h A' c' w' h4 (Turn.ofGrown h2 fun k hk => by rw [ownBlock_slice] at hk; exact hk) h3
theorem own_low {w : World} {base n c : Nat} {e : TypeId} {A : Option Addr} {xs : List Value} (h : w.ownsRow base e 1 (.slice A n c) n xs) {k : Nat} (hk : blockOf A = some k) : base ≤ k ∧ k < w.heap.size := h.lt k (by rw [ownBlock_slice]; exact hk)
theorem turn_own {G : Nat → Prop} {w w' : World} {base n c : Nat} {e : TypeId} {A : Option Addr} {xs : List Value} (ht : Turn G w w') (h : w.ownsRow base e 1 (.slice A n c) n xs) (hn : ∀ k, blockOf A = some k → ¬ G k) : w'.ownsRow base e 1 (.slice A n c) n xs :=
  ht.own h fun k hk => hn k (by rw [ownBlock_slice] at hk; exact hk)
theorem SeM.ltS (h : SeM W0 n S LB m w s) : S < w.heap.size := Nat.lt_of_lt_of_le h.hS h.low
end
end Go.Proofs.Ytfmghkplafploaa

set_option linter.unusedVariables false
set_option linter.unusedSimpArgs false
namespace Go.Proofs.Ytfmghkplafploaa
open Go Go.RowKit

set_option maxRecDepth 100000 in
set_option maxHeartbeats 1000000 in
theorem comeTo_any (W0 : World) (n S LB : Nat) (m : Mem) (w : World) (s : Se) (v : Nat) (h : SeM W0 n S LB m w s) (hv : v < 4096) (hc : s.come ≤ 4096) (hto1 : s.todo.length ≤ 4096) (hop1 : s.opn.length ≤ 4096) :
    Calls Try.prog 61 #[.pointer (some ⟨S, 0, none⟩), ni v] w fun e w' => e = .returned (.tuple #[]) ∧ ∃ m', SeM W0 n S LB m' w' (comeL s v) := by
  have H := Lib.hid h
  have c2 := h.rd h.cCome
  have f2 := h.fz 12289
  clear h
  go_enter Try.func61, Try.ntmps61
  go_upto_region 1 with (fail)
  obtain ⟨W1, hW1, hb1, ht1⟩ : ∃ W1, W1 = w.setCell ⟨S, 12289, none⟩ (.int .i64 ((s.come : Int) + 1)) ∧ Bk W1 S 94 (m.cs.set 12289 (ni (s.come + 1))) ∧ Turn (fun k => k = S) w W1 :=
    ⟨_, rfl, H.out.blk.set_ _ _, (Turn.refl (fun k => k = S) w).setCell (p := ⟨S, 12289, none⟩) (fun _ => rfl) _⟩
  rw [← hW1]
  clear hW1 c2 f2
  have HB1 := Lib.hid hb1
  have HT1 := Lib.hid ht1
  have HC1 := Lib.hid (show (m.cs.set 12289 (ni (s.come + 1))).length = 12293 by rw [List.length_set]; exact H.out.len)
  have c2 : W1.cell? ⟨S, 12289, none⟩ = some (.int .i64 ((s.come : Int) + 1)) := by
    rw [hb1.cell, List.getElem?_set_self (by rw [H.out.len]; omega)]; rfl
  have f0 := hb1.frozen (v * 3)
  have f1 := hb1.frozen (v * 3 + 1)
  have f2 := hb1.frozen (v * 3 + 2)
  have g0 : ∃ u, W1.cell? ⟨S, v * 3, none⟩ = some u := ⟨_, by rw [hb1.cell, List.getElem?_eq_getElem (by rw [HC1.out]; omega)]⟩
  have g1 : ∃ u, W1.cell? ⟨S, v * 3 + 1, none⟩ = some u := ⟨_, by rw [hb1.cell, List.getElem?_eq_getElem (by rw [HC1.out]; omega)]⟩
  have g2 : ∃ u, W1.cell? ⟨S, v * 3 + 2, none⟩ = some u := ⟨_, by rw [hb1.cell, List.getElem?_eq_getElem (by rw [HC1.out]; omega)]⟩
  obtain ⟨u0, g0⟩ := g0
  obtain ⟨u1, g1⟩ := g1
  obtain ⟨u2, g2⟩ := g2
  clear hb1 ht1
  have hvi : (v : Int) < 4096 := by omega
  have hv0 : (0 : Int) ≤ (v : Int) := by omega
  go_still_tail 14, (by kernel_rfl)
  go_upto_region 2 with (fail)
  obtain ⟨W2, hW2, hb2, ht2⟩ : ∃ W2, W2 = (((W1.setCell ⟨S, v * 3, none⟩ (.int .i64 ((s.come : Int) + 1))).setCell ⟨S, v * 3 + 1, none⟩ (.int .i64 ((s.come : Int) + 1))).setCell ⟨S, v * 3 + 2, none⟩ (.bool false)).drew ∧
      Bk W2 S 94 ((((m.cs.set 12289 (ni (s.come + 1))).set (v * 3) (ni (s.come + 1))).set (v * 3 + 1) (ni (s.come + 1))).set (v * 3 + 2) (.bool false)) ∧ Turn (fun k => k = S) w W2 :=
    ⟨_, rfl, (((HB1.out.set_ _ _).set_ _ _).set_ _ _).drew, (((HT1.out.setCell (p := ⟨S, v * 3, none⟩) (fun _ => rfl) _).setCell (p := ⟨S, v * 3 + 1, none⟩) (fun _ => rfl) _).setCell (p := ⟨S, v * 3 + 2, none⟩) (fun _ => rfl) _).drew⟩
  rw [← hW2]
  obtain ⟨cs2, hcs2⟩ : ∃ cs2, cs2 = ((((m.cs.set 12289 (ni (s.come + 1))).set (v * 3) (ni (s.come + 1))).set (v * 3 + 1) (ni (s.come + 1))).set (v * 3 + 2) (.bool false)) := ⟨_, rfl⟩
  rw [← hcs2] at hb2
  clear hW2 HB1 HT1 c2 f0 f1 f2 g0 g1 g2 HC1
  have hl2 : cs2.length = 12293 := by rw [hcs2]; simp only [List.length_set]; exact H.out.len
  -- what stands where in the struct
  have hget : ∀ i, cs2[i]? = if i = v * 3 + 2 then some (.bool false) else if i = v * 3 + 1 ∨ i = v * 3 ∨ i = 12289 then some (ni (s.come + 1)) else m.cs[i]? := by
    intro i
    have hl := H.out.len
    rw [hcs2]
    simp only [List.getElem?_set, List.length_set, hl]
    by_cases h1 : i = v * 3 + 2
    · subst h1; simp; omega
    · rw [if_neg (fun e => h1 e.symm), if_neg h1]
      by_cases h2 : i = v * 3 + 1
      · subst h2; simp; omega
      · rw [if_neg (fun e => h2 e.symm)]
        by_cases h3 : i = v * 3
        · subst h3; simp; omega
        · rw [if_neg (fun e => h3 e.symm)]
          by_cases h4 : i = 12289
          · subst h4; simp
          · rw [if_neg (fun e => h4 e.symm), if_neg (by omega)]
  clear hcs2
  have HG := Lib.hid hget
  have HL := Lib.hid hl2
  have HB := Lib.hid hb2
  have HT := Lib.hid ht2
  have hlowS := H.out.ltS
  have hbase : W0.heap.size ≤ W2.heap.size := Nat.le_trans H.out.low ht2.size
  have c3 : W2.cell? ⟨S, 12290, none⟩ = some (.slice m.tA s.todo.length m.tc) := by
    rw [hb2.cell, hget, if_neg (by omega), if_neg (by omega)]; exact H.out.cTodo
  have hlit := run_litI (v : Int) W2
  have hZ0 : Below W2.heap.size W2 (W2.alloc (.cells #[.int .i64 (v : Int)] 3)) := (Below.refl _ _).alloc (Nat.le_refl _) _
  have HZ := Lib.hid (HT.out.then_ (Turn.ofBelow (G := fun k => k = S) hZ0) (fun _ _ h => h))
  have HTo := Lib.hid (turn_own HZ.out H.out.todo (fun k hk e => by have := (own_low H.out.todo hk).1; have := H.out.hS; omega))
  have HBZ := Lib.hid (hb2.alloc (.cells #[.int .i64 (v : Int)] 3))
  have hbZ : W0.heap.size ≤ (W2.alloc (.cells #[.int .i64 (v : Int)] 3)).heap.size := Nat.le_trans hbase hZ0.size
  clear hget hl2 hb2 ht2 hZ0 hbase
  go_upto_region 3 with (
      (at_builtin; refine appI _ rfl (.tmp 29) (.tmp 31) rfl W0.heap.size m.tA m.tc s.todo.length s.todo rfl HTo.out _ _ 1 1 [v] rfl (litI_rd v W2) (by omega) hbZ ?_
       intro A3 c3' Z hoZ htZ hfr
       have HO3 := Lib.hid hoZ
       have HT3 := Lib.hid htZ
       have HF3 := Lib.hid hfr
       have f3 := (htZ.bk HBZ.out (fun e => by have := (own_low H.out.todo e).1; have := H.out.hS; omega)).frozen 12290
       have c3z : Z.cell? ⟨S, 12290, none⟩ = some (.slice m.tA s.todo.length m.tc) := by
         rw [(htZ.bk HBZ.out (fun e => by have := (own_low H.out.todo e).1; have := H.out.hS; omega)).cell 12290, HG.out, if_neg (by omega), if_neg (by omega)]; exact H.out.cTodo
       clear hoZ htZ hfr hlit c3))
  obtain ⟨W3, hW3, hb3, ht3⟩ : ∃ W3, W3 = Z.setCell ⟨S, 12290, none⟩ (.slice A3 (s.todo.length + 1) c3') ∧ Bk W3 S 94 (cs2.set 12290 (.slice A3 (s.todo.length + 1) c3')) ∧ Turn (fun k => k = S) Z W3 :=
    ⟨_, rfl, (HT3.out.bk HBZ.out (fun e => by have := (own_low H.out.todo e).1; have := H.out.hS; omega)).set_ _ _, (Turn.refl (fun k => k = S) Z).setCell (p := ⟨S, 12290, none⟩) (fun _ => rfl) _⟩
  rw [← hW3]
  clear hW3 f3 c3z
  -- what turned so far
  have ht03 : Turn (fun k => k = S ∨ blockOf m.tA = some k) w W3 :=
    ((HZ.out.mono (fun k _ h => Or.inl h)).then_ HT3.out (fun k _ h => Or.inr h)).then_ ht3 (fun k _ h => Or.inl h)
  have ho3 : OwI W3 W0.heap.size A3 c3' (s.todo.length + 1) (s.todo ++ [v]) := turn_own ht3 HO3.out (fun k hk e => by have := (own_low HO3.out hk).1; have := H.out.hS; omega)
  have hop3 : OwI W3 W0.heap.size m.oA m.oc s.opn.length s.opn := turn_own ht03 H.out.opn (fun k hk e => by
    rcases e with e | e
    · have := (own_low H.out.opn hk).1; have := H.out.hS; omega
    · exact (H.out.ap1 k e).1 hk)
  have hbase3 : W0.heap.size ≤ W3.heap.size := Nat.le_trans H.out.low ht03.size
  have hf3 : blockOf A3 = blockOf m.tA ∨ ∃ k, blockOf A3 = some k ∧ w.heap.size ≤ k := by
    rcases HF3.out with e | e
    · exact .inl e
    · exact .inr ⟨_, e, HZ.out.size⟩
  have HF4 := Lib.hid hf3
  have HT4 := Lib.hid ht03
  have HO4 := Lib.hid ho3
  have HP4 := Lib.hid hop3
  have hl3 : (cs2.set 12290 (.slice A3 (s.todo.length + 1) c3')).length = 12293 := by rw [List.length_set]; exact HL.out
  have hg3 : ∀ i, (cs2.set 12290 (.slice A3 (s.todo.length + 1) c3'))[i]? = if i = 12290 then some (.slice A3 (s.todo.length + 1) c3') else if i = v * 3 + 2 then some (.bool false) else if i = v * 3 + 1 ∨ i = v * 3 ∨ i = 12289 then some (ni (s.come + 1)) else m.cs[i]? := by
    intro i
    rw [List.getElem?_set, HL.out]
    by_cases h1 : i = 12290
    · subst h1; simp
    · rw [if_neg (fun e => h1 e.symm), if_neg h1]; exact HG.out i
  obtain ⟨cs3, hcs3⟩ : ∃ cs3, cs3 = cs2.set 12290 (.slice A3 (s.todo.length + 1) c3') := ⟨_, rfl⟩
  rw [← hcs3] at hl3 hg3 hb3
  have HG3 := Lib.hid hg3
  have HL3 := Lib.hid hl3
  have HB3 := Lib.hid hb3
  have c4 : W3.cell? ⟨S, 12291, none⟩ = some (.slice m.oA s.opn.length m.oc) := by
    rw [hb3.cell, hg3, if_neg (by omega), if_neg (by omega), if_neg (by omega)]; exact H.out.cOpn
  have hlit := run_litI (v : Int) W3
  have hZ0 : Below W3.heap.size W3 (W3.alloc (.cells #[.int .i64 (v : Int)] 3)) := (Below.refl _ _).alloc (Nat.le_refl _) _
  have HZ5 := Lib.hid (HT4.out.then_ (Turn.ofBelow (G := fun k => k = S ∨ blockOf m.tA = some k) hZ0) (fun _ _ h => h))
  have HP5 := Lib.hid (show OwI (W3.alloc (.cells #[.int .i64 (v : Int)] 3)) W0.heap.size m.oA m.oc s.opn.length s.opn from ownBelow HP4.out hZ0 (Nat.le_refl _))
  have HO5 := Lib.hid (show OwI (W3.alloc (.cells #[.int .i64 (v : Int)] 3)) W0.heap.size A3 c3' (s.todo.length + 1) (s.todo ++ [v]) from ownBelow HO4.out hZ0 (Nat.le_refl _))
  have HB5 := Lib.hid (hb3.alloc (.cells #[.int .i64 (v : Int)] 3))
  have hbZ5 : W0.heap.size ≤ (W3.alloc (.cells #[.int .i64 (v : Int)] 3)).heap.size := Nat.le_trans hbase3 hZ0.size
  clear hcs3 hl3 hg3 hb3 ht03 ho3 hop3 hbase3 hf3 hZ0 HG HL HB HT HZ HTo HBZ hbZ HO3 HT3 HF3 ht3
  repeat (first
    | (at_builtin; refine appI _ rfl (.tmp 39) (.tmp 41) rfl W0.heap.size m.oA m.oc s.opn.length s.opn rfl HP5.out _ _ 1 1 [v] rfl (litI_rd v W3) (by omega) hbZ5 ?_
       intro A6 c6' Y hoY htY hfr
       have HO6 := Lib.hid hoY
       have HT6 := Lib.hid htY
       have HF6 := Lib.hid hfr
       have HB6 := Lib.hid (htY.bk HB5.out (fun e => by have := (own_low H.out.opn e).1; have := H.out.hS; omega))
       have f6 := HB6.out.frozen 12291
       have c6z : Y.cell? ⟨S, 12291, none⟩ = some (.slice m.oA s.opn.length m.oc) := by
         rw [HB6.out.cell 12291, HG3.out, if_neg (by omega), if_neg (by omega), if_neg (by omega)]; exact H.out.cOpn
       clear hoY htY hfr hlit c4)
    | go_skip | go_guarded | go_step)
  go_end0
  refine ⟨rfl, ⟨A3, c3', A6, c6', m.pA, m.pc, cs3.set 12291 (.slice A6 (s.opn.length + 1) c6'), m.lv, m.R⟩, ?_⟩
  have h := H.out
  obtain ⟨Y2, hY2⟩ : ∃ Y2, Y2 = Y.setCell ⟨S, 12291, none⟩ (.slice A6 (s.opn.length + 1) c6') := ⟨_, rfl⟩
  have tY : Turn (fun k => k = S) Y Y2 := by rw [hY2]; exact (Turn.refl (fun k => k = S) Y).setCell (p := ⟨S, 12291, none⟩) (fun _ => rfl) _
  have T : Turn (fun k => k = S ∨ blockOf m.tA = some k ∨ blockOf m.oA = some k) w Y2 :=
    ((HZ5.out.mono (fun k _ h => h.elim .inl fun h => .inr (.inl h))).then_ HT6.out (fun k _ h => .inr (.inr h))).then_ tY (fun k _ h => .inl h)
  have own1 : ∀ k, blockOf m.tA = some k → W0.heap.size ≤ k ∧ k < w.heap.size := fun k hk => own_low h.todo hk
  have own2 : ∀ k, blockOf m.oA = some k → W0.heap.size ≤ k ∧ k < w.heap.size := fun k hk => own_low h.opn hk
  have own3 : ∀ k, blockOf m.pA = some k → W0.heap.size ≤ k ∧ k < w.heap.size := fun k hk => own_low h.parts hk
  have hG : ∀ k, k < W0.heap.size → (k = S ∨ blockOf m.tA = some k ∨ blockOf m.oA = some k) → k = S := by
    intro k hk e
    rcases e with e | e | e
    · exact e
    · have := (own1 k e).1; omega
    · have := (own2 k e).1; omega
  have hS := h.hS
  have hget : ∀ i, (cs3.set 12291 (.slice A6 (s.opn.length + 1) c6'))[i]? = if i = 12291 then some (.slice A6 (s.opn.length + 1) c6') else if i = 12290 then some (.slice A3 (s.todo.length + 1) c3') else if i = v * 3 + 2 then some (.bool false) else if i = v * 3 + 1 ∨ i = v * 3 ∨ i = 12289 then some (ni (s.come + 1)) else m.cs[i]? := by
    intro i
    rw [List.getElem?_set, HL3.out]
    by_cases h1 : i = 12291
    · subst h1; simp
    · rw [if_neg (fun e => h1 e.symm), if_neg h1]; exact HG3.out i
  have hap : ∀ k, blockOf A3 = some k → blockOf m.tA = some k ∨ w.heap.size ≤ k := by
    intro k hk
    rcases HF4.out with e | ⟨j, e, hj⟩
    · exact .inl (e ▸ hk)
    · rw [e] at hk; cases hk; exact .inr hj
  have hap6 : ∀ k, blockOf A6 = some k → blockOf m.oA = some k ∨ W3.heap.size < k := by
    intro k hk
    rcases HF6.out with e | e
    · exact .inl (e ▸ hk)
    · rw [e] at hk; cases hk; exact .inr (by simp)
  have hw3 : w.heap.size ≤ W3.heap.size := HT4.out.size
  have hA3lt : ∀ k, blockOf A3 = some k → k < W3.heap.size := fun k hk => (own_low HO4.out hk).2
  have hA3ge : ∀ k, blockOf A3 = some k → W0.heap.size ≤ k := fun k hk => (own_low HO4.out hk).1
  have e1 : (comeL s v).todo = s.todo ++ [v] := rfl
  have e2 : (comeL s v).opn = s.opn ++ [v] := rfl
  rw [← hY2]
  refine ⟨?_, h.hS, h.hL, h.hSL, ?_, ?_, ?_, ?_, ?_, ?_, ?_, ?_, ?_, h.llen, h.lead, ?_, ?_, ?_, h.rlen, ?_, ?_, ?_, ?_⟩
  · exact h.frame.then_ T fun k hk e => .inl (hG k hk e)
  · rw [hY2]; exact HB6.out.set_ _ _
  · show (cs3.set 12291 _).length = _
    rw [List.length_set]; exact HL3.out
  · intro u hu
    show (cs3.set 12291 _)[u * 3]? = _ ∧ (cs3.set 12291 _)[u * 3 + 1]? = _ ∧ (cs3.set 12291 _)[u * 3 + 2]? = _
    rw [hget, hget, hget]
    by_cases e : u = v
    · subst e
      rw [show (comeL s u).far u = (s.come + 1, s.come + 1, false) from upd_same]
      refine ⟨?_, ?_, ?_⟩
      · rw [if_neg (by omega), if_neg (by omega), if_neg (by omega), if_pos (by omega)]
      · rw [if_neg (by omega), if_neg (by omega), if_neg (by omega), if_pos (by omega)]
      · rw [if_neg (by omega), if_neg (by omega), if_pos rfl]
    · rw [show (comeL s v).far u = s.far u from upd_other e]
      have := h.far u hu
      refine ⟨?_, ?_, ?_⟩
      · rw [if_neg (by omega), if_neg (by omega), if_neg (by omega), if_neg (by omega)]; exact this.1
      · rw [if_neg (by omega), if_neg (by omega), if_neg (by omega), if_neg (by omega)]; exact this.2.1
      · rw [if_neg (by omega), if_neg (by omega), if_neg (by omega), if_neg (by omega)]; exact this.2.2
  · show (cs3.set 12291 _)[12288]? = _
    rw [hget, if_neg (by omega), if_neg (by omega), if_neg (by omega), if_neg (by omega)]; exact h.cLeads
  · show (cs3.set 12291 _)[12289]? = _
    rw [hget, if_neg (by omega), if_neg (by omega), if_neg (by omega), if_pos (by omega)]; rfl
  · show (cs3.set 12291 _)[12290]? = _
    rw [hget, if_neg (by omega), if_pos rfl, e1, List.length_append]; rfl
  · show (cs3.set 12291 _)[12291]? = _
    rw [hget, if_pos rfl, e2, List.length_append]; rfl
  · show (cs3.set 12291 _)[12292]? = _
    rw [hget, if_neg (by omega), if_neg (by omega), if_neg (by omega), if_neg (by omega)]; exact h.cParts
  · refine T.bk h.lblk fun e => ?_
    have := h.hL
    rcases e with e | e | e
    · exact h.hSL e.symm
    · have := (own1 _ e).1; omega
    · have := (own2 _ e).1; omega
  · show OwI Y2 W0.heap.size A3 c3' (s.todo ++ [v]).length (s.todo ++ [v])
    rw [List.length_append]
    refine turn_own tY (turn_own HT6.out HO5.out fun k hk e => ?_) fun k hk e => ?_
    · have h1 := own2 k e
      rcases hap k hk with g | g
      · exact (h.ap1 k g).1 e
      · omega
    · have := hA3ge k hk; omega
  · show OwI Y2 W0.heap.size A6 c6' (s.opn ++ [v]).length (s.opn ++ [v])
    rw [List.length_append]
    refine turn_own tY HO6.out fun k hk e => ?_
    have := (own_low HO6.out hk).1; omega
  · refine turn_own T h.parts fun k hk e => ?_
    have h1 := own3 k hk
    rcases e with e | e | e
    · omega
    · exact (h.ap1 k e).2 hk
    · exact h.ap2 k e hk
  · intro i r p hr hp
    obtain ⟨g1, g2, g3, g4⟩ := h.row i r p hr hp
    have g5 := h.ap3 r (List.mem_of_getElem? hr)
    refine ⟨g1, Nat.lt_of_lt_of_le g2 T.size, g3, fun j x hx => (T.cell (p := ⟨r.1, j, none⟩) g2 ?_).trans (g4 j x hx)⟩
    rintro (e | e | e)
    · have : r.1 = S := e
      omega
    · exact g5.1 e
    · exact g5.2.1 e
  · intro k hk
    have h1 := hA3lt k hk
    refine ⟨fun e => ?_, fun e => ?_⟩
    · rcases hap6 k e with g | g
      · rcases hap k hk with q | q
        · exact (h.ap1 k q).1 g
        · have := own2 k g; omega
      · omega
    · have := own3 k e
      rcases hap k hk with q | q
      · exact (h.ap1 k q).2 e
      · omega
  · intro k hk e
    have := own3 k e
    rcases hap6 k hk with g | g
    · exact h.ap2 k g e
    · omega
  · intro r hr
    have g5 := h.ap3 r hr
    obtain ⟨i, hi, hri⟩ := List.getElem_of_mem hr
    have hlt : i < s.parts.length := by rw [← h.rlen]; exact hi
    have g := h.row i r s.parts[i] (by rw [List.getElem?_eq_getElem hi, hri]) (List.getElem?_eq_getElem hlt)
    refine ⟨fun e => ?_, fun e => ?_, g5.2.2⟩
    · rcases hap _ e with q | q
      · exact g5.1 q
      · omega
    · rcases hap6 _ e with q | q
      · exact g5.2.1 q
      · omega
end Go.Proofs.Ytfmghkplafploaa

namespace Go.Proofs.Ytfmghkplafploaa
open Go
open Go.Shelf
def lays122_ren : Go.Shelf.Ren := ⟨fun | 122 => 56 | 215 => 80 | n => n, fun | 3 => 3 | 4 => 4 | n => n, fun | n => n⟩
theorem lays122 : Go.Proofs.Lays.n122 Try.prog lays122_ren := {
  mixed := by kernel_rfl
  f122 := Try.func56.trans (congrArg some (by kernel_rfl))
  f215 := Try.func80.trans (congrArg some (by kernel_rfl))
  t3 := Try.underlying3
  a3 := Try.isAgg3
  z3 := Try.sizeOf3
  v3 := Try.zeroValue3
  t4 := Try.underlying4
  a4 := Try.isAgg4
  z4 := Try.sizeOf4
  v4 := Try.zeroValue4 }
def lays189_ren : Go.Shelf.Ren := ⟨fun | 189 => 83 | 125 => 30 | 257 => 89 | 128 => 52 | 129 => 53 | 294 => 91 | 295 => 92 | 296 => 93 | 297 => 94 | 298 => 95 | 299 => 96 | 216 => 57 | 300 => 97 | 301 => 98 | 328 => 99 | 329 => 68 | 330 => 69 | 331 => 100 | 332 => 101 | 215 => 80 | 343 => 102 | n => n, fun | 28 => 43 | 3 => 3 | 46 => 80 | 0 => 0 | 51 => 25 | 53 => 114 | 4 => 4 | 183 => 107 | 182 => 106 | 131 => 67 | 5 => 5 | 9 => 9 | 218 => 129 | 222 => 133 | 228 => 142 | 229 => 143 | n => n, fun | n => n⟩
theorem lays189 : Go.Proofs.Lays.n189 Try.prog lays189_ren := {
  mixed := by kernel_rfl
  f125 := Try.func30.trans (congrArg some (by kernel_rfl))
  f128 := Try.func52.trans (congrArg some (by kernel_rfl))
  f129 := Try.func53.trans (congrArg some (by kernel_rfl))
  f189 := Try.func83.trans (congrArg some (by kernel_rfl))
  f215 := Try.func80.trans (congrArg some (by kernel_rfl))
  f216 := Try.func57.trans (congrArg some (by kernel_rfl))
  f257 := Try.func89.trans (congrArg some (by kernel_rfl))
  f294 := Try.func91.trans (congrArg some (by kernel_rfl))
  f295 := Try.func92.trans (congrArg some (by kernel_rfl))
  f296 := Try.func93.trans (congrArg some (by kernel_rfl))
  f297 := Try.func94.trans (congrArg some (by kernel_rfl))
  f298 := Try.func95.trans (congrArg some (by kernel_rfl))
  f299 := Try.func96.trans (congrArg some (by kernel_rfl))
  f300 := Try.func97.trans (congrArg some (by kernel_rfl))
  f301 := Try.func98.trans (congrArg some (by kernel_rfl))
  f328 := Try.func99.trans (congrArg some (by kernel_rfl))
  f329 := Try.func68.trans (congrArg some (by kernel_rfl))
  f330 := Try.func69.trans (congrArg some (by kernel_rfl))
  f331 := Try.func100.trans (congrArg some (by kernel_rfl))
  f332 := Try.func101.trans (congrArg some (by kernel_rfl))
  f343 := Try.func102.trans (congrArg some (by kernel_rfl))
  t0 := Try.underlying0
  a0 := Try.isAgg0
  z0 := Try.sizeOf0
  v0 := Try.zeroValue0
  t3 := Try.underlying3
  a3 := Try.isAgg3
  z3 := Try.sizeOf3
  v3 := Try.zeroValue3
  t4 := Try.underlying4
  a4 := Try.isAgg4
  z4 := Try.sizeOf4
  v4 := Try.zeroValue4
  t5 := Try.underlying5
  a5 := Try.isAgg5
  z5 := Try.sizeOf5
  v5 := Try.zeroValue5
  t9 := Try.underlying9
  a9 := Try.isAgg9
  z9 := Try.sizeOf9
  v9 := Try.zeroValue9
  t28 := Try.underlying43
  a28 := Try.isAgg43
  z28 := Try.sizeOf43
  v28 := Try.zeroValue43
  t46 := Try.underlying80
  a46 := Try.isAgg80
  z46 := Try.sizeOf80
  v46 := Try.zeroValue80
  t51 := Try.underlying25
  a51 := Try.isAgg25
  z51 := Try.sizeOf25
  v51 := Try.zeroValue25
  t53 := Try.underlying114
  a53 := Try.isAgg114
  z53 := Try.sizeOf114
  v53 := Try.zeroValue114
  t131 := Try.underlying67
  a131 := Try.isAgg67
  z131 := Try.sizeOf67
  v131 := Try.zeroValue67
  t182 := Try.underlying106
  a182 := Try.isAgg106
  z182 := Try.sizeOf106
  v182 := Try.zeroValue106
  t183 := Try.underlying107
  a183 := Try.isAgg107
  z183 := Try.sizeOf107
  v183 := Try.zeroValue107
  t218 := Try.underlying129
  a218 := Try.isAgg129
  z218 := Try.sizeOf129
  v218 := Try.zeroValue129
  t222 := Try.underlying133
  a222 := Try.isAgg133
  z222 := Try.sizeOf133
  v222 := Try.zeroValue133
  t228 := Try.underlying142
  a228 := Try.isAgg142
  z228 := Try.sizeOf142
  v228 := Try.zeroValue142
  t229 := Try.underlying143
  a229 := Try.isAgg143
  z229 := Try.sizeOf143
  v229 := Try.zeroValue143 }
def laysNm215_ren : Go.Shelf.Ren := ⟨fun | 15 => 82 | n => n, fun | 22 => 43 | 3 => 3 | 4 => 4 | n => n, fun | n => n⟩
theorem laysNm215 : Go.Proofs.Lays2.n15 Try.prog laysNm215_ren := {
  mixed := by kernel_rfl
  f15 := Try.func82.trans (congrArg some (by kernel_rfl))
  t3 := Try.underlying3
  a3 := Try.isAgg3
  z3 := Try.sizeOf3
  v3 := Try.zeroValue3
  t4 := Try.underlying4
  a4 := Try.isAgg4
  z4 := Try.sizeOf4
  v4 := Try.zeroValue4
  t22 := Try.underlying43
  a22 := Try.isAgg43
  z22 := Try.sizeOf43
  v22 := Try.zeroValue43
  i3 := by kernel_rfl }
def laysNm225_ren : Go.Shelf.Ren := ⟨fun | 25 => 36 | 31 => 57 | 32 => 58 | 37 => 80 | n => n, fun | 22 => 43 | 3 => 3 | 4 => 4 | 40 => 80 | 0 => 0 | n => n, fun | n => n⟩
theorem laysNm225 : Go.Proofs.Lays2.n25 Try.prog laysNm225_ren := {
  mixed := by kernel_rfl
  f25 := Try.func36.trans (congrArg some (by kernel_rfl))
  f31 := Try.func57.trans (congrArg some (by kernel_rfl))
  f32 := Try.func58.trans (congrArg some (by kernel_rfl))
  f37 := Try.func80.trans (congrArg some (by kernel_rfl))
  t0 := Try.underlying0
  a0 := Try.isAgg0
  z0 := Try.sizeOf0
  v0 := Try.zeroValue0
  t3 := Try.underlying3
  a3 := Try.isAgg3
  z3 := Try.sizeOf3
  v3 := Try.zeroValue3
  t4 := Try.underlying4
  a4 := Try.isAgg4
  z4 := Try.sizeOf4
  v4 := Try.zeroValue4
  t22 := Try.underlying43
  a22 := Try.isAgg43
  z22 := Try.sizeOf43
  v22 := Try.zeroValue43
  t40 := Try.underlying80
  a40 := Try.isAgg80
  z40 := Try.sizeOf80
  v40 := Try.zeroValue80 }
def laysSlF6_f24_ren : Go.Shelf.Ren := ⟨fun | 6 => 33 | 15 => 30 | 14 => 55 | 28 => 52 | 29 => 53 | 20 => 72 | 21 => 73 | 22 => 74 | 23 => 75 | 24 => 76 | 25 => 77 | 26 => 78 | 27 => 79 | 46 => 85 | 47 => 68 | 48 => 69 | 49 => 86 | 50 => 87 | 57 => 90 | n => n, fun | 22 => 38 | 24 => 43 | 25 => 84 | 3 => 3 | 39 => 80 | 0 => 0 | 53 => 25 | 55 => 114 | 4 => 4 | 46 => 107 | 45 => 106 | 50 => 67 | 5 => 5 | 9 => 9 | 66 => 129 | 70 => 133 | 76 => 142 | 77 => 143 | n => n, fun | n => n⟩
theorem laysSlF6_f24 : Go.Proofs.SlLaysF.n6 Try.prog laysSlF6_f24_ren := {
  mixed := by kernel_rfl
  f6 := ⟨Try.f33.name, by decide, Try.func33.trans (congrArg some (by kernel_rfl))⟩
  f14 := ⟨Try.f55.name, by decide, Try.func55.trans (congrArg some (by kernel_rfl))⟩
  f15 := Try.func30.trans (congrArg some (by kernel_rfl))
  f20 := ⟨Try.f72.name, by decide, Try.func72.trans (congrArg some (by kernel_rfl))⟩
  f21 := ⟨Try.f73.name, by decide, Try.func73.trans (congrArg some (by kernel_rfl))⟩
  f22 := ⟨Try.f74.name, by decide, Try.func74.trans (congrArg some (by kernel_rfl))⟩
  f23 := ⟨Try.f75.name, by decide, Try.func75.trans (congrArg some (by kernel_rfl))⟩
  f24 := ⟨Try.f76.name, by decide, Try.func76.trans (congrArg some (by kernel_rfl))⟩
  f25 := ⟨Try.f77.name, by decide, Try.func77.trans (congrArg some (by kernel_rfl))⟩
  f26 := ⟨Try.f78.name, by decide, Try.func78.trans (congrArg some (by kernel_rfl))⟩
  f27 := ⟨Try.f79.name, by decide, Try.func79.trans (congrArg some (by kernel_rfl))⟩
  f28 := Try.func52.trans (congrArg some (by kernel_rfl))
  f29 := Try.func53.trans (congrArg some (by kernel_rfl))
  f46 := ⟨Try.f85.name, by decide, Try.func85.trans (congrArg some (by kernel_rfl))⟩
  f47 := Try.func68.trans (congrArg some (by kernel_rfl))
  f48 := Try.func69.trans (congrArg some (by kernel_rfl))
  f49 := ⟨Try.f86.name, by decide, Try.func86.trans (congrArg some (by kernel_rfl))⟩
  f50 := ⟨Try.f87.name, by decide, Try.func87.trans (congrArg some (by kernel_rfl))⟩
  f57 := ⟨Try.f90.name, by decide, Try.func90.trans (congrArg some (by kernel_rfl))⟩
  t0 := Try.underlying0
  a0 := Try.isAgg0
  z0 := Try.sizeOf0
  v0 := Try.zeroValue0
  t3 := Try.underlying3
  a3 := Try.isAgg3
  z3 := Try.sizeOf3
  v3 := Try.zeroValue3
  t4 := Try.underlying4
  a4 := Try.isAgg4
  z4 := Try.sizeOf4
  v4 := Try.zeroValue4
  t5 := Try.underlying5
  a5 := Try.isAgg5
  z5 := Try.sizeOf5
  v5 := Try.zeroValue5
  t9 := Try.underlying9
  a9 := Try.isAgg9
  z9 := Try.sizeOf9
  v9 := Try.zeroValue9
  t22 := Try.underlying38
  a22 := Try.isAgg38
  z22 := Try.sizeOf38
  v22 := Try.zeroValue38
  a24 := Try.isAgg43
  z24 := Try.sizeOf43
  t25 := Try.underlying84
  a25 := Try.isAgg84
  z25 := Try.sizeOf84
  v25 := Try.zeroValue84
  t39 := Try.underlying80
  a39 := Try.isAgg80
  z39 := Try.sizeOf80
  v39 := Try.zeroValue80
  t45 := Try.underlying106
  a45 := Try.isAgg106
  z45 := Try.sizeOf106
  v45 := Try.zeroValue106
  t46 := Try.underlying107
  a46 := Try.isAgg107
  z46 := Try.sizeOf107
  v46 := Try.zeroValue107
  t50 := Try.underlying67
  a50 := Try.isAgg67
  z50 := Try.sizeOf67
  v50 := Try.zeroValue67
  t53 := Try.underlying25
  a53 := Try.isAgg25
  z53 := Try.sizeOf25
  v53 := Try.zeroValue25
  t55 := Try.underlying114
  a55 := Try.isAgg114
  z55 := Try.sizeOf114
  v55 := Try.zeroValue114
  t66 := Try.underlying129
  a66 := Try.isAgg129
  z66 := Try.sizeOf129
  v66 := Try.zeroValue129
  t70 := Try.underlying133
  a70 := Try.isAgg133
  z70 := Try.sizeOf133
  v70 := Try.zeroValue133
  t76 := Try.underlying142
  a76 := Try.isAgg142
  z76 := Try.sizeOf142
  v76 := Try.zeroValue142
  t77 := Try.underlying143
  a77 := Try.isAgg143
  z77 := Try.sizeOf143
  v77 := Try.zeroValue143 }
def laysSlF06_f24_ren : Go.Shelf.Ren := ⟨fun | 6 => 33 | 15 => 30 | 14 => 55 | 28 => 52 | 29 => 53 | 20 => 72 | 21 => 73 | 22 => 74 | 23 => 75 | 24 => 76 | 25 => 77 | 26 => 78 | 27 => 79 | 46 => 85 | 47 => 68 | 48 => 69 | 49 => 86 | 50 => 87 | 57 => 90 | n => n, fun | 22 => 38 | 24 => 43 | 25 => 84 | 3 => 3 | 39 => 80 | 0 => 0 | 53 => 25 | 55 => 114 | 4 => 4 | 46 => 107 | 45 => 106 | 50 => 67 | 5 => 5 | 9 => 9 | 66 => 129 | 70 => 133 | 76 => 142 | 77 => 143 | n => n, fun | n => n⟩
theorem laysSlF06_f24 : Go.Proofs.SlLaysF0.n6 Try.prog laysSlF06_f24_ren := {
  mixed := by kernel_rfl
  f6 := ⟨Try.f33.name, by decide, Try.func33.trans (congrArg some (by kernel_rfl))⟩
  f14 := ⟨Try.f55.name, by decide, Try.func55.trans (congrArg some (by kernel_rfl))⟩
  f15 := Try.func30.trans (congrArg some (by kernel_rfl))
  f20 := ⟨Try.f72.name, by decide, Try.func72.trans (congrArg some (by kernel_rfl))⟩
  f21 := ⟨Try.f73.name, by decide, Try.func73.trans (congrArg some (by kernel_rfl))⟩
  f22 := ⟨Try.f74.name, by decide, Try.func74.trans (congrArg some (by kernel_rfl))⟩
  f23 := ⟨Try.f75.name, by decide, Try.func75.trans (congrArg some (by kernel_rfl))⟩
  f24 := ⟨Try.f76.name, by decide, Try.func76.trans (congrArg some (by kernel_rfl))⟩
  f25 := ⟨Try.f77.name, by decide, Try.func77.trans (congrArg some (by kernel_rfl))⟩
  f26 := ⟨Try.f78.name, by decide, Try.func78.trans (congrArg some (by kernel_rfl))⟩
  f27 := ⟨Try.f79.name, by decide, Try.func79.trans (congrArg some (by kernel_rfl))⟩
  f28 := Try.func52.trans (congrArg some (by kernel_rfl))
  f29 := Try.func53.trans (congrArg some (by kernel_rfl))
  f46 := ⟨Try.f85.name, by decide, Try.func85.trans (congrArg some (by kernel_rfl))⟩
  f47 := Try.func68.trans (congrArg some (by kernel_rfl))
  f48 := Try.func69.trans (congrArg some (by kernel_rfl))
  f49 := ⟨Try.f86.name, by decide, Try.func86.trans (congrArg some (by kernel_rfl))⟩
  f50 := ⟨Try.f87.name, by decide, Try.func87.trans (congrArg some (by kernel_rfl))⟩
  f57 := ⟨Try.f90.name, by decide, Try.func90.trans (congrArg some (by kernel_rfl))⟩
  t0 := Try.underlying0
  a0 := Try.isAgg0
  z0 := Try.sizeOf0
  v0 := Try.zeroValue0
  t3 := Try.underlying3
  a3 := Try.isAgg3
  z3 := Try.sizeOf3
  v3 := Try.zeroValue3
  t4 := Try.underlying4
  a4 := Try.isAgg4
  z4 := Try.sizeOf4
  v4 := Try.zeroValue4
  t5 := Try.underlying5
  a5 := Try.isAgg5
  z5 := Try.sizeOf5
  v5 := Try.zeroValue5
  t9 := Try.underlying9
  a9 := Try.isAgg9
  z9 := Try.sizeOf9
  v9 := Try.zeroValue9
  t22 := Try.underlying38
  a22 := Try.isAgg38
  z22 := Try.sizeOf38
  v22 := Try.zeroValue38
  t25 := Try.underlying84
  a25 := Try.isAgg84
  z25 := Try.sizeOf84
  v25 := Try.zeroValue84
  t39 := Try.underlying80
  a39 := Try.isAgg80
  z39 := Try.sizeOf80
  v39 := Try.zeroValue80
  t45 := Try.underlying106
  a45 := Try.isAgg106
  z45 := Try.sizeOf106
  v45 := Try.zeroValue106
  t46 := Try.underlying107
  a46 := Try.isAgg107
  z46 := Try.sizeOf107
  v46 := Try.zeroValue107
  t50 := Try.underlying67
  a50 := Try.isAgg67
  z50 := Try.sizeOf67
  v50 := Try.zeroValue67
  t53 := Try.underlying25
  a53 := Try.isAgg25
  z53 := Try.sizeOf25
  v53 := Try.zeroValue25
  t55 := Try.underlying114
  a55 := Try.isAgg114
  z55 := Try.sizeOf114
  v55 := Try.zeroValue114
  t66 := Try.underlying129
  a66 := Try.isAgg129
  z66 := Try.sizeOf129
  v66 := Try.zeroValue129
  t70 := Try.underlying133
  a70 := Try.isAgg133
  z70 := Try.sizeOf133
  v70 := Try.zeroValue133
  t76 := Try.underlying142
  a76 := Try.isAgg142
  z76 := Try.sizeOf142
  v76 := Try.zeroValue142
  t77 := Try.underlying143
  a77 := Try.isAgg143
  z77 := Try.sizeOf143
  v77 := Try.zeroValue143 }
def laysNm221_ren : Go.Shelf.Ren := ⟨fun | 21 => 37 | 27 => 59 | 28 => 60 | 35 => 81 | 39 => 88 | n => n, fun | 22 => 43 | 3 => 3 | 4 => 4 | 0 => 0 | n => n, fun | n => n⟩
theorem laysNm221 : Go.Proofs.Lays2.n21 Try.prog laysNm221_ren := {
  mixed := by kernel_rfl
  f21 := Try.func37.trans (congrArg some (by kernel_rfl))
  f27 := Try.func59.trans (congrArg some (by kernel_rfl))
  f28 := Try.func60.trans (congrArg some (by kernel_rfl))
  f35 := Try.func81.trans (congrArg some (by kernel_rfl))
  f39 := Try.func88.trans (congrArg some (by kernel_rfl))
  t0 := Try.underlying0
  a0 := Try.isAgg0
  z0 := Try.sizeOf0
  v0 := Try.zeroValue0
  t3 := Try.underlying3
  a3 := Try.isAgg3
  z3 := Try.sizeOf3
  v3 := Try.zeroValue3
  t4 := Try.underlying4
  a4 := Try.isAgg4
  z4 := Try.sizeOf4
  v4 := Try.zeroValue4
  t22 := Try.underlying43
  a22 := Try.isAgg43
  z22 := Try.sizeOf43
  v22 := Try.zeroValue43
  i3 := by kernel_rfl }
open Go.RowKit in
theorem cmp_Compare_int (x y : Int) (w : World) :
    Calls Try.prog 56 #[.int .i64 x, .int .i64 y] w fun e w' => e = .returned (.int .i64 (Lib.compareInt x y)) ∧ w' = w := Any.cmp_Compare_int lays122 x y w
open Go.Sort Go.RowKit in
theorem slices_Sort_int (blk off cap : Nat) (zs : List Int) (w : World) (hH : Holds (Value.int .i64) w blk off zs.toArray) (hblk : blk < w.heap.size) (hsz : zs.length < 4611686018427387904) :
    Calls Try.prog 83 #[.slice (some ⟨blk, off, none⟩) zs.length cap] w fun e w' =>
      e = .returned (.tuple #[]) ∧ ∃ n os, w' = grow (putRow (Value.int .i64) (Sort.ahead w n) blk off (zs.mergeSort fun x y => decide (x ≤ y)).toArray) os := Any.slices_Sort_int lays189 blk off cap zs w hH hblk hsz
open Go.RowKit Go.Lib in
theorem slices_Clone_int (b off n c : Nat) (zs : List Int) (w : World) (hz : n ≤ zs.length) (hbig : n * 8 ≤ 140737488355328) (hc : ∀ j, j < zs.length → w.cell? ⟨b, off + j, none⟩ = some (.int .i64 (zs.getD j 0))) :
    Calls Try.prog 82 #[.slice (some ⟨b, off, none⟩) n c] w fun e w' => ∃ v', e = .returned v' ∧ w'.ownsRow w.heap.size 3 1 v' n ((zs.take n).map (Value.int .i64)) ∧ v' ≠ .slice none 0 0 ∧ Below w.heap.size w w' := Any.slices_Clone_int laysNm215 b off n c zs w hz hbig hc
open Go.RowKit Go.Lib in
theorem slices_BinarySearch_int (b off n c : Nat) (zs : List Int) (x : Int) (w : World) (hz : n ≤ zs.length) (hbig : n < 4611686018427387904) (hc : ∀ j, j < zs.length → w.cell? ⟨b, off + j, none⟩ = some (.int .i64 (zs.getD j 0))) (hs : (zs.take n).Pairwise (· ≤ ·)) :
    Calls Try.prog 36 #[.slice (some ⟨b, off, none⟩) n c, .int .i64 x] w fun e w' => e = .returned (.tuple #[.int .i64 ((zs.take n).countP (· < x) : Nat), .bool ((zs.take n).contains x)]) ∧ ∃ q, w' = w.drewN q := Any.slices_BinarySearch_int laysNm225 b off n c zs x w hz hbig hc hs
open Go.RowKit Go.Lib in
theorem slices_BinarySearch_int_empty (a : Option Addr) (c : Nat) (x : Int) (w : World) :
    Calls Try.prog 36 #[.slice a 0 c, .int .i64 x] w fun e w' => e = .returned (.tuple #[.int .i64 0, .bool false]) ∧ w' = w := Any.slices_BinarySearch_int_empty laysNm225 a c x w
open Go.RowKit Go.Lib Go.Sort in
theorem slices_SortFunc_none {α : Type} [Inhabited α] (p : Option Addr) (cap : Nat) (fv : Value) (w : World) :
    Calls Try.prog 33 #[.slice p 0 cap, fv] w fun e w' => e = .returned (.tuple #[]) ∧ w' = w := AnyF.slices_SortFunc_none laysSlF06_f24 p cap fv w
open Go.RowKit Go.Lib Go.Sort in
theorem slices_SortFunc_total {α : Type} [Inhabited α] (enc : α → Value) (h1 : OneCell enc) (cf : α → α → Int) (hO : SWO (ltOf cf)) (g : Nat) (cb : Array Value) (blk off cap : Nat) (d : Array α) (w : World) (eg : ∀ args w, (callFunc g args).run Try.prog w = .ok (.enter g args) w) (hcmp : CmpLays1 Try.prog g cb enc cf blk off d.size w) (hH : Holds enc w blk off d) (hblk : blk < w.heap.size) (hsz : d.size < 4611686018427387904) (hT : ∀ x y, (ltOf cf) x y = false → (ltOf cf) y x = false → x = y) :
    Calls Try.prog 33 #[.slice (some ⟨blk, off, none⟩) d.size cap, .func (.func g) #[] cb] w fun e w' =>
      e = .returned (.tuple #[]) ∧ ∃ n os, w' = sortWorld enc w blk off n (d.toList.mergeSort fun x y => !(ltOf cf) y x).toArray os := Any.slices_SortFunc_total laysSlF6_f24 enc h1 cf hO g cb blk off cap d w eg hcmp hH hblk hsz hT
end Go.Proofs.Ytfmghkplafploaa

set_option linter.unusedVariables false
set_option linter.unusedSimpArgs false
namespace Go.Proofs.Ytfmghkplafploaa
open Go Go.RowKit Go.Sort

theorem getD_map (l : List Nat) {j : Nat} (hj : j < (l.map Int.ofNat).length) : ∃ x, l[j]? = some x ∧ (l.map Int.ofNat).getD j 0 = (x : Int) := by
  rw [List.length_map] at hj
  refine ⟨l[j], List.getElem?_eq_getElem hj, ?_⟩
  simp [List.getD, hj]
theorem map_int (l : List Nat) : (l.map Int.ofNat).map (Value.int .i64) = l.map ni := by rw [List.map_map]; rfl
/-- 'slices.Clone(l)', l not empty. -/
theorem clone_any (b o n c : Nat) (l : List Nat) (w : World) (hl : l.length = n) (hn : 0 < n) (hb : n ≤ 1000000000000) (hc : ∀ j v, l[j]? = some v → w.cell? ⟨b, o + j, none⟩ = some (ni v)) :
    Calls Try.prog 82 #[.slice (some ⟨b, o, none⟩) n c] w fun e w' => ∃ A' c', e = .returned (.slice A' n c') ∧ OwI w' w.heap.size A' c' n l ∧ Below w.heap.size w w' := by
  refine (slices_Clone_int b o n c (l.map Int.ofNat) w (by simp [hl]) (by omega) (fun j hj => ?_)).mono ?_
  · obtain ⟨x, h1, h2⟩ := getD_map l hj
    rw [h2]
    exact hc j x h1
  · rintro e w' ⟨v', rfl, ho, hne, hb⟩
    have e1 : ((l.map Int.ofNat).take n).map (Value.int .i64) = l.map ni := by
      rw [List.take_of_length_le (by simp [hl]), map_int]
    rw [e1] at ho
    obtain ⟨A', c', rfl, _⟩ := ownForm ho
    exact ⟨A', c', rfl, ho, hb⟩
theorem sort_nat (l : List Nat) : (l.map Int.ofNat).mergeSort (fun x y => decide (x ≤ y)) = (l.mergeSort (fun x y => decide (x ≤ y))).map Int.ofNat := by
  rw [List.map_mergeSort]
  intro a _ b _
  by_cases h : a ≤ b
  · have : Int.ofNat a ≤ Int.ofNat b := Int.ofNat_le.2 h
    simp [h]
  · have : ¬ Int.ofNat a ≤ Int.ofNat b := fun k => h (Int.ofNat_le.1 k)
    simp [h]
/-- 'slices.Sort(l)', l the call's own and not empty. -/
theorem sort_any (A : Option Addr) (c n : Nat) (l : List Nat) (w : World) (base : Nat) (h : OwI w base A c n l) (hn : 0 < n) (hb : n ≤ 1000000000000) :
    Calls Try.prog 83 #[.slice A n c] w fun e w' => e = .returned (.tuple #[]) ∧ OwI w' base A c n (l.mergeSort (fun x y => decide (x ≤ y))) ∧ Turn (fun k => blockOf A = some k) w w' := by
  obtain ⟨g, cap, hv, _, hlt⟩ := World.ownsRow.form h hn
  simp only [Value.slice.injEq, true_and] at hv
  obtain ⟨rfl, rfl⟩ := hv
  have hlen := h.len
  subst hlen
  rcases h.2 with ⟨h1, _⟩ | ⟨g', cap', cur, h1, h2, h3, h4, h5, h6, h7⟩
  · cases h1
  cases h1
  have hl : (l.map Int.ofNat).length = l.length := by simp
  have hH : Holds (Value.int .i64) w g 0 (l.map Int.ofNat).toArray := holds_of_blockI h3 (by rw [hl, map_int, ← h7, Nat.mul_one])
  have hs := slices_Sort_int g 0 c (l.map Int.ofNat) w hH hlt (by rw [hl]; omega)
  rw [hl] at hs
  refine hs.mono ?_
  rintro e w' ⟨rfl, m, os, rfl⟩
  refine ⟨rfl, ?_, ?_⟩
  · have e1 := ownsRow_sortedI (w := w) (base := base) (g := g) (cap := c) (n := m) (e := 3) (os := os) (cur := cur) (ss := l.map Int.ofNat) (ts := (l.map Int.ofNat).mergeSort (fun x y => decide (x ≤ y))) (by rw [List.length_mergeSort]) h2 h3 (by rw [hl]; omega) h5 h6
    unfold OwI
    rw [hl] at e1
    rw [sort_nat, map_int] at e1
    rw [sort_nat]
    exact e1
  · exact Turn.ofGrown (grownBy_sortedI _) fun k hk => by rw [← hk]; rfl
end Go.Proofs.Ytfmghkplafploaa

