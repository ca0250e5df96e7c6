/- OctetRows: vars and byte strings, one behind the other, are taken in their order; cut anywhere just those that stand whole are. No condition. -/
import Derived.Test.YtdoonjldnehbdaaOctX
import Derived.Test.YtdoonjldnehbdaaOctRm
import Derived.Test.YtdoonjldnehbdaaOctRq
import Derived.Deep.RegionWith
import Derived.BigQuiet
import Derived.Deep.QuietTactic
set_option linter.unusedVariables false
set_option linter.unusedSimpArgs false
namespace Go.Proofs.Ytdoonjldnehbdaa.octetRows
open Go Go.RowKit Go.ChangeShapes Go.WideShapes Go.ChangeAt

/-- What is read of the rows: each row's slice, and what it holds. -/
structure Rws (w : World) (B : Nat) (A : Option Addr) (n : Nat) (R : Nat → Option Addr × Nat × Nat) (sl : List (List UInt8)) : Prop where
  len : sl.length = n
  top : Rd w B 1 A n ((List.range n).map fun i => .slice (R i).1 (R i).2.1 (R i).2.2)
  row : ∀ i, i < n → Rd w B 1 (R i).1 (R i).2.1 ((sl.getD i []).map bv)
theorem Rws.below {w w' : World} {B n : Nat} {A : Option Addr} {R : Nat → Option Addr × Nat × Nat} {sl : List (List UInt8)} (h : Rws w B A n R sl) (hb : Below B w w') : Rws w' B A n R sl :=
  ⟨h.len, h.top.below hb, fun i hi => (h.row i hi).below hb⟩
theorem Rws.at_ {w : World} {B n : Nat} {A : Option Addr} {R : Nat → Option Addr × Nat × Nat} {sl : List (List UInt8)} (h : Rws w B A n R sl) {i : Nat} (hi : i < n) :
    ∃ b o, A = some ⟨b, o, none⟩ ∧ b < B ∧ w.cell? ⟨b, o + i, none⟩ = some (.slice (R i).1 (R i).2.1 (R i).2.2) := by
  obtain ⟨b, o, u, rfl, hb, hu, hc⟩ := h.top.at1 hi
  rw [List.getElem?_map, List.getElem?_range hi] at hu
  simp only [Option.map_some, Option.some.injEq] at hu
  exact ⟨b, o, rfl, hb, by rw [hc, ← hu]⟩
def nv (n : Nat) : Value := .int .u64 (n : Int)
theorem nums_at {w : World} {B n : Nat} {A : Option Addr} {nl : List Nat} (h : Rd w B 1 A n (nl.map nv)) {i : Nat} (hi : i < n) :
    ∃ b o, A = some ⟨b, o, none⟩ ∧ b < B ∧ w.cell? ⟨b, o + i, none⟩ = some (.int .u64 ((nl.getD i 0 : Nat) : Int)) := by
  have hl : nl.length = n := by simpa using h.len1
  obtain ⟨b, o, u, rfl, hb, hu, hc⟩ := h.at1 hi
  rw [List.getElem?_map, List.getElem?_eq_getElem (by omega)] at hu
  simp only [Option.map_some, Option.some.injEq] at hu
  refine ⟨b, o, rfl, hb, ?_⟩
  rw [hc, ← hu, List.getD_eq_getElem?_getD, List.getElem?_eq_getElem (by omega)]
  rfl
def iv (e : Nat) : Value := .int .i64 (e : Int)
theorem ints_at {w : World} {B n : Nat} {A : Option Addr} {el : List Nat} (h : Rd w B 1 A n (el.map iv)) {i e : Nat} (he : el[i]? = some e) :
    ∃ b o, A = some ⟨b, o, none⟩ ∧ b < B ∧ w.cell? ⟨b, o + i, none⟩ = some (.int .i64 (e : Int)) := by
  have hl : el.length = n := by simpa using h.len1
  have hi : i < n := by
    rw [← hl]
    exact (List.getElem?_eq_some_iff.1 he).1
  obtain ⟨b, o, u, rfl, hb, hu, hc⟩ := h.at1 hi
  rw [List.getElem?_map, he] at hu
  simp only [Option.map_some, Option.some.injEq] at hu
  exact ⟨b, o, rfl, hb, by rw [hc, ← hu]; rfl⟩
theorem iv_one (l : List Nat) : ∀ v ∈ l.map iv, v.oneCell' = true := by
  intro v hv
  obtain ⟨e, _, rfl⟩ := List.mem_map.1 hv
  rfl
theorem rdOneI (w : World) (e : Nat) : Rd (w.alloc (.cells #[.int .i64 (e : Int)] 3)) (w.heap.size + 1) 1 (some ⟨w.heap.size, 0, none⟩) 1 ([e].map iv) := rdLit w _ [iv e]
theorem i64info : (Try.prog.info? 3).map (fun i => (i.zero, i.size, i.bytes)) = some (some (.int .i64 0), 1, 8) := by kernel_rfl
/-- 'out = append(out, x...)' over ints, in this program. -/
theorem appI {ops : Array Oper} {rest : List Oper} {o : Oper} {a : Act} {Q : Exit → Act → World → Prop} (w : World) (hgd : o.guard = none) (p x : Operand)
    (ho : o.op = .call { callee := .builtin .append, args := #[p, x], argTypes := #[45, 45] })
    (base : Nat) (A0 : Option Addr) (c0 n : Nat) (bs : List Nat) (hv : a.eval p = .slice A0 n c0) (hown : w.ownsRow base 3 1 (.slice A0 n c0) n (bs.map iv))
    (B : Nat) (A : Option Addr) (m c : Nat) (news : List Nat) (hx : a.eval x = .slice A m c) (hr : Rd w B 1 A m (news.map iv)) (hb : n + m ≤ 1000000) (hbase : base ≤ w.heap.size)
    (h : ∀ A' c' w', w'.ownsRow base 3 1 (.slice A' (n + m) c') (n + m) ((bs ++ news).map iv) → Below base w w' → w.grownBy w' (Value.slice A0 n c0).ownBlock → ((Value.slice A' (n + m) c').ownBlock = (Value.slice A0 n c0).ownBlock ∨ (Value.slice A' (n + m) c').ownBlock = some w.heap.size) → wpList Try.prog ops Q rest (a.put o.dst (.slice A' (n + m) c')) w') : wpList Try.prog ops Q (o :: rest) a w := by
  obtain ⟨i0, hi, hz0, hz1, hz2⟩ := info_parts i64info
  refine wpList_app w hgd p x 45 ho base 3 i0 _ 1 8 Try.underlying45 hi hz0 hz1 hz2 rfl (by decide) _ n _ hv hown B A m c _ hx hr (iv_one news) (by simp only [maxLen]; omega) (by omega) hbase ?_
  intro A' c' w' h1 h2 h3
  exact h A' c' w' (by rw [List.map_append]; exact h1) (belowApp (Below.refl _ _) hown h2 hbase) h2 h3

/-- Behind an append to the ends: the bytes are as they were, in another block. -/
theorem after_app {w3 w4 w5 : World} {base c m n3 : Nat} {A : Option Addr} {bs : List UInt8} {ve ve' : Value} {xs : List Value} {o : Obj} (ho : Ow w4 w3.heap.size A c m bs) (he : w3.ownsRow base 3 1 ve n3 xs)
    (hg : (w4.alloc o).grownBy w5 ve.ownBlock) (hk0 : ve'.ownBlock = ve.ownBlock ∨ ve'.ownBlock = some (w4.alloc o).heap.size) (hbs : base ≤ w3.heap.size) :
    Ow w5 base A c m bs ∧ ∀ k, (Value.slice A m c).ownBlock = some k → ve'.ownBlock ≠ some k := by
  have hk : ve'.ownBlock = ve.ownBlock ∨ ve'.ownBlock = some (w4.heap.size + 1) := by
    have e : (w4.alloc o).heap.size = w4.heap.size + 1 := by simp
    rwa [e] at hk0
  have hlt : ∀ k, (Value.slice A m c).ownBlock = some k → w3.heap.size ≤ k ∧ k < w4.heap.size := fun k hk => World.ownsRow.lt ho k hk
  have hlt3 : ∀ k, ve.ownBlock = some k → k < w3.heap.size := fun k hk => (World.ownsRow.lt he k hk).2
  refine ⟨Ow.base (World.ownsRow.kept (Ow.alloc ho o) hg ?_) hbs, ?_⟩
  · rcases hb : (Value.slice A m c).ownBlock with _ | k
    · exact .inl rfl
    · refine .inr (fun e => ?_)
      have h1 := (hlt k hb).1
      have h2 := hlt3 k e.symm
      omega
  · intro k hb e
    have h1 := hlt k hb
    rcases hk with hk | hk
    · have h2 := hlt3 k (by rw [← hk]; exact e)
      omega
    · rw [hk] at e
      simp only [Option.some.injEq] at e
      omega

set_option maxRecDepth 100000 in
set_option maxHeartbeats 2000000 in
theorem walkVast (A0 A1 : Option Addr) (n0 c0 n1 c1 : Nat) (N : Nat) (w : World) (hv : 40 < n0 ∨ 40 < n1) :
    Calls Try.prog 7 #[.slice A0 n0 c0, .slice A1 n1 c1, .int .u16 (N : Int)] w fun e w' => e = .returned (.bool true) ∧ Below w.heap.size w w' := by
  by_cases hv0 : 40 < n0
  · have hd0 : decide ((40 : Int) < (n0 : Int)) = true := by simp; omega
    go_enter Try.func7, Try.ntmps7
    go_wp2_with (go_at_call 9; refine (works_any _).mono ?_; rintro e w2 ⟨rfl, hb2⟩)
    go_ret
    exact ⟨rfl, hb2⟩
  · have hv1 : 40 < n1 := by omega
    have hd0 : decide ((40 : Int) < (n0 : Int)) = false := by simp; omega
    have hd1 : decide ((40 : Int) < (n1 : Int)) = true := by simp; omega
    go_enter Try.func7, Try.ntmps7
    go_wp2_with (go_at_call 9; refine (works_any _).mono ?_; rintro e w2 ⟨rfl, hb2⟩)
    go_ret
    exact ⟨rfl, hb2⟩

end Go.Proofs.Ytdoonjldnehbdaa.octetRows
