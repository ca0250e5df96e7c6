/- Layer 11 (safe): rows of clauses of the call's own; parts of a program in memory. -/
import Derived.Test.YtggnhgfickkgdaaSbA
import Derived.Test.YtggnhgfickkgdaaSbN
import Derived.Test.YtggnhgfickkgdaaSaI
set_option linter.unusedVariables false
set_option linter.unusedSimpArgs false
namespace Go.Proofs.Ytggnhgfickkgdaa
open Go Go.RowKit

abbrev ZC := Cl × ClA
theorem clC_len (Z : List ZC) : (Z.flatMap clC).length = Z.length * 3 := by
  induction Z with
  | nil => rfl
  | cons x X ih => rw [List.flatMap_cons, List.length_append, ih, List.length_cons]; simp [clC]; omega
theorem clC_one (Z : List ZC) : ∀ u ∈ Z.flatMap clC, u.oneCell' = true := by
  intro u hu
  obtain ⟨x, _, hx⟩ := List.mem_flatMap.1 hu
  simp only [clC, List.mem_cons, List.not_mem_nil, or_false] at hx
  rcases hx with rfl | rfl | rfl <;> rfl
/-- What stands in clauses is read. -/
def RowZ (w : World) (B : Nat) (Z : List ZC) : Prop := ∀ z ∈ Z, RdT w B z.2.1.1 z.2.1.2.1 z.1.1.2 ∧ RdL w B z.2.2.1.1 z.2.2.1.2.1 z.2.2.2 z.1.2
section
variable {w w' : World} {B B' n : Nat} {A : Option Addr} {Q : List ClA} {C : List Cl} {Z Y : List ZC}
theorem RowZ.below (h : RowZ w B Z) (hb : Below B w w') : RowZ w' B Z := fun z hz => ⟨(h z hz).1.below hb, (h z hz).2.below hb⟩
theorem RowZ.more (h : RowZ w B Z) (hB : B ≤ B') : RowZ w B' Z := fun z hz => ⟨(h z hz).1.more hB, (h z hz).2.more hB⟩
theorem RowZ.append (h : RowZ w B Z) (k : RowZ w B Y) : RowZ w B (Z ++ Y) := fun z hz => (List.mem_append.1 hz).elim (h z) (k z)
theorem RowZ.sub (h : RowZ w B Z) (hs : ∀ y ∈ Y, y ∈ Z) : RowZ w B Y := fun y hy => h y (hs y hy)
theorem RowZ.nil : RowZ w B [] := fun z hz => by cases hz
theorem RdCs.rowZ (h : RdCs w B A n Q C) : RowZ w B (C.zip Q) := fun z hz => by
  obtain ⟨i, hi⟩ := List.mem_iff_getElem?.1 hz
  obtain ⟨x, q⟩ := z
  rw [List.getElem?_zip_eq_some] at hi
  exact h.row i q x hi.2 hi.1
theorem rdCs_of (hr : Rd w B 3 A n (Z.flatMap clC)) (hz : RowZ w B Z) : RdCs w B A n (Z.map (·.2)) (Z.map (·.1)) := by
  have hl : Z.length = n := by have := hr.1; rw [clC_len] at this; omega
  refine ⟨by rw [List.length_map]; exact hl, by rw [List.length_map]; exact hl, ?_, fun i q x h1 h2 => ?_⟩
  · have : (Z.map (·.1)).zip (Z.map (·.2)) = Z := by
      clear hr hz hl
      induction Z with
      | nil => rfl
      | cons z Z ih => simp [ih]
    rw [this]
    exact hr
  · rw [List.getElem?_map] at h1 h2
    cases hz' : Z[i]? with
    | none => rw [hz'] at h1; cases h1
    | some z =>
      rw [hz'] at h1 h2
      simp only [Option.map_some, Option.some.injEq] at h1 h2
      subst h1 h2
      exact hz z (List.mem_of_getElem? hz')
theorem zip_fst (h : RdCs w B A n Q C) : (C.zip Q).map (·.1) = C := List.map_fst_zip (by rw [h.lenC, h.lenQ]; exact Nat.le_refl _)
theorem zip_len (h : RdCs w B A n Q C) : (C.zip Q).length = n := by rw [List.length_zip, h.lenC, h.lenQ, Nat.min_self]
theorem rdZ_take {k : Nat} (h : Rd w B 3 A n (Z.flatMap clC)) (hk : k ≤ n) : Rd w B 3 A k ((Z.take k).flatMap clC) := by
  have hl : Z.length = n := by have := h.1; rw [clC_len] at this; omega
  refine ⟨by rw [clC_len, List.length_take]; omega, fun hp => ?_⟩
  obtain ⟨b, o, e, hb, hc⟩ := h.2 (by omega)
  refine ⟨b, o, e, hb, fun j u hu => hc j u ?_⟩
  have hpre : Z.flatMap clC = (Z.take k).flatMap clC ++ (Z.drop k).flatMap clC := by
    rw [← List.flatMap_append, List.take_append_drop]
  rw [hpre, List.getElem?_append_left (List.getElem?_eq_some_iff.1 hu).1]
  exact hu
theorem rdZ_drop {k c : Nat} (h : Rd w B 3 A n (Z.flatMap clC)) (hk : k ≤ n) (hc : n ≤ c) : Rd w B 3 (if c = k then A else A.map (fun x => x.add (k * 3))) (n - k) ((Z.drop k).flatMap clC) := by
  have hl : Z.length = n := by have := h.1; rw [clC_len] at this; omega
  refine ⟨by rw [clC_len, List.length_drop]; omega, fun hp => ?_⟩
  obtain ⟨b, o, e, hb, hcl⟩ := h.2 (by omega)
  refine ⟨b, o + k * 3, ?_, hb, fun j u hu => ?_⟩
  · rw [if_neg (by omega), e]
    simp only [Option.map_some, addPlain]
  · have hpre : Z.flatMap clC = (Z.take k).flatMap clC ++ (Z.drop k).flatMap clC := by
      rw [← List.flatMap_append, List.take_append_drop]
    have := hcl (k * 3 + j) u (by
      rw [hpre, List.getElem?_append_right (by rw [clC_len, List.length_take]; omega), clC_len, List.length_take, Nat.min_eq_left (by omega), show k * 3 + j - k * 3 = j by omega]
      exact hu)
    rwa [show o + k * 3 + j = o + (k * 3 + j) by omega]
end
/-! ### Rows of clauses of the call's own -/
def OwC (w : World) (base : Nat) (A : Option Addr) (c n : Nat) (Z : List ZC) : Prop := w.ownsRow base 36 3 (.slice A n c) n (Z.flatMap clC)
section
variable {w w' : World} {base c n : Nat} {A : Option Addr} {Z : List ZC}
theorem OwC.len (h : OwC w base A c n Z) : Z.length = n := by
  have := h.1
  rw [clC_len] at this
  omega
theorem OwC.rd (h : OwC w base A c n Z) : Rd w w.heap.size 3 A n (Z.flatMap clC) := Rd.ofOwn h
theorem OwC.le (h : OwC w base A c n Z) : n ≤ c := by
  obtain ⟨A', c', e, hle⟩ := ownForm h
  simp only [Value.slice.injEq] at e
  omega
theorem OwC.later (h : OwC w base A c n Z) (hb : Below w.heap.size w w') : OwC w' base A c n Z := ownBelow h hb (Nat.le_refl _)
theorem OwC.low (h : OwC w base A c n Z) {k : Nat} (hk : A.map (·.block) = some k) : base ≤ k ∧ k < w.heap.size := World.ownsRow.lt h k (by rw [ownBlk_slice]; exact hk)
theorem OwC.empty (w : World) (base : Nat) (hb : base ≤ w.heap.size) : OwC (w.alloc (.cells #[] 36)) base (some ⟨w.heap.size, 0, none⟩) 0 0 [] :=
  World.ownsRow_lit (base := base) w #[] 0 hb (by simp [maxLen]) (by simp)
end
theorem clInfo : (Try.prog.info? 36).map (fun i => (i.zero, i.size, i.bytes)) = some (some (.agg #[.int .u32 0, .slice none 0 0, .slice none 0 0]), 3, 56) := by kernel_rfl
theorem litC (w : World) (p : UInt32) (A0 : Option Addr) (n0 c0 : Nat) (A1 : Option Addr) (n1 c1 : Nat) (l : List Tm) (L : List Li) (R : List SlA) :
    Rd (w.alloc (.cells #[nv p, .slice A0 n0 c0, .slice A1 n1 c1] 36)) (w.heap.size + 1) 3 (some ⟨w.heap.size, 0, none⟩) 1 ([((((p, l), L) : Cl), (((A0, n0, c0), (A1, n1, c1), R) : ClA))].flatMap clC) :=
  ⟨rfl, fun _ => ⟨_, _, rfl, by omega, fun j u hu => by
    rw [Nat.zero_add, cell_of_row _ _ j #[nv p, .slice A0 n0 c0, .slice A1 n1 c1] 36 (0, 0) (heap_alloc_new w _)]
    simpa [clC, SlA.val] using hu⟩⟩
theorem appC_wp {o : Oper} {a : Act} {K : Act → World → Prop} {Q : Exit → Act → World → Prop} (w : World) (p x : Operand)
    (ho : o.op = .call { callee := .builtin .append, args := #[p, x], argTypes := #[22, 22] })
    (base : Nat) (A0 : Option Addr) (c0 n : Nat) (Z : List ZC) (hv : a.eval p = .slice A0 n c0) (hown : OwC w base A0 c0 n Z)
    (B : Nat) (A : Option Addr) (m c : Nat) (Y : List ZC) (hx : a.eval x = .slice A m c) (hr : Rd w B 3 A m (Y.flatMap clC)) (hb : n + m ≤ 1000000000000) (hbase : base ≤ w.heap.size)
    (h : ∀ A' c' w', OwC w' base A' c' (n + m) (Z ++ Y) → Turn (fun k => A0.map (·.block) = some k) w w' → (A'.map (·.block) = A0.map (·.block) ∨ A'.map (·.block) = some w.heap.size) → K (a.put o.dst (.slice A' (n + m) c')) w') : Oper.wp Try.prog o a w K Q := by
  obtain ⟨i0, hi, hz0, hz1, hz2⟩ := info_parts clInfo
  refine wp_app w p x 22 ho base 36 i0 _ 3 56 Try.underlying22 hi hz0 hz1 hz2 rfl (by decide) _ n _ hv hown B A m c _ hx hr (clC_one Y) (by simp only [maxLen]; omega) (by omega) hbase ?_
  intro A' c' w' h4 h2 h3
  rw [ownBlk_slice, ownBlk_slice] at h3
  exact h A' c' w' (by unfold OwC; rw [List.flatMap_append]; exact h4) (Turn.ofGrown h2 fun k hk => by rw [ownBlk_slice] at hk; exact hk) h3
theorem appC {ops : Array Oper} {rest : List Oper} {o : Oper} {a : Act} {Q : Exit → Act → World → Prop} (w : World) (hgd : o.guard = none) (p x : Operand)
    (ho : o.op = .call { callee := .builtin .append, args := #[p, x], argTypes := #[22, 22] })
    (base : Nat) (A0 : Option Addr) (c0 n : Nat) (Z : List ZC) (hv : a.eval p = .slice A0 n c0) (hown : OwC w base A0 c0 n Z)
    (B : Nat) (A : Option Addr) (m c : Nat) (Y : List ZC) (hx : a.eval x = .slice A m c) (hr : Rd w B 3 A m (Y.flatMap clC)) (hb : n + m ≤ 1000000000000) (hbase : base ≤ w.heap.size)
    (h : ∀ A' c' w', OwC w' base A' c' (n + m) (Z ++ Y) → Turn (fun k => A0.map (·.block) = some k) w w' → (A'.map (·.block) = A0.map (·.block) ∨ A'.map (·.block) = some w.heap.size) → wpList Try.prog ops Q rest (a.put o.dst (.slice A' (n + m) c')) w') : wpList Try.prog ops Q (o :: rest) a w :=
  wpList_plain hgd fun _ hK => appC_wp w p x ho base A0 c0 n Z hv hown B A m c Y hx hr hb hbase fun A' c' w' h2 h3 h4 => hK _ _ (h A' c' w' h2 h3 h4)
theorem anyd_appC {ops : Array Oper} {E : Prop} {o : Oper} {a : Act} {K : Act → World → Prop} {Q : Exit → Act → World → Prop} {w : World} (hwant : Region.wanted o (yielded ops a.tmps) = true) (p x : Operand)
    (ho : o.op = .call { callee := .builtin .append, args := #[p, x], argTypes := #[22, 22] })
    (base : Nat) (A0 : Option Addr) (c0 n : Nat) (Z : List ZC) (hv : a.eval p = .slice A0 n c0) (hown : OwC w base A0 c0 n Z)
    (B : Nat) (A : Option Addr) (m c : Nat) (Y : List ZC) (hx : a.eval x = .slice A m c) (hr : Rd w B 3 A m (Y.flatMap clC)) (hb : n + m ≤ 1000000000000) (hbase : base ≤ w.heap.size)
    (h : ∀ A' c' w', OwC w' base A' c' (n + m) (Z ++ Y) → Turn (fun k => A0.map (·.block) = some k) w w' → (A'.map (·.block) = A0.map (·.block) ∨ A'.map (·.block) = some w.heap.size) → K (a.put o.dst (.slice A' (n + m) c')) w') :
    if Region.wanted o (yielded ops a.tmps) = true then Oper.wp Try.prog o a w K Q else E := by
  rw [if_pos hwant]
  exact appC_wp w p x ho base A0 c0 n Z hv hown B A m c Y hx hr hb hbase h
theorem anyd_emptyC {ops : Array Oper} {E : Prop} {o : Oper} {a : Act} {w : World} {K : Act → World → Prop} {Q : Exit → Act → World → Prop} (hwant : Region.wanted o (yielded ops a.tmps) = true)
    (ho : o.op = .buildSlice 22 0 #[]) (base : Nat) (hbase : base ≤ w.heap.size)
    (h : ∀ V A c, OwC V base A c 0 [] → Below w.heap.size w V → K (a.put o.dst (.slice A 0 c)) V) :
    if Region.wanted o (yielded ops a.tmps) = true then Oper.wp Try.prog o a w K Q else E := by
  rw [if_pos hwant]
  obtain ⟨ie, hie, hz, hs, hb⟩ := info_parts clInfo
  unfold Oper.wp execOp
  have hr : (Instr.buildSlice 22 0 #[]).run Try.prog w = .ok (.slice (some ⟨w.heap.size, 0, none⟩) 0 0) (w.alloc (.cells #[] 36)) := by
    simp [Instr.buildSlice, run_underlying Try.underlying22, sizeOf, typeInfo, zeroValue, hie, hz, hs, newRow, Instr.fill]
    kernel_rfl
  simp only [ho, Sem.run_bind, List.map_toArray, List.map_nil, hr, Result.andThen_ok]
  exact h _ _ _ (OwC.empty w base hbase) ((Below.refl _ _).alloc (Nat.le_refl _) _)
theorem run_litC (p : UInt32) (A0 : Option Addr) (n0 c0 : Nat) (A1 : Option Addr) (n1 c1 : Nat) (w : World) : (Instr.buildSlice 22 1 #[(0, .agg #[nv p, .slice A0 n0 c0, .slice A1 n1 c1])]).run Try.prog w = .ok (.slice (some ⟨w.heap.size, 0, none⟩) 1 1) (w.alloc (.cells #[nv p, .slice A0 n0 c0, .slice A1 n1 c1] 36)) := by
  obtain ⟨i0, hi, hz0, hz1, hz2⟩ := info_parts clInfo
  simp [Instr.buildSlice, run_underlying Try.underlying22, sizeOf, typeInfo, zeroValue, hi, hz0, hz1, newRow, Instr.fill]
  kernel_rfl
theorem OwC.one (w : World) (base : Nat) (hb : base ≤ w.heap.size) (p : UInt32) (A0 : Option Addr) (n0 c0 : Nat) (A1 : Option Addr) (n1 c1 : Nat) (l : List Tm) (L : List Li) (R : List SlA) :
    OwC (w.alloc (.cells #[nv p, .slice A0 n0 c0, .slice A1 n1 c1] 36)) base (some ⟨w.heap.size, 0, none⟩) 1 1 [((((p, l), L) : Cl), (((A0, n0, c0), (A1, n1, c1), R) : ClA))] :=
  World.ownsRow_lit (base := base) w #[nv p, .slice A0 n0 c0, .slice A1 n1 c1] 1 hb (by simp [maxLen]) rfl
theorem anyd_lit1C {ops : Array Oper} {E : Prop} {o : Oper} {a : Act} {w : World} {K : Act → World → Prop} {Q : Exit → Act → World → Prop} (hwant : Region.wanted o (yielded ops a.tmps) = true) (x : Operand)
    (ho : o.op = .buildSlice 22 1 #[(0, x)]) (p : UInt32) (A0 : Option Addr) (n0 c0 : Nat) (A1 : Option Addr) (n1 c1 : Nat) (hx : a.eval x = .agg #[nv p, .slice A0 n0 c0, .slice A1 n1 c1])
    (l : List Tm) (L : List Li) (R : List SlA)
    (h : ∀ V q, OwC V w.heap.size (some ⟨q, 0, none⟩) 1 1 [((((p, l), L) : Cl), (((A0, n0, c0), (A1, n1, c1), R) : ClA))] → q = w.heap.size → Below w.heap.size w V → K (a.put o.dst (.slice (some ⟨q, 0, none⟩) 1 1)) V) :
    if Region.wanted o (yielded ops a.tmps) = true then Oper.wp Try.prog o a w K Q else E := by
  rw [if_pos hwant]
  unfold Oper.wp execOp
  simp only [ho, Sem.run_bind, List.map_toArray, List.map_cons, List.map_nil, hx, run_litC, Result.andThen_ok]
  exact h _ _ (OwC.one w _ (Nat.le_refl _) p A0 n0 c0 A1 n1 c1 l L R) rfl ((Below.refl _ _).alloc (Nat.le_refl _) _)
theorem anyd_appC0 {ops : Array Oper} {E : Prop} {o : Oper} {a : Act} {K : Act → World → Prop} {Q : Exit → Act → World → Prop} {w : World} (hwant : Region.wanted o (yielded ops a.tmps) = true) (p x : Operand)
    (ho : o.op = .call { callee := .builtin .append, args := #[p, x], argTypes := #[22, 22] })
    (base : Nat) (A0 : Option Addr) (c0 : Nat) (hv : a.eval p = .slice A0 0 c0) (hown : OwC w base A0 c0 0 [])
    (B : Nat) (A : Option Addr) (m c : Nat) (Y : List ZC) (hx : a.eval x = .slice A m c) (hr : Rd w B 3 A m (Y.flatMap clC)) (hb : m ≤ 1000000000000) (hbase : base ≤ w.heap.size)
    (h : ∀ A' c' w', OwC w' base A' c' m Y → Turn (fun k => A0.map (·.block) = some k) w w' → (A'.map (·.block) = A0.map (·.block) ∨ A'.map (·.block) = some w.heap.size) → K (a.put o.dst (.slice A' m c')) w') :
    if Region.wanted o (yielded ops a.tmps) = true then Oper.wp Try.prog o a w K Q else E := by
  refine anyd_appC hwant p x ho base A0 c0 0 [] hv hown B A m c Y hx hr (by omega) hbase ?_
  intro A' c' w' h1 h2 h3
  rw [Nat.zero_add] at h1 ⊢
  exact h A' c' w' h1 h2 h3
theorem appC0 {ops : Array Oper} {rest : List Oper} {o : Oper} {a : Act} {Q : Exit → Act → World → Prop} (w : World) (hgd : o.guard = none) (p x : Operand)
    (ho : o.op = .call { callee := .builtin .append, args := #[p, x], argTypes := #[22, 22] })
    (base : Nat) (A0 : Option Addr) (c0 : Nat) (hv : a.eval p = .slice A0 0 c0) (hown : OwC w base A0 c0 0 [])
    (B : Nat) (A : Option Addr) (m c : Nat) (Y : List ZC) (hx : a.eval x = .slice A m c) (hr : Rd w B 3 A m (Y.flatMap clC)) (hb : m ≤ 1000000000000) (hbase : base ≤ w.heap.size)
    (h : ∀ A' c' w', OwC w' base A' c' m Y → Turn (fun k => A0.map (·.block) = some k) w w' → (A'.map (·.block) = A0.map (·.block) ∨ A'.map (·.block) = some w.heap.size) → wpList Try.prog ops Q rest (a.put o.dst (.slice A' m c')) w') : wpList Try.prog ops Q (o :: rest) a w := by
  refine appC w hgd p x ho base A0 c0 0 [] hv hown B A m c Y hx hr (by omega) hbase ?_
  intro A' c' w' h1 h2 h3
  rw [Nat.zero_add] at h1 ⊢
  exact h A' c' w' h1 h2 h3
theorem anyd_loadC {op : Oper} {a : Act} {w : World} {K : Act → World → Prop} {Q : Exit → Act → World → Prop} {E : Prop} {ops : Array Oper} (hwant : Region.wanted op (yielded ops a.tmps) = true) (x : Operand) (ho : op.op = .load 36 x)
    (g : Nat) (hx : a.eval x = .pointer (some ⟨g, 0, none⟩)) (p : UInt32) (u v : Value) (hg : Bk w g 36 [nv p, u, v])
    (h : K (a.put op.dst (.agg #[nv p, u, v])) w) : if Region.wanted op (yielded ops a.tmps) = true then Oper.wp Try.prog op a w K Q else E := by
  rw [if_pos hwant]
  exact wp_load_row 36 x ho g hx 36 #[nv p, u, v] (0, 0) _ hg Try.underlying36 rfl (by kernel_rfl) h
theorem RdL.trim {w : World} {B n : Nat} {A : Option Addr} {R : List SlA} {L : List Li} (h : RdL w B A n R L) : RdL w B A (n - 1) R.dropLast L.dropLast := by
  have hl := h.lenL
  have hr := h.lenR
  refine ⟨by rw [List.length_dropLast]; omega, by rw [List.length_dropLast]; omega, ?_, fun i r x h1 h2 => ?_⟩
  · have hz : (L.dropLast.zip R.dropLast) = (L.zip R).take (n - 1) := by
      rw [List.dropLast_eq_take, List.dropLast_eq_take, hl, hr]
      unfold List.zip
      rw [List.take_zipWith]
    have hlen : ∀ X : List (Li × SlA), (X.flatMap liC).length = X.length * 3 := fun X => by
      induction X with
      | nil => rfl
      | cons x X ih => rw [List.flatMap_cons, List.length_append, ih, List.length_cons]; simp [liC]; omega
    rw [hz]
    refine ⟨by rw [hlen, List.length_take, List.length_zip, hl, hr]; omega, fun hp => ?_⟩
    obtain ⟨b, o, e, hb, hc⟩ := h.top.2 (by omega)
    refine ⟨b, o, e, hb, fun j u hu => hc j u ?_⟩
    have hpre : (L.zip R).flatMap liC = ((L.zip R).take (n - 1)).flatMap liC ++ ((L.zip R).drop (n - 1)).flatMap liC := by
      rw [← List.flatMap_append, List.take_append_drop]
    rw [hpre, List.getElem?_append_left (List.getElem?_eq_some_iff.1 hu).1]
    exact hu
  · rw [List.dropLast_eq_take, List.getElem?_take] at h1 h2
    split at h1
    · split at h2
      · exact h.row i r x h1 h2
      · cases h2
    · cases h1
/-- A right program is told so. -/
theorem right_yes (ok : SafeOk) (Z : List ZC) (A : Option Addr) (n c : Nat) (w : World) (hr : Rd w w.heap.size 3 A n (Z.flatMap clC)) (hz : RowZ w w.heap.size Z) (hnc : n ≤ c) (hs : Slim (Z.map (·.1))) (hn : n ≤ 1000000) (h0 : (rightM (Z.map (·.1))).2 = 0) :
    Calls Try.prog 8 #[.slice A n c] w fun e w' => (∃ x : Int, e = .returned (.tuple #[.int .i64 x, .int .i64 0])) ∧ Below w.heap.size w w' := by
  refine (ok.right A n c _ _ w (rdCs_of hr hz) hnc hs hn).mono ?_
  rintro e w' ⟨rfl, hb⟩
  rw [h0]
  exact ⟨⟨_, rfl⟩, hb⟩
end Go.Proofs.Ytggnhgfickkgdaa
