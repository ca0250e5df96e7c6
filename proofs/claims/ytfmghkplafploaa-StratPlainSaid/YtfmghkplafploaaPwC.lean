/- Texts, packed: StB -/
import Derived.Test.YtfmghkplafploaaPwB
set_option linter.unusedVariables false
set_option linter.unusedSimpArgs false
namespace Go.Proofs.Ytfmghkplafploaa
open Go Go.RowKit

def lvC (x : Lv) : List Value := [nv x.1, .int .i64 (x.2 : Int)]
theorem lvC_len (X : List Lv) : (X.flatMap lvC).length = X.length * 2 := by
  induction X with
  | nil => rfl
  | cons x X ih => rw [List.flatMap_cons, List.length_append, ih, List.length_cons]; simp [lvC]; omega
theorem lvC_one (X : List Lv) : ∀ u ∈ X.flatMap lvC, u.oneCell' = true := by
  intro u hu
  obtain ⟨x, _, hx⟩ := List.mem_flatMap.1 hu
  simp only [lvC, List.mem_cons, List.not_mem_nil, or_false] at hx
  rcases hx with rfl | rfl <;> rfl
theorem lvC_cons (x : Lv) (X : List Lv) : (x :: X).flatMap lvC = nv x.1 :: .int .i64 (x.2 : Int) :: X.flatMap lvC := rfl
theorem lvC_set (X : List Lv) (i : Nat) (x : Lv) (hi : i < X.length) : ((X.flatMap lvC).set (i * 2) (nv x.1)).set (i * 2 + 1) (.int .i64 (x.2 : Int)) = (X.set i x).flatMap lvC := by
  induction X generalizing i with
  | nil => simp at hi
  | cons y X ih =>
    cases i with
    | zero => rfl
    | succ i =>
      rw [lvC_cons, List.set_cons_succ, lvC_cons, show (i + 1) * 2 = i * 2 + 1 + 1 by omega, List.set_cons_succ, List.set_cons_succ, List.set_cons_succ, List.set_cons_succ, ih i (by simpa using hi)]
theorem lvC_set1 (X : List Lv) (i : Nat) (x : Lv) (v : Nat) (hx : X[i]? = some x) : (X.flatMap lvC).set (i * 2 + 1) (.int .i64 (v : Int)) = (X.set i (x.1, v)).flatMap lvC := by
  induction X generalizing i with
  | nil => simp at hx
  | cons y X ih =>
    cases i with
    | zero =>
      simp only [List.getElem?_cons_zero, Option.some.injEq] at hx
      subst hx
      rfl
    | succ i =>
      rw [List.getElem?_cons_succ] at hx
      have e : (i + 1) * 2 + 1 = (i * 2 + 1) + 1 + 1 := by omega
      rw [e, lvC_cons, List.set_cons_succ, List.set_cons_succ, ih i hx, List.set_cons_succ, lvC_cons]
theorem lvInfo : (Try.prog.info? 42).map (fun i => (i.zero, i.size, i.bytes)) = some (some (.agg #[.int .u32 0, .int .i64 0]), 2, 16) := by kernel_rfl
abbrev RdV (w : World) (B : Nat) (A : Option Addr) (n : Nat) (X : List Lv) : Prop := Rd w B 2 A n (X.flatMap lvC)
def OwV (w : World) (base : Nat) (A : Option Addr) (c n : Nat) (X : List Lv) : Prop := w.ownsRow base 42 2 (.slice A n c) n (X.flatMap lvC)
section
variable {w w' : World} {B base c n : Nat} {A : Option Addr} {X : List Lv}
theorem rdV_len (h : RdV w B A n X) : X.length = n := by
  have := h.1
  rw [lvC_len] at this
  omega
theorem rdV_at (h : RdV w B A n X) {i : Nat} (hi : i < n) : ∃ b o x, A = some ⟨b, o, none⟩ ∧ b < B ∧ X[i]? = some x ∧ w.cell? ⟨b, o + i * 2, none⟩ = some (nv x.1) ∧ w.cell? ⟨b, o + i * 2 + 1, none⟩ = some (.int .i64 (x.2 : Int)) := by
  obtain ⟨b, o, e, hb, hc⟩ := h.2 (by omega)
  have hl := rdV_len h
  have hx : X[i]? = some (X[i]'(by omega)) := List.getElem?_eq_getElem _
  have hf : ∀ x : Lv, (lvC x).length = 2 := fun _ => rfl
  have f0 := flat_at lvC 2 hf hx 0 (by omega)
  have f1 := flat_at lvC 2 hf hx 1 (by omega)
  exact ⟨b, o, _, e, hb, hx, hc _ _ f0, hc _ _ f1⟩
theorem OwV.rd (h : OwV w base A c n X) : RdV w w.heap.size A n X := Rd.ofOwn h
theorem OwV.len (h : OwV w base A c n X) : X.length = n := rdV_len h.rd
theorem OwV.later (h : OwV w base A c n X) (hb : Below w.heap.size w w') : OwV w' base A c n X := ownBelow h hb (Nat.le_refl _)
theorem OwV.low (h : OwV w base A c n X) {k : Nat} (hk : A.map (·.block) = some k) : base ≤ k ∧ k < w.heap.size := World.ownsRow.lt h k (by rw [ownBlk_slice]; exact hk)
theorem OwV.mono {base' : Nat} (h : OwV w base A c n X) (hb : base' ≤ base) : OwV w base' A c n X := ownBase h hb
theorem OwV.block (h : OwV w base A c n X) (hn : 0 < n) :
    ∃ g rest, A = some ⟨g, 0, none⟩ ∧ base ≤ g ∧ n ≤ c ∧ c ≤ maxLen ∧ rest.length = c * 2 - n * 2 ∧ Bk w g 42 (X.flatMap lvC ++ rest) := by
  have hl := h.len
  rcases h.2 with ⟨_, h0⟩ | ⟨g, cap, cur, hv, hb, hg, h1, h2, h3, h4⟩
  · omega
  · cases hv
    refine ⟨g, cur.toList.drop (n * 2), rfl, hb, h1, h2, by simp; omega, ?_⟩
    unfold Bk
    rw [← h4, List.take_append_drop]
    exact hg
theorem OwV.ofBlock {g : Nat} {rest : List Value} (hb : base ≤ g) (hl : X.length = n) (hr : rest.length = c * 2 - n * 2) (hn : n ≤ c) (hc : c ≤ maxLen) (h : Bk w g 42 (X.flatMap lvC ++ rest)) : OwV w base (some ⟨g, 0, none⟩) c n X := by
  have h2 := lvC_len X
  refine ⟨by omega, .inr ⟨g, c, _, rfl, hb, h, hn, hc, by simp only [List.size_toArray, List.length_append]; omega, ?_⟩⟩
  rw [List.toList_toArray, List.take_append_of_le_length (by omega), List.take_of_length_le (by omega)]
/-- One level stored. -/
theorem OwV.set1 (h : OwV w base A c n X) {i : Nat} (hi : i < n) {x : Lv} (hx : X[i]? = some x) (v : Nat) :
    ∃ g, A = some ⟨g, 0, none⟩ ∧ base ≤ g ∧ g < w.heap.size ∧ w.cell? ⟨g, i * 2, none⟩ = some (nv x.1) ∧ w.cell? ⟨g, i * 2 + 1, none⟩ = some (.int .i64 (x.2 : Int)) ∧ w.frozen? ⟨g, i * 2 + 1, none⟩ = false ∧
      OwV (w.setCell ⟨g, i * 2 + 1, none⟩ (.int .i64 (v : Int))) base A c n (X.set i (x.1, v)) ∧ Turn (fun k => k = g) w (w.setCell ⟨g, i * 2 + 1, none⟩ (.int .i64 (v : Int))) := by
  have hl := h.len
  have hll := lvC_len X
  obtain ⟨g, rest, rfl, hb, hc, hm, hr, hbk⟩ := h.block (by omega)
  have hf : ∀ x : Lv, (lvC x).length = 2 := fun _ => rfl
  refine ⟨g, rfl, hb, hbk.lt, ?_, ?_, hbk.frozen _, ?_, (Turn.refl (fun k => k = g) w).setCell (p := ⟨g, i * 2 + 1, none⟩) (fun _ => rfl) _⟩
  · rw [hbk.cell, List.getElem?_append_left (by omega)]
    exact flat_at lvC 2 hf hx 0 (by omega)
  · rw [hbk.cell, List.getElem?_append_left (by omega)]
    exact flat_at lvC 2 hf hx 1 (by omega)
  · have h2 := hbk.set_ (i * 2 + 1) (.int .i64 (v : Int))
    rw [List.set_append_left _ _ (by omega), lvC_set1 X i x v hx] at h2
    exact OwV.ofBlock hb (by simp [hl]) hr hc hm h2
/-- A whole one stored. -/
theorem OwV.set2 (h : OwV w base A c n X) {i : Nat} (hi : i < n) (y : Lv) :
    ∃ (g : Nat) (x : Lv), A = some ⟨g, 0, none⟩ ∧ base ≤ g ∧ g < w.heap.size ∧ w.cell? ⟨g, i * 2, none⟩ = some (nv x.1) ∧ w.cell? ⟨g, i * 2 + 1, none⟩ = some (.int .i64 (x.2 : Int)) ∧ w.frozen? ⟨g, i * 2, none⟩ = false ∧ w.frozen? ⟨g, i * 2 + 1, none⟩ = false ∧
      OwV ((w.setCell ⟨g, i * 2, none⟩ (nv y.1)).setCell ⟨g, i * 2 + 1, none⟩ (.int .i64 (y.2 : Int))) base A c n (X.set i y) ∧ Turn (fun k => k = g) w ((w.setCell ⟨g, i * 2, none⟩ (nv y.1)).setCell ⟨g, i * 2 + 1, none⟩ (.int .i64 (y.2 : Int))) := by
  have hl := h.len
  have hll := lvC_len X
  obtain ⟨g, rest, rfl, hb, hc, hm, hr, hbk⟩ := h.block (by omega)
  have hf : ∀ x : Lv, (lvC x).length = 2 := fun _ => rfl
  have hx : X[i]? = some (X[i]'(by omega)) := List.getElem?_eq_getElem _
  refine ⟨g, X[i]'(by omega), rfl, hb, hbk.lt, ?_, ?_, hbk.frozen _, hbk.frozen _, ?_, ((Turn.refl (fun k => k = g) w).setCell (p := ⟨g, i * 2, none⟩) (fun _ => rfl) _).setCell (p := ⟨g, i * 2 + 1, none⟩) (fun _ => rfl) _⟩
  · rw [hbk.cell, List.getElem?_append_left (by omega)]
    exact flat_at lvC 2 hf hx 0 (by omega)
  · rw [hbk.cell, List.getElem?_append_left (by omega)]
    exact flat_at lvC 2 hf hx 1 (by omega)
  · have h2 := (hbk.set_ (i * 2) (nv y.1)).set_ (i * 2 + 1) (.int .i64 (y.2 : Int))
    rw [List.set_append_left _ _ (by omega), List.set_append_left _ _ (by rw [List.length_set]; omega), lvC_set X i y (by omega)] at h2
    exact OwV.ofBlock hb (by simp [hl]) hr hc hm h2
end
/-- Rows of atoms and of levels lie apart. -/
theorem apartV {w : World} {base base' c c' n n' : Nat} {A A' : Option Addr} {Y : List AtR} {X : List Lv} (h : OwAt w base A c n Y) (k : OwV w base' A' c' n' X) {x : Nat} (hx : A.map (·.block) = some x) : ¬ A'.map (·.block) = some x := by
  intro hx'
  rcases h.2 with ⟨h1, _⟩ | ⟨g, cap, cur, hv, _, hg, _⟩
  · cases h1; cases hx
  · rcases k.2 with ⟨k1, _⟩ | ⟨g', cap', cur', hv', _, hg', _⟩
    · cases k1; cases hx'
    · cases hv; cases hv'
      simp only [Option.map_some, Option.some.injEq] at hx hx'
      subst hx
      rw [hx'] at hg'
      rw [hg] at hg'
      simp only [Option.some.injEq, Obj.cells.injEq] at hg'
      exact absurd hg'.2.1 (by decide)
theorem appV {ops : Array Oper} {rest : List Oper} {o : Oper} {a : Act} {Q : Exit → Act → World → Prop} (w : World) (hgd : o.guard = none) (p x : Operand)
    (ho : o.op = .call { callee := .builtin .append, args := #[p, x], argTypes := #[34, 34] })
    (base : Nat) (A0 : Option Addr) (c0 n : Nat) (X : List Lv) (hv : a.eval p = .slice A0 n c0) (hown : OwV w base A0 c0 n X)
    (B : Nat) (A : Option Addr) (m c : Nat) (Y : List Lv) (hx : a.eval x = .slice A m c) (hr : RdV w B A m Y) (hb : n + m ≤ 1000000000000) (hbase : base ≤ w.heap.size)
    (h : ∀ A' c' w', OwV w' base A' c' (n + m) (X ++ Y) → Turn (fun k => A0.map (·.block) = some k) w w' → wpList Try.prog ops Q rest (a.put o.dst (.slice A' (n + m) c')) w') : wpList Try.prog ops Q (o :: rest) a w := by
  obtain ⟨i0, hi, hz0, hz1, hz2⟩ := info_parts lvInfo
  refine wpList_app w hgd p x 34 ho base 42 i0 _ 2 16 Try.underlying34 hi hz0 hz1 hz2 rfl (by decide) _ n _ hv hown B A m c _ hx hr (lvC_one Y) (by simp only [maxLen]; omega) (by omega) hbase ?_
  intro A' c' w' h4 h2 h3
  exact h A' c' w' (by unfold OwV; rw [List.flatMap_append]; exact h4) (Turn.ofGrown h2 fun k hk => by rw [ownBlk_slice] at hk; exact hk)
theorem litV_rd (w : World) (p : UInt32) (v : Nat) : RdV (w.alloc (.cells #[nv p, .int .i64 (v : Int)] 42)) (w.heap.size + 1) (some ⟨w.heap.size, 0, none⟩) 1 [(p, v)] :=
  ⟨rfl, fun _ => ⟨_, _, rfl, by omega, fun j u hu => by
    rw [Nat.zero_add, cell_of_row _ _ j #[nv p, .int .i64 (v : Int)] 42 (0, 0) (heap_alloc_new w _)]
    simpa [lvC] using hu⟩⟩
/-- What Of answers. -/
def ofM (X : List Lv) (p : UInt32) : Int := match lvO X p with | some v => (v : Int) | none => -1
theorem ofM_in {X : List Lv} {p : UInt32} (h : p ∈ X.map (·.1)) : ofM X p = (lvN X p : Int) := by
  obtain ⟨v, hv⟩ := lvO_some h
  unfold ofM lvN
  rw [hv]
  rfl
theorem ofM_out {X : List Lv} {p : UInt32} (h : p ∉ X.map (·.1)) : ofM X p = -1 := by
  unfold ofM
  rw [lvO_none h]
theorem ofM_drop {X : List Lv} {i : Nat} {x : Lv} {p : UInt32} (hx : X[i]? = some x) (h : p ∉ (X.take i).map (·.1)) : ofM X p = if x.1 = p then (x.2 : Int) else ofM (X.drop i) p := by
  have h1 : X = X.take i ++ X.drop i := (List.take_append_drop i X).symm
  obtain ⟨hi, e⟩ := List.getElem?_eq_some_iff.1 hx
  have h2 : X.drop i = x :: X.drop (i + 1) := by rw [List.drop_eq_getElem_cons hi, e]
  have h3 : lvO X p = lvO (X.drop i) p := by
    unfold lvO
    conv => lhs; rw [h1]
    rw [List.find?_append, show (X.take i).find? (fun x => x.1 == p) = none from List.find?_eq_none.2 fun y hy => by
      intro e
      simp only [beq_iff_eq] at e
      exact h (List.mem_map.2 ⟨y, hy, e⟩), Option.none_or]
  have h4 : ofM X p = ofM (X.drop i) p := by unfold ofM; rw [h3]
  rw [h4]
  split
  · rename_i hp
    unfold ofM lvO
    rw [h2, List.find?_cons, show (x.1 == p) = true from by rw [beq_iff_eq]; exact hp]
    rfl
  · rfl
end Go.Proofs.Ytfmghkplafploaa

