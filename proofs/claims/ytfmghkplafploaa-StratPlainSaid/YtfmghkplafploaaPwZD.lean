/- Texts, packed: SrN -/
import Derived.Test.YtfmghkplafploaaPwZA
set_option linter.unusedVariables false
set_option linter.unusedSimpArgs false
namespace Go.Proofs.Ytfmghkplafploaa
open Go Go.RowKit

theorem own1_block {w : World} {base c n : Nat} {t : TypeId} {A : Option Addr} {xs : List Value} (h : w.ownsRow base t 1 (.slice A n c) n xs) (hn : 0 < n) :
    ∃ g rest, A = some ⟨g, 0, none⟩ ∧ base ≤ g ∧ n ≤ c ∧ c ≤ maxLen ∧ rest.length = c - n ∧ xs.length = n ∧ Bk w g t (xs ++ rest) := by
  have hl : xs.length = n := by have := h.1; omega
  rcases h.2 with ⟨_, h0⟩ | ⟨g, cap, cur, hv, hb, hg, h1, h2, h3, h4⟩
  · omega
  · cases hv
    refine ⟨g, cur.toList.drop n, rfl, hb, h1, h2, by simp; omega, hl, ?_⟩
    rw [Nat.mul_one] at h4
    unfold Bk
    rw [← h4, List.take_append_drop]
    exact hg
theorem own1_of {w : World} {base g c n : Nat} {t : TypeId} {xs rest : List Value} (hb : base ≤ g) (hl : xs.length = n) (hr : rest.length = c - n) (hn : n ≤ c) (hc : c ≤ maxLen) (h : Bk w g t (xs ++ rest)) : w.ownsRow base t 1 (.slice (some ⟨g, 0, none⟩) n c) n xs := by
  refine ⟨by omega, .inr ⟨g, c, _, rfl, hb, h, hn, hc, by simp; omega, ?_⟩⟩
  rw [Nat.mul_one, List.toList_toArray, List.take_append_of_le_length (by omega), List.take_of_length_le (by omega)]
theorem own1_made {w : World} {base g n : Nat} {t : TypeId} {xs : List Value} (hb : base ≤ g) (hl : xs.length = n) (hc : n ≤ maxLen) (h : Bk w g t xs) : w.ownsRow base t 1 (.slice (some ⟨g, 0, none⟩) n n) n xs :=
  own1_of (rest := []) hb hl (by simp) (Nat.le_refl _) hc (by rw [List.append_nil]; exact h)
theorem rowsC_len (R : Nat → SlA) (T : Nat) : (rowsC R T).length = T := by unfold rowsC; simp
theorem rowsC_succ (R : Nat → SlA) (T : Nat) (s : SlA) : rowsC (updS R T s) (T + 1) = rowsC R T ++ [s.val] := by
  unfold rowsC
  rw [List.range_succ, List.map_append]
  congr 1
  · refine List.map_congr_left fun k hk => ?_
    rw [List.mem_range] at hk
    unfold updS
    rw [if_neg (by omega)]
  · simp [updS]
/-- A row of rows: the n rows R, each of one's own, with D in them. -/
structure SG (te tt : TypeId) (kk : Nat) (w : World) (base : Nat) (A : Option Addr) (c n : Nat) (R : Nat → SlA) (D : Nat → List Value) : Prop where
  top : w.ownsRow base tt 1 (.slice A n c) n (rowsC R n)
  own : ∀ j, j < n → w.ownsRow base te kk (.slice (R j).1 (R j).2.1 (R j).2.2) (R j).2.1 (D j)
  apart : ∀ i j, i < n → j < n → i ≠ j → ∀ x, (R i).1.map (·.block) = some x → ¬ (R j).1.map (·.block) = some x
  away : ∀ j, j < n → ∀ x, (R j).1.map (·.block) = some x → ¬ A.map (·.block) = some x
/-- .. that is read. -/
structure RdG (kk : Nat) (w : World) (B : Nat) (A : Option Addr) (n : Nat) (R : Nat → SlA) (D : Nat → List Value) : Prop where
  top : Rd w B 1 A n (rowsC R n)
  row : ∀ j, j < n → Rd w B kk (R j).1 (R j).2.1 (D j)
section
variable {te tt : TypeId} {kk : Nat} {w w' : World} {base B B' : Nat} {A : Option Addr} {c n : Nat} {R : Nat → SlA} {D : Nat → List Value}
theorem RdG.below (h : RdG kk w B A n R D) (hb : Below B w w') : RdG kk w' B A n R D := ⟨h.top.below hb, fun j hj => (h.row j hj).below hb⟩
theorem RdG.more (h : RdG kk w B A n R D) (hB : B ≤ B') : RdG kk w B' A n R D := ⟨h.top.more hB, fun j hj => (h.row j hj).more hB⟩
theorem RdG.at_ (h : RdG kk w B A n R D) {v : Nat} (hv : v < n) : ∃ b o, A = some ⟨b, o, none⟩ ∧ b < B ∧ w.cell? ⟨b, o + v, none⟩ = some (.slice (R v).1 (R v).2.1 (R v).2.2) ∧ Rd w B kk (R v).1 (R v).2.1 (D v) := by
  obtain ⟨b, o, e, hb, hc⟩ := h.top.2 (by omega)
  exact ⟨b, o, e, hb, hc v _ (rowsC_at hv), h.row v hv⟩
theorem SG.rd (h : SG te tt kk w base A c n R D) : RdG kk w w.heap.size A n R D := ⟨Rd.ofOwn h.top, fun j hj => Rd.ofOwn (h.own j hj)⟩
theorem SG.later (h : SG te tt kk w base A c n R D) (hb : Below w.heap.size w w') : SG te tt kk w' base A c n R D :=
  ⟨ownBelow h.top hb (Nat.le_refl _), fun j hj => ownBelow (h.own j hj) hb (Nat.le_refl _), h.apart, h.away⟩
theorem SG.lowR (h : SG te tt kk w base A c n R D) {j : Nat} (hj : j < n) {x : Nat} (hx : (R j).1.map (·.block) = some x) : base ≤ x ∧ x < w.heap.size :=
  World.ownsRow.lt (h.own j hj) x (by rw [ownBlk_slice]; exact hx)
theorem SG.lowT (h : SG te tt kk w base A c n R D) {x : Nat} (hx : A.map (·.block) = some x) : base ≤ x ∧ x < w.heap.size :=
  World.ownsRow.lt h.top x (by rw [ownBlk_slice]; exact hx)
/-- The v-th row was appended to, on the way from Z to V; its slice is stored. -/
theorem SG.put (h : SG te tt kk w base A c n R D) {v : Nat} (hv : v < n) {Z V : World} (hZ : Below w.heap.size w Z) {A' : Option Addr} {m' c' : Nat} {news : List Value}
    (ho : V.ownsRow base te kk (.slice A' m' c') m' (D v ++ news)) (hT : Turn (fun k => (R v).1.map (·.block) = some k) Z V) (hA : A'.map (·.block) = (R v).1.map (·.block) ∨ A'.map (·.block) = some Z.heap.size) :
    ∃ g, A = some ⟨g, 0, none⟩ ∧ base ≤ g ∧ V.cell? ⟨g, v, none⟩ = some (.slice (R v).1 (R v).2.1 (R v).2.2) ∧ V.frozen? ⟨g, v, none⟩ = false ∧
      SG te tt kk (V.setCell ⟨g, v, none⟩ (.slice A' m' c')) base A c n (updS R v (A', m', c')) (fun j => if j = v then D v ++ news else D j) := by
  obtain ⟨g, rest, rfl, hbg, hnc, hcm, hrl, hxl, hbk⟩ := own1_block h.top (by omega)
  have hng : ¬ (R v).1.map (·.block) = some g := fun e => h.away v hv g e rfl
  have hbV : Bk V g tt (rowsC R n ++ rest) := hT.bk (hbk.later hZ) hng
  have hTg : Turn (fun k => k = g) V (V.setCell ⟨g, v, none⟩ (.slice A' m' c')) := (Turn.refl (fun k => k = g) V).setCell (p := ⟨g, v, none⟩) (fun _ => rfl) _
  have hfresh : ∀ j, j < n → ¬ (R j).1.map (·.block) = some Z.heap.size := fun j hj e => by
    have := (h.lowR hj e).2
    have := hZ.size
    omega
  have hgw : g < w.heap.size := hbk.lt
  have hA'g : ¬ A'.map (·.block) = some g := fun e => by
    rcases hA with q | q
    · rw [q] at e; exact hng e
    · rw [q] at e; cases e; have := hZ.size; omega
  refine ⟨g, rfl, hbg, ?_, hbV.frozen _, ⟨?_, fun j hj => ?_, fun i j hi hj hne x hx => ?_, fun j hj x hx => ?_⟩⟩
  · rw [hbV.cell, List.getElem?_append_left (by rw [hxl]; exact hv), rowsC_at hv]; try rfl
  · have h2 := hbV.set_ v (SlA.val (A', m', c'))
    rw [List.set_append_left _ _ (by rw [hxl]; exact hv), rowsC_set] at h2
    exact own1_of hbg (rowsC_len _ _) hrl hnc hcm h2
  · by_cases e : j = v
    · subst e
      rw [show updS R j (A', m', c') j = (A', m', c') from if_pos rfl, if_pos rfl]
      exact hTg.own ho (fun x hx e => hA'g (by rw [ownBlk_slice] at hx; rw [hx, e]))
    · rw [show updS R v (A', m', c') j = R j from if_neg e, if_neg e]
      have h1 := hT.own (ownBelow (h.own j hj) hZ (Nat.le_refl _)) (fun x hx q => h.apart j v hj hv e x (by rw [ownBlk_slice] at hx; exact hx) q)
      exact hTg.own h1 (fun x hx e => h.away j hj x (by rw [ownBlk_slice] at hx; exact hx) (by rw [e]; rfl))
  · unfold updS at hx ⊢
    by_cases e : i = v
    · rw [if_pos e] at hx
      have e' : ¬ j = v := fun q => hne (by rw [e, q])
      rw [if_neg e']
      rcases hA with hA | hA
      · exact h.apart v j hv hj (fun q => e' q.symm) x (hA ▸ hx)
      · rw [hA] at hx
        cases hx
        exact hfresh j hj
    · rw [if_neg e] at hx
      by_cases e' : j = v
      · rw [if_pos e']
        intro q
        rcases hA with hA | hA
        · exact h.apart i v hi hv e x hx (hA ▸ q)
        · rw [hA] at q
          cases q
          exact hfresh i hi hx
      · rw [if_neg e']
        exact h.apart i j hi hj hne x hx
  · unfold updS at hx
    by_cases e : j = v
    · rw [if_pos e] at hx
      intro q
      cases q
      exact hA'g hx
    · rw [if_neg e] at hx
      exact h.away j hj x hx
/-- One more row, with nothing in it. -/
theorem SG.grow (h : SG te tt kk w base A c n R D) {Z V : World} (hZ : Below w.heap.size w Z) {A' : Option Addr} {c' : Nat}
    (ho : V.ownsRow base tt 1 (.slice A' (n + 1) c') (n + 1) (rowsC R n ++ [.slice none 0 0])) (hT : Turn (fun k => A.map (·.block) = some k) Z V) (hA : A'.map (·.block) = A.map (·.block) ∨ A'.map (·.block) = some Z.heap.size) (hD : D n = []) :
    SG te tt kk V base A' c' (n + 1) (updS R n (none, 0, 0)) D := by
  refine ⟨?_, fun j hj => ?_, fun i j hi hj hne x hx => ?_, fun j hj x hx => ?_⟩
  · rw [rowsC_succ]; exact ho
  · by_cases e : j = n
    · subst e
      rw [show updS R j (none, 0, 0) j = (none, 0, 0) from if_pos rfl, hD]
      exact World.ownsRow_nil _ _ _ _
    · rw [show updS R n (none, 0, 0) j = R j from if_neg e]
      exact hT.own (ownBelow (h.own j (by omega)) hZ (Nat.le_refl _)) (fun x hx => h.away j (by omega) x (by rw [ownBlk_slice] at hx; exact hx))
  · unfold updS at hx ⊢
    by_cases e : i = n
    · rw [if_pos e] at hx; cases hx
    · rw [if_neg e] at hx
      by_cases e' : j = n
      · rw [if_pos e']; intro q; cases q
      · rw [if_neg e']; exact h.apart i j (by omega) (by omega) hne x hx
  · unfold updS at hx
    by_cases e : j = n
    · rw [if_pos e] at hx; cases hx
    · rw [if_neg e] at hx
      intro q
      rcases hA with hA | hA
      · exact h.away j (by omega) x hx (hA ▸ q)
      · rw [hA] at q
        cases q
        have := (h.lowR (j := j) (by omega) hx).2
        have := hZ.size
        omega
/-- As many rows as are made at once. -/
theorem SG.made {g : Nat} (hb : base ≤ g) (hn : n ≤ maxLen) (h : Bk w g tt (List.replicate n (.slice none 0 0))) (hD : ∀ j, j < n → D j = []) : SG te tt kk w base (some ⟨g, 0, none⟩) n n (fun _ => (none, 0, 0)) D := by
  refine ⟨?_, fun j hj => ?_, fun i j _ _ _ x hx => (by cases hx), fun j _ x hx => (by cases hx)⟩
  · rw [rowsC_zero]
    exact own1_made hb (by simp) hn h
  · rw [hD j hj]
    exact World.ownsRow_nil _ _ _ _
theorem SG.begun (w : World) (base : Nat) : SG te tt kk w base none 0 0 R D := ⟨World.ownsRow_nil _ _ _ _, fun j hj => by omega, fun i j hi => by omega, fun j hj => by omega⟩
end

/-! ### What hangs on what -/
def hgC (x : Hn) : List Value := [.int .i64 (x.1 : Int), .int .i64 ((dl x.2 : Nat) : Int)]
theorem hgC_len (X : List Hn) : (X.flatMap hgC).length = X.length * 2 := by
  induction X with
  | nil => rfl
  | cons x X ih => rw [List.flatMap_cons, List.length_append, ih, List.length_cons]; simp [hgC]; omega
theorem hgC_one (X : List Hn) : ∀ u ∈ X.flatMap hgC, u.oneCell' = true := by
  intro u hu
  obtain ⟨x, _, hx⟩ := List.mem_flatMap.1 hu
  simp only [hgC, List.mem_cons, List.not_mem_nil, or_false] at hx
  rcases hx with rfl | rfl <;> rfl
theorem hgInfo : (Try.prog.info? 71).map (fun i => (i.zero, i.size, i.bytes)) = some (some (.agg #[.int .i64 0, .int .i64 0]), 2, 16) := by kernel_rfl
theorem hgsInfo : (Try.prog.info? 69).map (fun i => (i.zero, i.size, i.bytes)) = some (some (.slice none 0 0), 1, 24) := by kernel_rfl
theorem litHg (w : World) (a : Nat) (b : Bool) : Rd (w.alloc (.cells #[.int .i64 (a : Int), .int .i64 ((dl b : Nat) : Int)] 71)) (w.heap.size + 1) 2 (some ⟨w.heap.size, 0, none⟩) 1 (hgC (a, b)) :=
  ⟨rfl, fun _ => ⟨_, _, rfl, by omega, fun j u hu => by
    rw [Nat.zero_add, cell_of_row _ _ j #[.int .i64 (a : Int), .int .i64 ((dl b : Nat) : Int)] 71 (0, 0) (heap_alloc_new w _)]
    simpa [hgC] using hu⟩⟩
theorem appHg {ops : Array Oper} {rest : List Oper} {o : Oper} {a : Act} {Q : Exit → Act → World → Prop} (w : World) (hgd : o.guard = none) (p x : Operand)
    (ho : o.op = .call { callee := .builtin .append, args := #[p, x], argTypes := #[69, 69] })
    (base : Nat) (s : SlA) (X : List Hn) (hv : a.eval p = .slice s.1 s.2.1 s.2.2) (hown : w.ownsRow base 71 2 (.slice s.1 s.2.1 s.2.2) s.2.1 (X.flatMap hgC))
    (B : Nat) (A : Option Addr) (m c : Nat) (Y : List Hn) (hx : a.eval x = .slice A m c) (hr : Rd w B 2 A m (Y.flatMap hgC)) (hb : s.2.1 + m ≤ 1000000000000) (hbase : base ≤ w.heap.size)
    (h : ∀ A' c' w', w'.ownsRow base 71 2 (.slice A' (s.2.1 + m) c') (s.2.1 + m) (X.flatMap hgC ++ Y.flatMap hgC) → Turn (fun k => s.1.map (·.block) = some k) w w' → (A'.map (·.block) = s.1.map (·.block) ∨ A'.map (·.block) = some w.heap.size) → wpList Try.prog ops Q rest (a.put o.dst (.slice A' (s.2.1 + m) c')) w') : wpList Try.prog ops Q (o :: rest) a w := by
  obtain ⟨i0, hi, hz0, hz1, hz2⟩ := info_parts hgInfo
  refine wpList_app w hgd p x 69 ho base 71 i0 _ 2 16 Try.underlying69 hi hz0 hz1 hz2 rfl (by decide) _ s.2.1 _ hv hown B A m c _ hx hr (hgC_one Y) (by simp only [maxLen]; omega) (by omega) hbase ?_
  intro A' c' w' h4 h2 h3
  rw [ownBlk_slice, ownBlk_slice] at h3
  exact h A' c' w' h4 (Turn.ofGrown h2 fun k hk => by rw [ownBlk_slice] at hk; exact hk) h3
abbrev RdHs (w : World) (B : Nat) (A : Option Addr) (n : Nat) (R : Nat → SlA) (D : Nat → List Hn) : Prop := RdG 2 w B A n R (fun j => (D j).flatMap hgC)
theorem hg_len {w : World} {B : Nat} {A : Option Addr} {m : Nat} {X : List Hn} (h : Rd w B 2 A m (X.flatMap hgC)) : X.length = m := by
  have := h.1
  rw [hgC_len] at this
  omega
theorem hg_at {w : World} {B : Nat} {A : Option Addr} {m : Nat} {X : List Hn} (h : Rd w B 2 A m (X.flatMap hgC)) {i : Nat} (hi : i < m) :
    ∃ b o x, A = some ⟨b, o, none⟩ ∧ b < B ∧ X[i]? = some x ∧ w.cell? ⟨b, o + i * 2, none⟩ = some (.int .i64 (x.1 : Int)) ∧ w.cell? ⟨b, o + i * 2 + 1, none⟩ = some (.int .i64 ((dl x.2 : Nat) : Int)) := by
  obtain ⟨b, o, e, hb, hc⟩ := h.2 (by omega)
  have hl := hg_len h
  have hx : X[i]? = some (X[i]'(by omega)) := List.getElem?_eq_getElem _
  have hf : ∀ x : Hn, (hgC x).length = 2 := fun _ => rfl
  have f0 := flat_at hgC 2 hf hx 0 (by omega)
  have f1 := flat_at hgC 2 hf hx 1 (by omega)
  exact ⟨b, o, _, e, hb, hx, hc _ _ f0, hc _ _ f1⟩
theorem box2 (w : World) (a b : Value) (t : TypeId) : ∃ W, W = w.alloc (.cells #[a, b] t) ∧ Bk W w.heap.size t [a, b] ∧ Below w.heap.size w W := ⟨_, rfl, Bk.new w _ _, (Below.refl _ _).alloc (Nat.le_refl _) _⟩

/-! ### Edges of one's own -/
def OwEd (w : World) (base : Nat) (A : Option Addr) (c n : Nat) (l : List (Int × Int)) : Prop := w.ownsRow base 75 2 (.slice A n c) n (l.flatMap edC)
theorem OwEd.rd {w : World} {base c n : Nat} {A : Option Addr} {l : List (Int × Int)} (h : OwEd w base A c n l) : RdE w w.heap.size A n l := Rd.ofOwn h
theorem OwEd.later {w w' : World} {base c n : Nat} {A : Option Addr} {l : List (Int × Int)} (h : OwEd w base A c n l) (hb : Below w.heap.size w w') : OwEd w' base A c n l := ownBelow h hb (Nat.le_refl _)
theorem OwEd.low {w : World} {base c n : Nat} {A : Option Addr} {l : List (Int × Int)} (h : OwEd w base A c n l) {k : Nat} (hk : A.map (·.block) = some k) : base ≤ k ∧ k < w.heap.size := World.ownsRow.lt h k (by rw [ownBlk_slice]; exact hk)
theorem edCs_one (l : List (Int × Int)) : ∀ u ∈ l.flatMap edC, u.oneCell' = true := by
  intro u hu
  obtain ⟨e, _, he⟩ := List.mem_flatMap.1 hu
  simp only [edC, List.mem_cons, List.mem_nil_iff, or_false] at he
  rcases he with rfl | rfl <;> rfl
theorem ed2Info : (Try.prog.info? 75).map (fun i => (i.zero, i.size, i.bytes)) = some (some (.agg #[.int .i64 0, .int .i64 0]), 2, 16) := by kernel_rfl
theorem litEd (w : World) (a b : Int) : RdE (w.alloc (.cells #[.int .i64 a, .int .i64 b] 75)) (w.heap.size + 1) (some ⟨w.heap.size, 0, none⟩) 1 [(a, b)] :=
  ⟨rfl, fun _ => ⟨_, _, rfl, by omega, fun j u hu => by
    rw [Nat.zero_add, cell_of_row _ _ j #[.int .i64 a, .int .i64 b] 75 (0, 0) (heap_alloc_new w _)]
    simpa [edC] using hu⟩⟩
theorem appEd {ops : Array Oper} {rest : List Oper} {o : Oper} {a : Act} {Q : Exit → Act → World → Prop} (w : World) (hgd : o.guard = none) (p x : Operand)
    (ho : o.op = .call { callee := .builtin .append, args := #[p, x], argTypes := #[58, 58] })
    (base : Nat) (A0 : Option Addr) (c0 n : Nat) (l : List (Int × Int)) (hv : a.eval p = .slice A0 n c0) (hown : OwEd w base A0 c0 n l)
    (B : Nat) (A : Option Addr) (m c : Nat) (news : List (Int × Int)) (hx : a.eval x = .slice A m c) (hr : RdE w B A m news) (hb : n + m ≤ 1000000000000) (hbase : base ≤ w.heap.size)
    (h : ∀ A' c' w', OwEd w' base A' c' (n + m) (l ++ news) → Turn (fun k => A0.map (·.block) = some k) w w' → wpList Try.prog ops Q rest (a.put o.dst (.slice A' (n + m) c')) w') : wpList Try.prog ops Q (o :: rest) a w := by
  obtain ⟨i0, hi, hz0, hz1, hz2⟩ := info_parts ed2Info
  refine wpList_app w hgd p x 58 ho base 75 i0 _ 2 16 Try.underlying58 hi hz0 hz1 hz2 rfl (by decide) _ n _ hv hown B A m c _ hx hr (edCs_one news) (by simp only [maxLen]; omega) (by omega) hbase ?_
  intro A' c' w' h4 h2 h3
  exact h A' c' w' (by unfold OwEd; rw [List.flatMap_append]; exact h4) (Turn.ofGrown h2 fun k hk => by rw [ownBlk_slice] at hk; exact hk)
end Go.Proofs.Ytfmghkplafploaa

