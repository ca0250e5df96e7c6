/- Layer 11 (safe), the laws: lists of clauses that are built, with rows of their own; rows of literals and of facts. -/
import Derived.Test.YtggnhgfickkgdaaSbD
set_option linter.unusedVariables false
set_option linter.unusedSimpArgs false
namespace Go.Proofs.Ytggnhgfickkgdaa
open Go Go.RowKit

theorem Rd.turn {G : Nat → Prop} {w w' : World} {B s n : Nat} {A : Option Addr} {xs : List Value} (hr : Rd w B s A n xs) (T : Turn G w w') (hB : B ≤ w.heap.size) (hn : ∀ k, A.map (·.block) = some k → ¬ G k) : Rd w' B s A n xs :=
  ⟨hr.1, fun hp => by
    obtain ⟨b, o, e, hb, hc⟩ := hr.2 hp
    exact ⟨b, o, e, hb, fun j u hu => (T.cell (p := ⟨b, o + j, none⟩) (Nat.lt_of_lt_of_le hb hB) (hn b (by rw [e]; rfl))).trans (hc j u hu)⟩⟩
/-- Where a slice lies. -/
abbrev InS (P : Nat → Prop) (A : Option Addr) : Prop := ∀ k, A.map (·.block) = some k → P k
theorem InS.mono {P P' : Nat → Prop} {A : Option Addr} (h : InS P A) (hp : ∀ k, P k → P' k) : InS P' A := fun k hk => hp k (h k hk)
theorem OwT.low {w : World} {base c n : Nat} {A : Option Addr} {l : List Tm} (h : OwT w base A c n l) : InS (fun k => base ≤ k ∧ k < w.heap.size) A := fun k hk => World.ownsRow.lt h k (by rw [ownBlk_slice]; exact hk)

/-! ### Literals -/
abbrev LX := Li × SlA
theorem liC_len (X : List LX) : (X.flatMap liC).length = X.length * 3 := by
  induction X with
  | nil => rfl
  | cons x X ih => rw [List.flatMap_cons, List.length_append, ih, List.length_cons]; simp [liC]; omega
theorem liC_one (X : List LX) : ∀ u ∈ X.flatMap liC, u.oneCell' = true := by
  intro u hu
  obtain ⟨x, _, hx⟩ := List.mem_flatMap.1 hu
  simp only [liC, List.mem_cons, List.not_mem_nil, or_false] at hx
  rcases hx with rfl | rfl | rfl <;> rfl
theorem litInfo : (Try.prog.info? 38).map (fun i => (i.zero, i.size, i.bytes)) = some (some (.agg #[.bool false, .int .u32 0, .slice none 0 0]), 3, 40) := by kernel_rfl
def OwL (w : World) (base : Nat) (A : Option Addr) (c n : Nat) (X : List LX) : Prop := w.ownsRow base 38 3 (.slice A n c) n (X.flatMap liC)
section
variable {w w' : World} {base c n : Nat} {A : Option Addr} {X : List LX}
theorem OwL.len (h : OwL w base A c n X) : X.length = n := by
  have := h.1
  rw [liC_len] at this
  omega
theorem OwL.rd (h : OwL w base A c n X) : Rd w w.heap.size 3 A n (X.flatMap liC) := Rd.ofOwn h
theorem OwL.later (h : OwL w base A c n X) (hb : Below w.heap.size w w') : OwL w' base A c n X := ownBelow h hb (Nat.le_refl _)
theorem OwL.low (h : OwL w base A c n X) : InS (fun k => base ≤ k ∧ k < w.heap.size) A := fun k hk => World.ownsRow.lt h k (by rw [ownBlk_slice]; exact hk)
theorem OwL.nil (w : World) (base : Nat) : OwL w base none 0 0 [] := World.ownsRow_nil _ _ _ _
end
theorem rdL_of {w : World} {B n : Nat} {A : Option Addr} {X : List LX} (hr : Rd w B 3 A n (X.flatMap liC)) (hz : ∀ x ∈ X, RdT w B x.2.1 x.2.2.1 x.1.2.2) : RdL w B A n (X.map (·.2)) (X.map (·.1)) := by
  have hl : X.length = n := by have := hr.1; rw [liC_len] at this; omega
  refine ⟨by rw [List.length_map]; exact hl, by rw [List.length_map]; exact hl, ?_, fun i r x h1 h2 => ?_⟩
  · have : (X.map (·.1)).zip (X.map (·.2)) = X := by
      clear hr hz hl
      induction X with
      | nil => rfl
      | cons z Z ih => simp [ih]
    rw [this]
    exact hr
  · rw [List.getElem?_map] at h1 h2
    cases hz' : X[i]? with
    | none => rw [hz'] at h1; cases h1
    | some z =>
      rw [hz'] at h1 h2
      simp only [Option.map_some, Option.some.injEq] at h1 h2
      subst h1 h2
      exact hz z (List.mem_of_getElem? hz')
theorem run_litL (g : Bool) (p : UInt32) (A : Option Addr) (n c : Nat) (w : World) : (Instr.buildSlice 34 1 #[(0, .agg #[.bool g, nv p, .slice A n c])]).run Try.prog w = .ok (.slice (some ⟨w.heap.size, 0, none⟩) 1 1) (w.alloc (.cells #[.bool g, nv p, .slice A n c] 38)) := by
  obtain ⟨i0, hi, hz0, hz1, hz2⟩ := info_parts litInfo
  simp [Instr.buildSlice, run_underlying Try.underlying34, sizeOf, typeInfo, zeroValue, hi, hz0, hz1, newRow, Instr.fill]
  kernel_rfl
theorem litL_rd (g : Bool) (p : UInt32) (A : Option Addr) (n c : Nat) (l : List Tm) (w : World) : Rd (w.alloc (.cells #[.bool g, nv p, .slice A n c] 38)) (w.heap.size + 1) 3 (some ⟨w.heap.size, 0, none⟩) 1 ([(((g, p, l) : Li), ((A, n, c) : SlA))].flatMap liC) :=
  ⟨rfl, fun _ => ⟨_, _, rfl, by omega, fun j u hu => by
    rw [Nat.zero_add, cell_of_row _ _ j #[.bool g, nv p, .slice A n c] 38 (0, 0) (heap_alloc_new w _)]
    simpa [liC, SlA.val] using hu⟩⟩
theorem anyd_litL {ops : Array Oper} {E : Prop} {o : Oper} {a : Act} {w : World} {K : Act → World → Prop} {Q : Exit → Act → World → Prop} (hwant : Region.wanted o (yielded ops a.tmps) = true) (x : Operand)
    (ho : o.op = .buildSlice 34 1 #[(0, x)]) (g : Bool) (p : UInt32) (A : Option Addr) (n c : Nat) (hx : a.eval x = .agg #[.bool g, nv p, .slice A n c]) (l : List Tm)
    (h : ∀ V q, Rd V V.heap.size 3 (some ⟨q, 0, none⟩) 1 ([(((g, p, l) : Li), ((A, n, c) : SlA))].flatMap liC) → Below w.heap.size w V → K (a.put o.dst (.slice (some ⟨q, 0, none⟩) 1 1)) V) :
    if Region.wanted o (yielded ops a.tmps) = true then Oper.wp Try.prog o a w K Q else E := by
  rw [if_pos hwant]
  unfold Oper.wp execOp
  simp only [ho, Sem.run_bind, List.map_toArray, List.map_cons, List.map_nil, hx, run_litL, Result.andThen_ok]
  exact h _ _ ((litL_rd g p A n c l w).more (by simp)) ((Below.refl _ _).alloc (Nat.le_refl _) _)
/-- A row of literals of one's own, each with terms that lie elsewhere. -/
structure OutL (w : World) (base : Nat) (A : Option Addr) (c n : Nat) (X : List LX) : Prop where
  own : OwL w base A c n X
  rows : ∀ x ∈ X, RdT w w.heap.size x.2.1 x.2.2.1 x.1.2.2
  apart : ∀ x ∈ X, InS (fun b => base ≤ b ∧ b < w.heap.size ∧ ¬ A.map (·.block) = some b) x.2.1
section
variable {w w' : World} {base c n : Nat} {A : Option Addr} {X : List LX}
theorem OutL.nil (w : World) (base : Nat) : OutL w base none 0 0 [] := ⟨OwL.nil _ _, (fun x h => by cases h), (fun x h => by cases h)⟩
theorem OutL.later (h : OutL w base A c n X) (hb : Below w.heap.size w w') : OutL w' base A c n X :=
  ⟨h.own.later hb, fun x hx => Rd.more (Rd.below (h.rows x hx) hb) hb.size, fun x hx => (h.apart x hx).mono fun k hk => ⟨hk.1, Nat.lt_of_lt_of_le hk.2.1 hb.size, hk.2.2⟩⟩
/-- .. where a block of another kind is turned. -/
theorem OutL.turn (h : OutL w base A c n X) {g : Nat} (T : Turn (fun k => k = g) w w') (hg : g < base) : OutL w' base A c n X :=
  ⟨T.own h.own (fun k hk e => by have := (World.ownsRow.lt h.own k hk).1; omega), fun x hx => Rd.more ((h.rows x hx).turn T (Nat.le_refl _) (fun k hk e => by have := (h.apart x hx k hk).1; omega)) T.size, fun x hx => (h.apart x hx).mono fun k hk => ⟨hk.1, Nat.lt_of_lt_of_le hk.2.1 T.size, hk.2.2⟩⟩
/-- .. one more. -/
theorem OutL.app (h : OutL w base A c n X) {A' : Option Addr} {c' : Nat} {z : LX} (hz : RdT w w.heap.size z.2.1 z.2.2.1 z.1.2.2) (hp : InS (fun b => base ≤ b ∧ b < w.heap.size ∧ ¬ A.map (·.block) = some b) z.2.1)
    (ho : OwL w' base A' c' (n + 1) (X ++ [z])) (T : Turn (fun k => A.map (·.block) = some k) w w') (hA : A'.map (·.block) = A.map (·.block) ∨ A'.map (·.block) = some w.heap.size) : OutL w' base A' c' (n + 1) (X ++ [z]) := by
  have hall : ∀ x ∈ X ++ [z], RdT w w.heap.size x.2.1 x.2.2.1 x.1.2.2 ∧ InS (fun b => base ≤ b ∧ b < w.heap.size ∧ ¬ A.map (·.block) = some b) x.2.1 := fun x hx => by
    rcases List.mem_append.1 hx with hx | hx
    · exact ⟨h.rows x hx, h.apart x hx⟩
    · rw [List.mem_singleton] at hx
      subst hx
      exact ⟨hz, hp⟩
  refine ⟨ho, fun x hx => ?_, fun x hx k hk => ?_⟩
  · obtain ⟨h1, h2⟩ := hall x hx
    exact Rd.more (h1.turn T (Nat.le_refl _) (fun k hk e => (h2 k hk).2.2 e)) T.size
  · obtain ⟨h1, h2⟩ := hall x hx
    obtain ⟨q1, q2, q3⟩ := h2 k hk
    refine ⟨q1, Nat.lt_of_lt_of_le q2 T.size, fun e => ?_⟩
    rcases hA with hA | hA
    · exact q3 (hA ▸ e)
    · rw [hA] at e
      cases e
      omega
end
theorem wp_appL {o : Oper} {a : Act} {K : Act → World → Prop} {Q : Exit → Act → World → Prop} (w : World) (p x : Operand)
    (ho : o.op = .call { callee := .builtin .append, args := #[p, x], argTypes := #[34, 34] })
    (base : Nat) (A0 : Option Addr) (c0 n : Nat) (X : List LX) (hv : a.eval p = .slice A0 n c0) (hown : OutL w base A0 c0 n X)
    (B : Nat) (A : Option Addr) (c : Nat) (z : LX) (hx : a.eval x = .slice A 1 c) (hr : Rd w B 3 A 1 ([z].flatMap liC)) (hb : n ≤ 1000000) (hbase : base ≤ w.heap.size)
    (hz : RdT w w.heap.size z.2.1 z.2.2.1 z.1.2.2) (hp : InS (fun b => base ≤ b ∧ b < w.heap.size ∧ ¬ A0.map (·.block) = some b) z.2.1)
    (h : ∀ A' c' w', OutL w' base A' c' (n + 1) (X ++ [z]) → Turn (fun k => A0.map (·.block) = some k) w w' → K (a.put o.dst (.slice A' (n + 1) c')) w') : o.wp Try.prog a w K Q := by
  obtain ⟨i0, hi, hz0, hz1, hz2⟩ := info_parts litInfo
  refine wp_app w p x 34 ho base 38 i0 _ 3 40 Try.underlying34 hi hz0 hz1 hz2 rfl (by decide) _ n _ hv hown.own B A 1 c _ hx hr (liC_one [z]) (by simp only [maxLen]; omega) (by omega) hbase ?_
  intro A' c' w' h4 h2 h3
  rw [ownBlk_slice, ownBlk_slice] at h3
  have T : Turn (fun k => A0.map (·.block) = some k) w w' := Turn.ofGrown h2 fun k hk => by rw [ownBlk_slice] at hk; exact hk
  exact h A' c' w' (hown.app hz hp (by unfold OwL; rw [List.flatMap_append]; exact h4) T h3) T
theorem anyd_appL {ops : Array Oper} {E : Prop} {o : Oper} {a : Act} {K : Act → World → Prop} {Q : Exit → Act → World → Prop} {w : World} (hwant : Region.wanted o (yielded ops a.tmps) = true) (p x : Operand)
    (ho : o.op = .call { callee := .builtin .append, args := #[p, x], argTypes := #[34, 34] })
    (base : Nat) (A0 : Option Addr) (c0 n : Nat) (X : List LX) (hv : a.eval p = .slice A0 n c0) (hown : OutL w base A0 c0 n X)
    (B : Nat) (A : Option Addr) (c : Nat) (z : LX) (hx : a.eval x = .slice A 1 c) (hr : Rd w B 3 A 1 ([z].flatMap liC)) (hb : n ≤ 1000000) (hbase : base ≤ w.heap.size)
    (hz : RdT w w.heap.size z.2.1 z.2.2.1 z.1.2.2) (hp : InS (fun b => base ≤ b ∧ b < w.heap.size ∧ ¬ A0.map (·.block) = some b) z.2.1)
    (h : ∀ A' c' w', OutL w' base A' c' (n + 1) (X ++ [z]) → Turn (fun k => A0.map (·.block) = some k) w w' → K (a.put o.dst (.slice A' (n + 1) c')) w') :
    if Region.wanted o (yielded ops a.tmps) = true then Oper.wp Try.prog o a w K Q else E := by
  rw [if_pos hwant]
  exact wp_appL w p x ho base A0 c0 n X hv hown B A c z hx hr hb hbase hz hp h

/-! ### Clauses -/
def InZ (P : Nat → Prop) (z : ZC) : Prop := InS P z.2.1.1 ∧ InS P z.2.2.1.1 ∧ ∀ r ∈ z.2.2.2, InS P r.1
theorem InZ.mono {P P' : Nat → Prop} {z : ZC} (h : InZ P z) (hp : ∀ k, P k → P' k) : InZ P' z := ⟨h.1.mono hp, h.2.1.mono hp, fun r hr => (h.2.2 r hr).mono hp⟩
def RowOf (w : World) (B : Nat) (z : ZC) : Prop := RdT w B z.2.1.1 z.2.1.2.1 z.1.1.2 ∧ RdL w B z.2.2.1.1 z.2.2.1.2.1 z.2.2.2 z.1.2
theorem RowOf.turn {w w' : World} {B : Nat} {z : ZC} {G : Nat → Prop} (h : RowOf w B z) (T : Turn G w w') (hB : B ≤ w.heap.size) (hn : InZ (fun k => ¬ G k) z) : RowOf w' B z :=
  ⟨h.1.turn T hB hn.1, h.2.lenR, h.2.lenL, h.2.top.turn T hB hn.2.1, fun i r x h1 h2 => (h.2.row i r x h1 h2).turn T hB (hn.2.2 r (List.mem_of_getElem? h1))⟩
/-- A row of clauses of one's own, each with rows that lie elsewhere. -/
structure OutZ (w : World) (base : Nat) (A : Option Addr) (c n : Nat) (Z : List ZC) : Prop where
  own : OwC w base A c n Z
  rows : RowZ w w.heap.size Z
  apart : ∀ z ∈ Z, InZ (fun b => b < w.heap.size ∧ ¬ A.map (·.block) = some b) z
section
variable {w w' : World} {base c n : Nat} {A : Option Addr} {Z : List ZC}
theorem OutZ.nil (w : World) (base : Nat) : OutZ w base none 0 0 [] := ⟨World.ownsRow_nil _ _ _ _, RowZ.nil, (fun x h => by cases h)⟩
theorem OutZ.later (h : OutZ w base A c n Z) (hb : Below w.heap.size w w') : OutZ w' base A c n Z :=
  ⟨h.own.later hb, (h.rows.below hb).more hb.size, fun x hx => (h.apart x hx).mono fun k hk => ⟨Nat.lt_of_lt_of_le hk.1 hb.size, hk.2⟩⟩
theorem OutZ.app (h : OutZ w base A c n Z) {A' : Option Addr} {c' : Nat} {z : ZC} (hz : RowOf w w.heap.size z) (hp : InZ (fun b => b < w.heap.size ∧ ¬ A.map (·.block) = some b) z)
    (ho : OwC w' base A' c' (n + 1) (Z ++ [z])) (T : Turn (fun k => A.map (·.block) = some k) w w') (hA : A'.map (·.block) = A.map (·.block) ∨ A'.map (·.block) = some w.heap.size) : OutZ w' base A' c' (n + 1) (Z ++ [z]) := by
  have hall : ∀ x ∈ Z ++ [z], RowOf w w.heap.size x ∧ InZ (fun b => b < w.heap.size ∧ ¬ A.map (·.block) = some b) x := fun x hx => by
    rcases List.mem_append.1 hx with hx | hx
    · exact ⟨h.rows x hx, h.apart x hx⟩
    · rw [List.mem_singleton] at hx
      subst hx
      exact ⟨hz, hp⟩
  refine ⟨ho, fun x hx => ?_, fun x hx => ?_⟩
  · obtain ⟨h1, h2⟩ := hall x hx
    have h3 := h1.turn T (Nat.le_refl _) (h2.mono fun k hk => hk.2)
    exact ⟨Rd.more h3.1 T.size, h3.2.more T.size⟩
  · obtain ⟨h1, h2⟩ := hall x hx
    refine h2.mono fun k hk => ⟨Nat.lt_of_lt_of_le hk.1 T.size, fun e => ?_⟩
    rcases hA with hA | hA
    · exact hk.2 (hA ▸ e)
    · rw [hA] at e
      cases e
      omega
end
/-! ### Facts -/
theorem factInfo : (Try.prog.info? 43).map (fun i => (i.zero, i.size, i.bytes)) = some (some (.agg #[.int .u32 0, .slice none 0 0]), 2, 32) := by kernel_rfl
def OwFa (w : World) (base : Nat) (A : Option Addr) (c n : Nat) (X : List AtR) : Prop := w.ownsRow base 43 2 (.slice A n c) n (X.flatMap atC)
section
variable {w w' : World} {base c n : Nat} {A : Option Addr} {X : List AtR}
theorem OwFa.len (h : OwFa w base A c n X) : X.length = n := by
  have := h.1
  rw [atC_len] at this
  omega
theorem OwFa.rd (h : OwFa w base A c n X) : Rd w w.heap.size 2 A n (X.flatMap atC) := Rd.ofOwn h
theorem OwFa.later (h : OwFa w base A c n X) (hb : Below w.heap.size w w') : OwFa w' base A c n X := ownBelow h hb (Nat.le_refl _)
theorem OwFa.low (h : OwFa w base A c n X) : InS (fun k => base ≤ k ∧ k < w.heap.size) A := fun k hk => World.ownsRow.lt h k (by rw [ownBlk_slice]; exact hk)
end
theorem run_litF (p : UInt32) (A : Option Addr) (n c : Nat) (w : World) : (Instr.buildSlice 23 1 #[(0, .agg #[nv p, .slice A n c])]).run Try.prog w = .ok (.slice (some ⟨w.heap.size, 0, none⟩) 1 1) (w.alloc (.cells #[nv p, .slice A n c] 43)) := by
  obtain ⟨i0, hi, hz0, hz1, hz2⟩ := info_parts factInfo
  simp [Instr.buildSlice, run_underlying Try.underlying23, sizeOf, typeInfo, zeroValue, hi, hz0, hz1, newRow, Instr.fill]
  kernel_rfl
theorem litF_rd (p : UInt32) (A : Option Addr) (n c : Nat) (w : World) : Rd (w.alloc (.cells #[nv p, .slice A n c] 43)) (w.heap.size + 1) 2 (some ⟨w.heap.size, 0, none⟩) 1 ([((p, (A, n, c)) : AtR)].flatMap atC) :=
  ⟨rfl, fun _ => ⟨_, _, rfl, by omega, fun j u hu => by
    rw [Nat.zero_add, cell_of_row _ _ j #[nv p, .slice A n c] 43 (0, 0) (heap_alloc_new w _)]
    simpa [atC, SlA.val] using hu⟩⟩
theorem anyd_litF {ops : Array Oper} {E : Prop} {o : Oper} {a : Act} {w : World} {K : Act → World → Prop} {Q : Exit → Act → World → Prop} (hwant : Region.wanted o (yielded ops a.tmps) = true) (x : Operand)
    (ho : o.op = .buildSlice 23 1 #[(0, x)]) (p : UInt32) (A : Option Addr) (n c : Nat) (hx : a.eval x = .agg #[nv p, .slice A n c])
    (h : ∀ V q, Rd V V.heap.size 2 (some ⟨q, 0, none⟩) 1 ([((p, (A, n, c)) : AtR)].flatMap atC) → Below w.heap.size w V → K (a.put o.dst (.slice (some ⟨q, 0, none⟩) 1 1)) V) :
    if Region.wanted o (yielded ops a.tmps) = true then Oper.wp Try.prog o a w K Q else E := by
  rw [if_pos hwant]
  unfold Oper.wp execOp
  simp only [ho, Sem.run_bind, List.map_toArray, List.map_cons, List.map_nil, hx, run_litF, Result.andThen_ok]
  exact h _ _ ((litF_rd p A n c w).more (by simp)) ((Below.refl _ _).alloc (Nat.le_refl _) _)
theorem anyd_appF {ops : Array Oper} {E : Prop} {o : Oper} {a : Act} {K : Act → World → Prop} {Q : Exit → Act → World → Prop} {w : World} (hwant : Region.wanted o (yielded ops a.tmps) = true) (p x : Operand)
    (ho : o.op = .call { callee := .builtin .append, args := #[p, x], argTypes := #[23, 23] })
    (base : Nat) (A0 : Option Addr) (c0 n : Nat) (X : List AtR) (hv : a.eval p = .slice A0 n c0) (hown : OwFa w base A0 c0 n X)
    (B : Nat) (A : Option Addr) (m c : Nat) (Y : List AtR) (hx : a.eval x = .slice A m c) (hr : Rd w B 2 A m (Y.flatMap atC)) (hb : n + m ≤ 1000000000000) (hbase : base ≤ w.heap.size)
    (h : ∀ A' c' w', OwFa w' base A' c' (n + m) (X ++ Y) → Turn (fun k => A0.map (·.block) = some k) w w' → K (a.put o.dst (.slice A' (n + m) c')) w') :
    if Region.wanted o (yielded ops a.tmps) = true then Oper.wp Try.prog o a w K Q else E := by
  rw [if_pos hwant]
  obtain ⟨i0, hi, hz0, hz1, hz2⟩ := info_parts factInfo
  refine wp_app w p x 23 ho base 43 i0 _ 2 32 Try.underlying23 hi hz0 hz1 hz2 rfl (by decide) _ n _ hv hown B A m c _ hx hr (atC_one Y) (by simp only [maxLen]; omega) (by omega) hbase ?_
  intro A' c' w' h4 h2 h3
  exact h A' c' w' (by unfold OwFa; rw [List.flatMap_append]; exact h4) (Turn.ofGrown h2 fun k hk => by rw [ownBlk_slice] at hk; exact hk)
/-- Loads and stores of slices of literals in drawn regions. -/
theorem anyd_ldL {ops : Array Oper} {E : Prop} {o : Oper} {a : Act} {K : Act → World → Prop} {Q : Exit → Act → World → Prop} {w : World} (hwant : Region.wanted o (yielded ops a.tmps) = true) (x : Operand)
    (ho : o.op = .load 34 x) (b i : Nat) (v : Value) (hx : a.eval x = .pointer (some ⟨b, i, none⟩)) (hc : w.cell? ⟨b, i, none⟩ = some v)
    (h : K (a.put o.dst v) w) : if Region.wanted o (yielded ops a.tmps) = true then Oper.wp Try.prog o a w K Q else E := by
  rw [if_pos hwant]
  unfold Oper.wp execOp
  simp only [ho, hx]
  go_simp
  exact h
theorem anyd_stL {ops : Array Oper} {E : Prop} {o : Oper} {a : Act} {K : Act → World → Prop} {Q : Exit → Act → World → Prop} {w : World} (hwant : Region.wanted o (yielded ops a.tmps) = true) (x y : Operand)
    (ho : o.op = .store 34 x y) (b i : Nat) (u : Value) (A : Option Addr) (n c : Nat) (hx : a.eval x = .pointer (some ⟨b, i, none⟩)) (hy : a.eval y = .slice A n c) (hc : w.cell? ⟨b, i, none⟩ = some u) (hf : w.frozen? ⟨b, i, none⟩ = false)
    (h : K (a.put o.dst undef) (w.setCell ⟨b, i, none⟩ (.slice A n c))) : if Region.wanted o (yielded ops a.tmps) = true then Oper.wp Try.prog o a w K Q else E := by
  rw [if_pos hwant]
  unfold Oper.wp execOp
  simp only [ho, hx, hy]
  go_simp
  exact h
end Go.Proofs.Ytggnhgfickkgdaa
