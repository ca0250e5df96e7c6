/- Texts, packed: SbD SbE SfB SfS SfU SfT SfC -/
import Derived.Test.YtfmghkplafploaaPwB
import Derived.Great.BuildSlice
import Derived.WalkKit
import Derived.Test.YtfmghkplafploaaPwP
import Derived.Test.YtfmghkplafploaaPwG
import Derived.Test.YtfmghkplafploaaRows
import Derived.Lib.SliceRun
set_option linter.unusedVariables false
set_option linter.unusedSimpArgs false
namespace Go.Proofs.Ytfmghkplafploaa
open Go Go.RowKit

abbrev OwT (w : World) (base : Nat) (A : Option Addr) (c n : Nat) (l : List Tm) : Prop := w.ownsRow base 126 2 (.slice A n c) n (tmCs l)
section
variable {w w' : World} {base : Nat} {A : Option Addr} {c n : Nat}
theorem OwT.rd {l : List Tm} (h : OwT w base A c n l) : RdT w w.heap.size A n l := Rd.ofOwn h
theorem OwT.cap {l : List Tm} (h : OwT w base A c n l) : n ≤ c := by
  obtain ⟨A1, c1, hv, hl⟩ := ownForm h
  cases hv
  exact hl
end
end Go.Proofs.Ytfmghkplafploaa

set_option linter.unusedVariables false
set_option linter.unusedSimpArgs false
namespace Go.Proofs.Ytfmghkplafploaa
open Go Go.RowKit

theorem Rd.turn {G : Nat → Prop} {w w' : World} {B s n : Nat} {A : Option Addr} {xs : List Value} (hr : Rd w B s A n xs) (T : Turn G w w') (hB : B ≤ w.heap.size) (hn : ∀ k, A.map (·.block) = some k → ¬ G k) : Rd w' B s A n xs :=
  ⟨hr.1, fun hp => by
    obtain ⟨b, o, e, hb, hc⟩ := hr.2 hp
    exact ⟨b, o, e, hb, fun j u hu => (T.cell (p := ⟨b, o + j, none⟩) (Nat.lt_of_lt_of_le hb hB) (hn b (by rw [e]; rfl))).trans (hc j u hu)⟩⟩
/-- Where a slice lies. -/
abbrev InS (P : Nat → Prop) (A : Option Addr) : Prop := ∀ k, A.map (·.block) = some k → P k
theorem InS.mono {P P' : Nat → Prop} {A : Option Addr} (h : InS P A) (hp : ∀ k, P k → P' k) : InS P' A := fun k hk => hp k (h k hk)
theorem OwT.low {w : World} {base c n : Nat} {A : Option Addr} {l : List Tm} (h : OwT w base A c n l) : InS (fun k => base ≤ k ∧ k < w.heap.size) A := fun k hk => World.ownsRow.lt h k (by rw [ownBlk_slice]; exact hk)

/-! ### Literals -/
abbrev LX := Li × SlA
theorem liC_len (X : List LX) : (X.flatMap liC).length = X.length * 3 := by
  induction X with
  | nil => rfl
  | cons x X ih => rw [List.flatMap_cons, List.length_append, ih, List.length_cons]; simp [liC]; omega
theorem liC_one (X : List LX) : ∀ u ∈ X.flatMap liC, u.oneCell' = true := by
  intro u hu
  obtain ⟨x, _, hx⟩ := List.mem_flatMap.1 hu
  simp only [liC, List.mem_cons, List.not_mem_nil, or_false] at hx
  rcases hx with rfl | rfl | rfl <;> rfl
theorem litInfo : (Try.prog.info? 33).map (fun i => (i.zero, i.size, i.bytes)) = some (some (.agg #[.bool false, .int .u32 0, .slice none 0 0]), 3, 40) := by kernel_rfl
def OwL (w : World) (base : Nat) (A : Option Addr) (c n : Nat) (X : List LX) : Prop := w.ownsRow base 33 3 (.slice A n c) n (X.flatMap liC)
section
variable {w w' : World} {base c n : Nat} {A : Option Addr} {X : List LX}
theorem OwL.len (h : OwL w base A c n X) : X.length = n := by
  have := h.1
  rw [liC_len] at this
  omega
theorem OwL.rd (h : OwL w base A c n X) : Rd w w.heap.size 3 A n (X.flatMap liC) := Rd.ofOwn h
theorem OwL.later (h : OwL w base A c n X) (hb : Below w.heap.size w w') : OwL w' base A c n X := ownBelow h hb (Nat.le_refl _)
theorem OwL.low (h : OwL w base A c n X) : InS (fun k => base ≤ k ∧ k < w.heap.size) A := fun k hk => World.ownsRow.lt h k (by rw [ownBlk_slice]; exact hk)
theorem OwL.nil (w : World) (base : Nat) : OwL w base none 0 0 [] := World.ownsRow_nil _ _ _ _
end
theorem rdL_of {w : World} {B n : Nat} {A : Option Addr} {X : List LX} (hr : Rd w B 3 A n (X.flatMap liC)) (hz : ∀ x ∈ X, RdT w B x.2.1 x.2.2.1 x.1.2.2) : RdL w B A n (X.map (·.2)) (X.map (·.1)) := by
  have hl : X.length = n := by have := hr.1; rw [liC_len] at this; omega
  refine ⟨by rw [List.length_map]; exact hl, by rw [List.length_map]; exact hl, ?_, fun i r x h1 h2 => ?_⟩
  · have : (X.map (·.1)).zip (X.map (·.2)) = X := by
      clear hr hz hl
      induction X with
      | nil => rfl
      | cons z Z ih => simp [ih]
    rw [this]
    exact hr
  · rw [List.getElem?_map] at h1 h2
    cases hz' : X[i]? with
    | none => rw [hz'] at h1; cases h1
    | some z =>
      rw [hz'] at h1 h2
      simp only [Option.map_some, Option.some.injEq] at h1 h2
      subst h1 h2
      exact hz z (List.mem_of_getElem? hz')
theorem run_litL (g : Bool) (p : UInt32) (A : Option Addr) (n c : Nat) (w : World) : (Instr.buildSlice 29 1 #[(0, .agg #[.bool g, nv p, .slice A n c])]).run Try.prog w = .ok (.slice (some ⟨w.heap.size, 0, none⟩) 1 1) (w.alloc (.cells #[.bool g, nv p, .slice A n c] 33)) := by
  obtain ⟨i0, hi, hz0, hz1, hz2⟩ := info_parts litInfo
  simp [Instr.buildSlice, run_underlying Try.underlying29, sizeOf, typeInfo, zeroValue, hi, hz0, hz1, newRow, Instr.fill]
  kernel_rfl
theorem litL_rd (g : Bool) (p : UInt32) (A : Option Addr) (n c : Nat) (l : List Tm) (w : World) : Rd (w.alloc (.cells #[.bool g, nv p, .slice A n c] 33)) (w.heap.size + 1) 3 (some ⟨w.heap.size, 0, none⟩) 1 ([(((g, p, l) : Li), ((A, n, c) : SlA))].flatMap liC) :=
  ⟨rfl, fun _ => ⟨_, _, rfl, by omega, fun j u hu => by
    rw [Nat.zero_add, cell_of_row _ _ j #[.bool g, nv p, .slice A n c] 33 (0, 0) (heap_alloc_new w _)]
    simpa [liC, SlA.val] using hu⟩⟩
theorem anyd_litL {ops : Array Oper} {E : Prop} {o : Oper} {a : Act} {w : World} {K : Act → World → Prop} {Q : Exit → Act → World → Prop} (hwant : Region.wanted o (yielded ops a.tmps) = true) (x : Operand)
    (ho : o.op = .buildSlice 29 1 #[(0, x)]) (g : Bool) (p : UInt32) (A : Option Addr) (n c : Nat) (hx : a.eval x = .agg #[.bool g, nv p, .slice A n c]) (l : List Tm)
    (h : ∀ V q, Rd V V.heap.size 3 (some ⟨q, 0, none⟩) 1 ([(((g, p, l) : Li), ((A, n, c) : SlA))].flatMap liC) → Below w.heap.size w V → K (a.put o.dst (.slice (some ⟨q, 0, none⟩) 1 1)) V) :
    if Region.wanted o (yielded ops a.tmps) = true then Oper.wp Try.prog o a w K Q else E := by
  rw [if_pos hwant]
  unfold Oper.wp execOp
  simp only [ho, Sem.run_bind, List.map_toArray, List.map_cons, List.map_nil, hx, run_litL, Result.andThen_ok]
  exact h _ _ ((litL_rd g p A n c l w).more (by simp)) ((Below.refl _ _).alloc (Nat.le_refl _) _)
/-- A row of literals of one's own, each with terms that lie elsewhere. -/
structure OutL (w : World) (base : Nat) (A : Option Addr) (c n : Nat) (X : List LX) : Prop where
  own : OwL w base A c n X
  rows : ∀ x ∈ X, RdT w w.heap.size x.2.1 x.2.2.1 x.1.2.2
  apart : ∀ x ∈ X, InS (fun b => base ≤ b ∧ b < w.heap.size ∧ ¬ A.map (·.block) = some b) x.2.1
section
variable {w w' : World} {base c n : Nat} {A : Option Addr} {X : List LX}
theorem OutL.nil (w : World) (base : Nat) : OutL w base none 0 0 [] := ⟨OwL.nil _ _, (fun x h => by cases h), (fun x h => by cases h)⟩
theorem OutL.later (h : OutL w base A c n X) (hb : Below w.heap.size w w') : OutL w' base A c n X :=
  ⟨h.own.later hb, fun x hx => Rd.more (Rd.below (h.rows x hx) hb) hb.size, fun x hx => (h.apart x hx).mono fun k hk => ⟨hk.1, Nat.lt_of_lt_of_le hk.2.1 hb.size, hk.2.2⟩⟩
/-- .. where a block of another kind is turned. -/
theorem OutL.turn (h : OutL w base A c n X) {g : Nat} (T : Turn (fun k => k = g) w w') (hg : g < base) : OutL w' base A c n X :=
  ⟨T.own h.own (fun k hk e => by have := (World.ownsRow.lt h.own k hk).1; omega), fun x hx => Rd.more ((h.rows x hx).turn T (Nat.le_refl _) (fun k hk e => by have := (h.apart x hx k hk).1; omega)) T.size, fun x hx => (h.apart x hx).mono fun k hk => ⟨hk.1, Nat.lt_of_lt_of_le hk.2.1 T.size, hk.2.2⟩⟩
/-- .. one more. -/
theorem OutL.app (h : OutL w base A c n X) {A' : Option Addr} {c' : Nat} {z : LX} (hz : RdT w w.heap.size z.2.1 z.2.2.1 z.1.2.2) (hp : InS (fun b => base ≤ b ∧ b < w.heap.size ∧ ¬ A.map (·.block) = some b) z.2.1)
    (ho : OwL w' base A' c' (n + 1) (X ++ [z])) (T : Turn (fun k => A.map (·.block) = some k) w w') (hA : A'.map (·.block) = A.map (·.block) ∨ A'.map (·.block) = some w.heap.size) : OutL w' base A' c' (n + 1) (X ++ [z]) := by
  have hall : ∀ x ∈ X ++ [z], RdT w w.heap.size x.2.1 x.2.2.1 x.1.2.2 ∧ InS (fun b => base ≤ b ∧ b < w.heap.size ∧ ¬ A.map (·.block) = some b) x.2.1 := fun x hx => by
    rcases List.mem_append.1 hx with hx | hx
    · exact ⟨h.rows x hx, h.apart x hx⟩
    · rw [List.mem_singleton] at hx
      subst hx
      exact ⟨hz, hp⟩
  refine ⟨ho, fun x hx => ?_, fun x hx k hk => ?_⟩
  · obtain ⟨h1, h2⟩ := hall x hx
    exact Rd.more (h1.turn T (Nat.le_refl _) (fun k hk e => (h2 k hk).2.2 e)) T.size
  · obtain ⟨h1, h2⟩ := hall x hx
    obtain ⟨q1, q2, q3⟩ := h2 k hk
    refine ⟨q1, Nat.lt_of_lt_of_le q2 T.size, fun e => ?_⟩
    rcases hA with hA | hA
    · exact q3 (hA ▸ e)
    · rw [hA] at e
      cases e
      omega
end
/-! ### Clauses -/
def InZ (P : Nat → Prop) (z : ZC) : Prop := InS P z.2.1.1 ∧ InS P z.2.2.1.1 ∧ ∀ r ∈ z.2.2.2, InS P r.1
theorem InZ.mono {P P' : Nat → Prop} {z : ZC} (h : InZ P z) (hp : ∀ k, P k → P' k) : InZ P' z := ⟨h.1.mono hp, h.2.1.mono hp, fun r hr => (h.2.2 r hr).mono hp⟩
def RowOf (w : World) (B : Nat) (z : ZC) : Prop := RdT w B z.2.1.1 z.2.1.2.1 z.1.1.2 ∧ RdL w B z.2.2.1.1 z.2.2.1.2.1 z.2.2.2 z.1.2
theorem RowOf.turn {w w' : World} {B : Nat} {z : ZC} {G : Nat → Prop} (h : RowOf w B z) (T : Turn G w w') (hB : B ≤ w.heap.size) (hn : InZ (fun k => ¬ G k) z) : RowOf w' B z :=
  ⟨h.1.turn T hB hn.1, h.2.lenR, h.2.lenL, h.2.top.turn T hB hn.2.1, fun i r x h1 h2 => (h.2.row i r x h1 h2).turn T hB (hn.2.2 r (List.mem_of_getElem? h1))⟩
/-- A row of clauses of one's own, each with rows that lie elsewhere. -/
structure OutZ (w : World) (base : Nat) (A : Option Addr) (c n : Nat) (Z : List ZC) : Prop where
  own : OwC w base A c n Z
  rows : RowZ w w.heap.size Z
  apart : ∀ z ∈ Z, InZ (fun b => b < w.heap.size ∧ ¬ A.map (·.block) = some b) z
section
variable {w w' : World} {base c n : Nat} {A : Option Addr} {Z : List ZC}
theorem OutZ.nil (w : World) (base : Nat) : OutZ w base none 0 0 [] := ⟨World.ownsRow_nil _ _ _ _, RowZ.nil, (fun x h => by cases h)⟩
theorem OutZ.later (h : OutZ w base A c n Z) (hb : Below w.heap.size w w') : OutZ w' base A c n Z :=
  ⟨h.own.later hb, (h.rows.below hb).more hb.size, fun x hx => (h.apart x hx).mono fun k hk => ⟨Nat.lt_of_lt_of_le hk.1 hb.size, hk.2⟩⟩
theorem OutZ.app (h : OutZ w base A c n Z) {A' : Option Addr} {c' : Nat} {z : ZC} (hz : RowOf w w.heap.size z) (hp : InZ (fun b => b < w.heap.size ∧ ¬ A.map (·.block) = some b) z)
    (ho : OwC w' base A' c' (n + 1) (Z ++ [z])) (T : Turn (fun k => A.map (·.block) = some k) w w') (hA : A'.map (·.block) = A.map (·.block) ∨ A'.map (·.block) = some w.heap.size) : OutZ w' base A' c' (n + 1) (Z ++ [z]) := by
  have hall : ∀ x ∈ Z ++ [z], RowOf w w.heap.size x ∧ InZ (fun b => b < w.heap.size ∧ ¬ A.map (·.block) = some b) x := fun x hx => by
    rcases List.mem_append.1 hx with hx | hx
    · exact ⟨h.rows x hx, h.apart x hx⟩
    · rw [List.mem_singleton] at hx
      subst hx
      exact ⟨hz, hp⟩
  refine ⟨ho, fun x hx => ?_, fun x hx => ?_⟩
  · obtain ⟨h1, h2⟩ := hall x hx
    have h3 := h1.turn T (Nat.le_refl _) (h2.mono fun k hk => hk.2)
    exact ⟨Rd.more h3.1 T.size, h3.2.more T.size⟩
  · obtain ⟨h1, h2⟩ := hall x hx
    refine h2.mono fun k hk => ⟨Nat.lt_of_lt_of_le hk.1 T.size, fun e => ?_⟩
    rcases hA with hA | hA
    · exact hk.2 (hA ▸ e)
    · rw [hA] at e
      cases e
      omega
end
/-! ### Facts -/
def OwFa (w : World) (base : Nat) (A : Option Addr) (c n : Nat) (X : List AtR) : Prop := w.ownsRow base 48 2 (.slice A n c) n (X.flatMap atC)
section
variable {w w' : World} {base c n : Nat} {A : Option Addr} {X : List AtR}
theorem OwFa.len (h : OwFa w base A c n X) : X.length = n := by
  have := h.1
  rw [atC_len] at this
  omega
theorem OwFa.rd (h : OwFa w base A c n X) : Rd w w.heap.size 2 A n (X.flatMap atC) := Rd.ofOwn h
theorem OwFa.later (h : OwFa w base A c n X) (hb : Below w.heap.size w w') : OwFa w' base A c n X := ownBelow h hb (Nat.le_refl _)
theorem OwFa.low (h : OwFa w base A c n X) : InS (fun k => base ≤ k ∧ k < w.heap.size) A := fun k hk => World.ownsRow.lt h k (by rw [ownBlk_slice]; exact hk)
end
/-- Loads and stores of slices of literals in drawn regions. -/
theorem anyd_ldL {ops : Array Oper} {E : Prop} {o : Oper} {a : Act} {K : Act → World → Prop} {Q : Exit → Act → World → Prop} {w : World} (hwant : Region.wanted o (yielded ops a.tmps) = true) (x : Operand)
    (ho : o.op = .load 29 x) (b i : Nat) (v : Value) (hx : a.eval x = .pointer (some ⟨b, i, none⟩)) (hc : w.cell? ⟨b, i, none⟩ = some v)
    (h : K (a.put o.dst v) w) : if Region.wanted o (yielded ops a.tmps) = true then Oper.wp Try.prog o a w K Q else E := by
  rw [if_pos hwant]
  unfold Oper.wp execOp
  simp only [ho, hx]
  go_simp
  exact h
theorem anyd_stL {ops : Array Oper} {E : Prop} {o : Oper} {a : Act} {K : Act → World → Prop} {Q : Exit → Act → World → Prop} {w : World} (hwant : Region.wanted o (yielded ops a.tmps) = true) (x y : Operand)
    (ho : o.op = .store 29 x y) (b i : Nat) (u : Value) (A : Option Addr) (n c : Nat) (hx : a.eval x = .pointer (some ⟨b, i, none⟩)) (hy : a.eval y = .slice A n c) (hc : w.cell? ⟨b, i, none⟩ = some u) (hf : w.frozen? ⟨b, i, none⟩ = false)
    (h : K (a.put o.dst undef) (w.setCell ⟨b, i, none⟩ (.slice A n c))) : if Region.wanted o (yielded ops a.tmps) = true then Oper.wp Try.prog o a w K Q else E := by
  rw [if_pos hwant]
  unfold Oper.wp execOp
  simp only [ho, hx, hy]
  go_simp
  exact h
end Go.Proofs.Ytfmghkplafploaa

set_option linter.unusedVariables false
set_option linter.unusedSimpArgs false
namespace Go.Proofs.Ytfmghkplafploaa
open Go Go.RowKit

theorem belowStep {B : Nat} {w wr W2 : World} {o : Obj} (h : Below B w wr) (hB : B ≤ wr.heap.size) (h2 : Below (wr.alloc o).heap.size (wr.alloc o) W2) : Below B w W2 :=
  (h.alloc hB o).trans (h2.mono (by simp; omega))
set_option maxRecDepth 100000 in
set_option maxHeartbeats 4000000 in
theorem tMay_any (v : Bool) (x : UInt32) (w : World) :
    Calls Try.prog 65 #[.agg #[.bool v, nv x]] w fun e w' => e = .returned (.bool (!v || decide (x.toNat < 16))) ∧ Below w.heap.size w w' := by
  cases v with
  | false =>
    go_enter Try.func65, Try.ntmps65
    repeat (first | go_skip | go_guarded | go_step)
    go_ret
    exact ⟨rfl, (Below.refl _ _).alloc (Nat.le_refl _) _⟩
  | true =>
    by_cases h16 : x.toNat < 16
    · have d16 : decide ((x.toNat : Int) < 16) = true := by simp; omega
      have HM := Lib.hid (show decide (x.toNat < 16) = true by simp [h16])
      clear h16
      go_enter Try.func65, Try.ntmps65
      repeat (first | go_skip | go_guarded | go_step)
      go_ret
      exact ⟨by rw [HM.out]; rfl, (Below.refl _ _).alloc (Nat.le_refl _) _⟩
    · have d16 : decide ((x.toNat : Int) < 16) = false := by simp; omega
      have HM := Lib.hid (show decide (x.toNat < 16) = false by simp; omega)
      clear h16
      go_enter Try.func65, Try.ntmps65
      repeat (first | go_skip | go_guarded | go_step)
      go_ret
      exact ⟨by rw [HM.out]; rfl, (Below.refl _ _).alloc (Nat.le_refl _) _⟩
set_option maxRecDepth 100000 in
set_option maxHeartbeats 4000000 in
theorem aMay_any (p : UInt32) (A : Option Addr) (n c : Nat) (l : List Tm) (w : World) (h : RdT w w.heap.size A n l) (hn : n ≤ 1000000) :
    Calls Try.prog 40 #[.agg #[nv p, .slice A n c]] w fun e w' => e = .returned (.bool (mayA (p, l))) ∧ Below w.heap.size w w' := by
  have HL := Lib.hid (rdT_len h)
  obtain ⟨W, hW, hb, hbw⟩ : ∃ W, W = w.alloc (.cells #[nv p, .slice A n c] 28) ∧ Bk W w.heap.size 28 [nv p, .slice A n c] ∧ Below w.heap.size w W := ⟨_, rfl, Bk.new w _ _, (Below.refl _ _).alloc (Nat.le_refl _) _⟩
  have HR := Lib.hid (h.below hbw)
  have HW := Lib.hid hW
  have HB := Lib.hid hbw
  have c1 := hb.read (Below.refl _ _) 1 rfl
  clear h hW hb hbw
  go_enter Try.func40, Try.ntmps40
  go_upto_region 1 with (fail)
  rw [← HW.out]
  clear HW
  generalize hhb : w.heap.size = hb at HR HB c1 ⊢
  have hs0 : hb ≤ W.heap.size := by rw [← hhb]; exact (show Below w.heap.size w W by rw [hhb]; exact HB.out).size
  by_cases h6 : n ≤ 6
  · have d6 : decide ((6 : Int) < (n : Int)) = false := by simp; omega
    repeat (first | go_skip | go_guarded | go_step)
    go_loopw [12] (fun p wr => ∃ i : Nat, i ≤ n ∧ p = .int .i64 (i : Int) ∧ (l.take i).all (fun t => !t.1 || decide (t.2.toNat < 16)) = true ∧ Below W.heap.size W wr) (fun p _ => n - (intOf p).toNat)
    case atStart => exact ⟨0, by omega, rfl, by simp, Below.refl _ _⟩
    case round =>
      obtain ⟨i, hi, rfl, hal, hbr⟩ := hrel
      have HAL := Lib.hid hal
      have HBR := Lib.hid hbr
      have hsr := hbr.size
      clear hal hbr
      by_cases hlt : i < n
      · have hci : (i : Int) < (n : Int) := by omega
        obtain ⟨b, o, ⟨v, x⟩, hA, hbb, ht, hc0, hc1⟩ := rdT_at (HR.out.below (HBR.out.mono hs0)) hlt
        subst hA
        dsimp only at hc0 hc1
        have HT := Lib.hid ht
        clear ht c1
        repeat (first | go_skip | go_guarded | go_step)
        refine (tMay_any v x _).mono ?_
        rintro e W2 ⟨rfl, hb2⟩
        have HB2 := Lib.hid (belowStep HBR.out hsr hb2)
        clear hb2 hc0 hc1
        dsimp only
        generalize hm : (!v || decide (x.toNat < 16)) = m
        cases m with
        | false =>
          repeat (first | go_skip | go_guarded | go_step)
          go_ret
          exact ⟨by unfold mayA; rw [all_at HT.out hm]; rfl, by rw [hhb]; exact HB.out.trans (HB2.out.mono hs0)⟩
        | true =>
          have HM := Lib.hid hm
          clear hm
          repeat (first | go_skip | go_guarded | go_step)
          go_roundw
          case rel => exact ⟨i + 1, by omega, by go_num, all_upto HT.out HAL.out HM.out, HB2.out⟩
          case measure => simp [intOf] <;> omega
      · obtain rfl : i = n := by omega
        repeat (first | go_skip | go_guarded | go_step)
        go_ret
        exact ⟨by unfold mayA; rw [all_whole (by have := HL.out; omega) HAL.out, HL.out]; simp [h6], by rw [hhb]; exact HB.out.trans (HBR.out.mono hs0)⟩
  · have d6 : decide ((6 : Int) < (n : Int)) = true := by simp; omega
    repeat (first | go_skip | go_guarded | go_step)
    go_ret
    exact ⟨by unfold mayA; rw [HL.out]; simp; intros; omega, by rw [hhb]; exact HB.out⟩
set_option maxRecDepth 100000 in
set_option maxHeartbeats 4000000 in
theorem cMay_any (p : UInt32) (A : Option Addr) (n c : Nat) (l : List Tm) (A1 : Option Addr) (n1 c1 : Nat) (R : List SlA) (L : List Li) (w : World) (h : RdT w w.heap.size A n l) (h1 : RdL w w.heap.size A1 n1 R L)
    (hn : n ≤ 1000000) (hn1 : n1 ≤ 1000000) (hk : ∀ x ∈ L, x.2.2.length ≤ 1000000) :
    Calls Try.prog 26 #[.agg #[nv p, .slice A n c, .slice A1 n1 c1]] w fun e w' => e = .returned (.bool (mayC ((p, l), L))) ∧ Below w.heap.size w w' := by
  have HL := Lib.hid (rdT_len h)
  have HL1 := Lib.hid h1.lenL
  have HK := Lib.hid hk
  obtain ⟨W, hW, hb, hbw⟩ : ∃ W, W = w.alloc (.cells #[nv p, .slice A n c, .slice A1 n1 c1] 31) ∧ Bk W w.heap.size 31 [nv p, .slice A n c, .slice A1 n1 c1] ∧ Below w.heap.size w W := ⟨_, rfl, Bk.new w _ _, (Below.refl _ _).alloc (Nat.le_refl _) _⟩
  have HR := Lib.hid (h.below hbw)
  have HR1 := Lib.hid (h1.below hbw)
  have HW := Lib.hid hW
  have HB := Lib.hid hbw
  have HH := Lib.hid hb
  have k0 := hb.read (Below.refl _ _) 0 rfl
  have k1 := hb.read (Below.refl _ _) 1 rfl
  have k2 := hb.read (Below.refl _ _) 2 rfl
  clear h h1 hk hW hb hbw
  go_enter Try.func26, Try.ntmps26
  go_upto_region 1 with (fail)
  rw [← HW.out]
  clear HW
  generalize hhb : w.heap.size = hb at HR HR1 HB HH k0 k1 k2 ⊢
  have hs0 : hb ≤ W.heap.size := by rw [← hhb]; exact (show Below w.heap.size w W by rw [hhb]; exact HB.out).size
  by_cases h8 : n1 ≤ 8
  · have d8 : decide ((8 : Int) < (n1 : Int)) = false := by simp; omega
    repeat (first | go_skip | go_guarded | go_step)
    refine (aMay_any p A n c l W (HR.out.more hs0) hn).mono ?_
    rintro e W1 ⟨rfl, hb1⟩
    have HB1 := Lib.hid (HB.out.trans (hb1.mono hs0))
    have hs1 : hb ≤ W1.heap.size := Nat.le_trans hs0 hb1.size
    have HRL := Lib.hid (HR1.out.below (hb1.mono hs0))
    have k2 := HH.out.read hb1 2 rfl
    have HMH := Lib.hid (show mayA (p, l) = mayA (p, l) from rfl)
    clear hb1 k0 k1
    dsimp only
    generalize hm0 : mayA (p, l) = m0
    clear HMH
    cases m0 with
    | false =>
      repeat (first | go_skip | go_guarded | go_step)
      go_ret
      exact ⟨by unfold mayC; dsimp only; rw [hm0]; simp, by rw [hhb]; exact HB1.out⟩
    | true =>
      have HM0 := Lib.hid hm0
      clear hm0
      repeat (first | go_skip | go_guarded | go_step)
      go_loopw [18] (fun p wr => ∃ i : Nat, i ≤ n1 ∧ p = .int .i64 (i : Int) ∧ (L.take i).all (fun x => mayA x.2) = true ∧ Below W1.heap.size W1 wr) (fun p _ => n1 - (intOf p).toNat)
      case atStart => exact ⟨0, by omega, rfl, by simp, Below.refl _ _⟩
      case round =>
        obtain ⟨i, hi, rfl, hal, hbr⟩ := hrel
        have HAL := Lib.hid hal
        have HBR := Lib.hid hbr
        have hsr := hbr.size
        clear hal hbr
        by_cases hlt : i < n1
        · have hci : (i : Int) < (n1 : Int) := by omega
          obtain ⟨b, o, g, q, l2, Ai, ni, ci, hA, hbb, hx, hc0, hc1, hc2, hrow⟩ := (HRL.out.below (HBR.out.mono hs1)).at_ hlt
          subst hA
          have hni : ni ≤ 1000000 := by
            have := HK.out _ (List.mem_of_getElem? hx)
            have := rdT_len hrow
            dsimp only at *
            omega
          have HX := Lib.hid hx
          have HRO := Lib.hid hrow
          clear hx hrow k2
          repeat (first | go_skip | go_guarded | go_step)
          refine (aMay_any q Ai ni ci l2 _ ((HRO.out.below ((Below.refl _ _).alloc (by omega) _)).more (by simp; omega)) hni).mono ?_
          rintro e W2 ⟨rfl, hb2⟩
          have HB2 := Lib.hid (belowStep HBR.out hsr hb2)
          clear hb2 hc0 hc1 hc2
          dsimp only
          generalize hm : mayA (q, l2) = m
          cases m with
          | false =>
            repeat (first | go_skip | go_guarded | go_step)
            go_ret
            exact ⟨by unfold mayC; rw [all_at HX.out hm]; rfl, by rw [hhb]; exact HB1.out.trans (HB2.out.mono hs1)⟩
          | true =>
            have HM := Lib.hid hm
            clear hm
            repeat (first | go_skip | go_guarded | go_step)
            go_roundw
            case rel => exact ⟨i + 1, by omega, by go_num, all_upto HX.out HAL.out HM.out, HB2.out⟩
            case measure => simp [intOf] <;> omega
        · obtain rfl : i = n1 := by omega
          repeat (first | go_skip | go_guarded | go_step)
          go_ret
          exact ⟨by unfold mayC; rw [all_whole (by have := HL1.out; omega) HAL.out, HL1.out, HM0.out]; simp [h8], by rw [hhb]; exact HB1.out.trans (HBR.out.mono hs1)⟩
  · have d8 : decide ((8 : Int) < (n1 : Int)) = true := by simp; omega
    repeat (first | go_skip | go_guarded | go_step)
    go_ret
    exact ⟨by unfold mayC; rw [HL1.out]; simp; intros; omega, by rw [hhb]; exact HB.out⟩
end Go.Proofs.Ytfmghkplafploaa

set_option linter.unusedVariables false
set_option linter.unusedSimpArgs false
namespace Go.Proofs.Ytfmghkplafploaa
open Go Go.RowKit

theorem isnan_any (x : UInt32) (w : World) : Calls Try.prog 54 #[nv x] w fun e w' => e = .returned (.bool false) ∧ w' = w := by
  have hb : ((x.toNat : Int) != (x.toNat : Int)) = false := by simp
  go_enter Try.func54, Try.ntmps54
  repeat (first | go_skip | go_guarded | go_step)
  go_ret
  exact ⟨rfl, rfl⟩
theorem less_any (x y : UInt32) (w : World) : Calls Try.prog 31 #[nv x, nv y] w fun e w' => e = .returned (.bool (decide (x.toNat < y.toNat))) ∧ w' = w := by
  by_cases h : x.toNat < y.toNat
  · have hd : decide ((x.toNat : Int) < (y.toNat : Int)) = true := by simp; omega
    have HD := Lib.hid (decide_eq_true h)
    clear h
    go_enter Try.func31, Try.ntmps31
    repeat (first | go_skip | go_guarded | go_step)
    refine (isnan_any x w).mono ?_
    rintro e w' ⟨rfl, rfl⟩
    dsimp only
    repeat (first | go_skip | go_guarded | go_step)
    go_ret
    exact ⟨by rw [HD.out]; rfl, rfl⟩
  · have hd : decide ((x.toNat : Int) < (y.toNat : Int)) = false := by simp; omega
    have HD := Lib.hid (decide_eq_false h)
    clear h
    go_enter Try.func31, Try.ntmps31
    repeat (first | go_skip | go_guarded | go_step)
    refine (isnan_any x w).mono ?_
    rintro e w' ⟨rfl, rfl⟩
    dsimp only
    repeat (first | go_skip | go_guarded | go_step)
    go_ret
    exact ⟨by rw [HD.out]; rfl, rfl⟩
/-- A block of numbers, with what lies behind them. -/
abbrev BkU (w : World) (g : Nat) (l : List UInt32) (rest : List Value) : Prop := Bk w g 25 (l.map nv ++ rest)
theorem BkU.at_ {w : World} {g : Nat} {l : List UInt32} {rest : List Value} (h : BkU w g l rest) {i : Nat} {x : UInt32} (hx : l[i]? = some x) : w.cell? ⟨g, i, none⟩ = some (nv x) := by
  obtain ⟨h1, h2⟩ := List.getElem?_eq_some_iff.1 hx
  rw [h.cell, List.getElem?_append_left (by simpa using h1), List.getElem?_map, hx]
  rfl
theorem BkU.set1 {w : World} {g : Nat} {l : List UInt32} {rest : List Value} (h : BkU w g l rest) {i : Nat} (hi : i < l.length) (y : UInt32) : BkU (w.setCell ⟨g, i, none⟩ (nv y)) g (l.set i y) rest := by
  have h2 := h.set_ i (nv y)
  rw [List.set_append_left _ _ (by simpa using hi), ← List.map_set] at h2
  exact h2
theorem swap_perm {l : List UInt32} {i j : Nat} {x y : UInt32} (hx : l[i]? = some x) (hy : l[j]? = some y) : ((l.set i y).set j x).Perm l := by
  obtain ⟨h1, rfl⟩ := List.getElem?_eq_some_iff.1 hx
  obtain ⟨h2, rfl⟩ := List.getElem?_eq_some_iff.1 hy
  rw [List.perm_iff_count]
  intro a
  by_cases hij : i = j
  · subst hij; simp
  · rw [List.count_set (by simpa using h2), List.count_set h1, List.getElem_set_ne hij]
    have c1 : l[i] = a → 0 < List.count a l := fun e => List.count_pos_iff.2 (e ▸ List.getElem_mem h1)
    have c2 : l[j] = a → 0 < List.count a l := fun e => List.count_pos_iff.2 (e ▸ List.getElem_mem h2)
    by_cases e1 : l[i] = a <;> by_cases e2 : l[j] = a
    · have := c1 e1; simp [e1, e2]; omega
    · have := c1 e1; simp [e1, e2]; omega
    · have := c2 e2; simp [e1, e2]
    · simp [e1, e2]
theorem turnDrewN {G : Nat → Prop} {a w : World} (h : Turn G a w) (n : Nat) : Turn G a (w.drewN n) := ⟨h.os, h.tape, h.output, h.size, h.block⟩
set_option maxRecDepth 100000 in
set_option maxHeartbeats 4000000 in
theorem isort_any (g c n : Nat) (l : List UInt32) (rest : List Value) (w : World) (hl : l.length = n) (hn : n ≤ 12) (hb : BkU w g l rest) :
    Calls Try.prog 44 #[.slice (some ⟨g, 0, none⟩) n c, .int .i64 0, .int .i64 (n : Int)] w fun e w' => e = .returned (.tuple #[]) ∧ ∃ l', l'.Perm l ∧ BkU w' g l' rest ∧ Turn (fun k => k = g) w w' := by
  have HB := Lib.hid hb
  have HL := Lib.hid hl
  clear hb hl
  go_enter Try.func44, Try.ntmps44
  repeat (first | go_skip | go_guarded | go_step)
  go_loopw [6] (fun q wr => ∃ (i : Nat) (l' : List UInt32), q = .int .i64 (i : Int) ∧ 1 ≤ i ∧ i ≤ 13 ∧ l'.Perm l ∧ BkU wr g l' rest ∧ Turn (fun k => k = g) w wr) (fun q _ => 13 - (intOf q).toNat)
  case atStart => exact ⟨1, l, by go_num, by omega, by omega, List.Perm.refl _, HB.out, Turn.refl _ _⟩
  case round =>
    obtain ⟨i, l', rfl, hi1, hi2, hp, hbk, ht⟩ := hrel
    have HP := Lib.hid hp
    have HK := Lib.hid hbk
    have HT := Lib.hid ht
    clear hp hbk ht
    by_cases hlt : i < n
    · have hci : (i : Int) < (n : Int) := by omega
      repeat (first | go_skip | go_guarded | go_step)
      rename World => w1
      go_loopw [7] (fun q wr => ∃ (j : Nat) (l' : List UInt32), q = .int .i64 (j : Int) ∧ j ≤ i ∧ l'.Perm l ∧ BkU wr g l' rest ∧ Turn (fun k => k = g) w wr) (fun q _ => (intOf q).toNat)
      case atStart => exact ⟨i, l', rfl, Nat.le_refl _, HP.out, HK.out, HT.out⟩
      case round =>
        obtain ⟨j, l2, rfl, hj, hp, hbk, ht⟩ := hrel
        have hlen : l2.length = n := hp.length_eq.trans HL.out
        have HP2 := Lib.hid hp
        have HK2 := Lib.hid hbk
        have HT2 := Lib.hid ht
        have HLE := Lib.hid hlen
        clear hp ht
        by_cases hj0 : 0 < j
        · have hjd : decide ((0 : Int) < (j : Int)) = true := by simp; omega
          obtain ⟨x, hx⟩ : ∃ x, l2[j]? = some x := ⟨_, List.getElem?_eq_getElem (by omega)⟩
          obtain ⟨y, hy⟩ : ∃ y, l2[j - 1]? = some y := ⟨_, List.getElem?_eq_getElem (by omega)⟩
          have c1 := hbk.at_ hx
          have c2 := hbk.at_ hy
          have f1 := hbk.frozen j
          have f2 := hbk.frozen (j - 1)
          have HX := Lib.hid hx
          have HY := Lib.hid hy
          have hjw : ((j : Int) - 1) = ((j - 1 : Nat) : Int) := by omega
          clear hbk hx hy hlen
          by_cases hxy : x.toNat < y.toNat
          · have HD := Lib.hid (decide_eq_true hxy)
            clear hxy
            go_upto_region 4 with (fail)
            go_quiet (refine Calls.quiet_of_same (less_any _ _ _))
            rw [HD.out]
            obtain ⟨V, hV, hkV, htV⟩ : ∃ V, V = wr.drewN nq ∧ BkU V g l2 rest ∧ Turn (fun k => k = g) w V := ⟨_, rfl, HK2.out, turnDrewN HT2.out _⟩
            rw [← hV]
            have HKV := Lib.hid hkV
            have HTV := Lib.hid htV
            have d1 := hkV.at_ HX.out
            have d2 := hkV.at_ HY.out
            have e1 := hkV.frozen j
            have e2 := hkV.frozen (j - 1)
            clear hV hkV htV c1 c2 f1 f2
            repeat (first | go_skip | go_guarded | go_step)
            go_region
            obtain ⟨Z, hZ, hkZ, htZ⟩ : ∃ Z, Z = ((V.setCell { block := g, off := j } (Value.int IntKind.u32 y.toNat)).setCell { block := g, off := j - 1 } (Value.int IntKind.u32 x.toNat)).drew ∧ BkU Z g ((l2.set j y).set (j - 1) x) rest ∧ Turn (fun k => k = g) w Z :=
              ⟨_, rfl, (HKV.out.set1 (by have := HLE.out; omega) y).set1 (by rw [List.length_set]; have := HLE.out; omega) x, ((HTV.out.setCell (p := ⟨g, j, none⟩) (fun _ => rfl) _).setCell (p := ⟨g, j - 1, none⟩) (fun _ => rfl) _).drew⟩
            rw [← hZ]
            have HKZ := Lib.hid hkZ
            have HTZ := Lib.hid htZ
            have HPZ := Lib.hid ((swap_perm HX.out HY.out).trans HP2.out)
            clear hZ hkZ htZ d1 d2 e1 e2
            repeat (first | go_skip | go_guarded | go_step)
            go_roundw
            case rel => exact ⟨j - 1, _, by go_num, by omega, HPZ.out, HKZ.out, HTZ.out⟩
            case measure => simp [intOf]; omega
          · have HD := Lib.hid (decide_eq_false hxy)
            clear hxy
            go_upto_region 4 with (fail)
            go_quiet (refine Calls.quiet_of_same (less_any _ _ _))
            rw [HD.out]
            repeat (first | go_skip | go_guarded | go_step)
            go_roundw
            case rel => exact ⟨i + 1, l2, by go_num, by omega, by omega, HP2.out, HK2.out, turnDrewN HT2.out _⟩
            case measure => simp [intOf]; omega
        · obtain rfl : j = 0 := by omega
          have hjd : decide ((0 : Int) < ((0 : Nat) : Int)) = false := by simp
          clear hbk hlen
          go_upto_region 4 with (fail)
          go_quiet (fail)
          repeat (first | go_skip | go_guarded | go_step)
          go_roundw
          case rel => exact ⟨i + 1, l2, by go_num, by omega, by omega, HP2.out, HK2.out, turnDrewN HT2.out _⟩
          case measure => simp [intOf]; omega
    · have hci : ¬ (i : Int) < (n : Int) := by omega
      repeat (first | go_skip | go_guarded | go_step)
      go_end0
      exact ⟨rfl, l', HP.out, HK.out, HT.out⟩
end Go.Proofs.Ytfmghkplafploaa

set_option linter.unusedVariables false
set_option linter.unusedSimpArgs false
namespace Go.Proofs.Ytfmghkplafploaa
open Go Go.RowKit

theorem u32Info : (Try.prog.info? 25).map (fun i => (i.zero, i.size, i.bytes)) = some (some (.int .u32 0), 1, 4) := by kernel_rfl
abbrev OwU (w : World) (base : Nat) (A : Option Addr) (c n : Nat) (l : List UInt32) : Prop := w.ownsRow base 25 1 (.slice A n c) n (l.map nv)
section
variable {w w' : World} {base : Nat} {A : Option Addr} {c n : Nat}
theorem OwU.rd {l : List UInt32} (h : OwU w base A c n l) : RdU w w.heap.size A n l := Rd.ofOwn h
theorem OwU.cap {l : List UInt32} (h : OwU w base A c n l) : n ≤ c := by
  obtain ⟨A1, c1, hv, hl⟩ := ownForm h
  cases hv
  exact hl
end
/-- 'out = append(out, x...)' over numbers. -/
theorem wp_appU {o : Oper} {a : Act} {K : Act → World → Prop} {Q : Exit → Act → World → Prop} (w : World) (p x : Operand)
    (ho : o.op = .call { callee := .builtin .append, args := #[p, x], argTypes := #[46, 46] })
    (base : Nat) (A0 : Option Addr) (c0 n : Nat) (l : List UInt32) (hv : a.eval p = .slice A0 n c0) (hown : OwU w base A0 c0 n l)
    (B : Nat) (A : Option Addr) (m c : Nat) (news : List UInt32) (hx : a.eval x = .slice A m c) (hr : RdU w B A m news) (hb : n + m ≤ 1000000000) (hbase : base ≤ w.heap.size)
    (h : ∀ A' c' w', OwU w' base A' c' (n + m) (l ++ news) → Below base w w' → K (a.put o.dst (.slice A' (n + m) c')) w') : o.wp Try.prog a w K Q := by
  obtain ⟨i0, hi, hz0, hz1, hz2⟩ := info_parts u32Info
  refine wp_app w p x 46 ho base 25 i0 _ 1 4 Try.underlying46 hi hz0 hz1 hz2 rfl (by decide) _ n _ hv hown B A m c _ hx hr (nv_one news) (by simp only [maxLen]; omega) (by omega) hbase ?_
  intro A' c' w' h1 h2 h3
  refine h A' c' w' ?_ (belowApp (Below.refl _ _) hown h2 hbase)
  show World.ownsRow _ _ _ _ _ _ _
  rw [List.map_append]
  exact h1
theorem appU {ops : Array Oper} {rest : List Oper} {o : Oper} {a : Act} {Q : Exit → Act → World → Prop} (w : World) (hgd : o.guard = none) (p x : Operand)
    (ho : o.op = .call { callee := .builtin .append, args := #[p, x], argTypes := #[46, 46] })
    (base : Nat) (A0 : Option Addr) (c0 n : Nat) (l : List UInt32) (hv : a.eval p = .slice A0 n c0) (hown : OwU w base A0 c0 n l)
    (B : Nat) (A : Option Addr) (m c : Nat) (news : List UInt32) (hx : a.eval x = .slice A m c) (hr : RdU w B A m news) (hb : n + m ≤ 1000000000) (hbase : base ≤ w.heap.size)
    (h : ∀ A' c' w', OwU w' base A' c' (n + m) (l ++ news) → Below base w w' → wpList Try.prog ops Q rest (a.put o.dst (.slice A' (n + m) c')) w') : wpList Try.prog ops Q (o :: rest) a w :=
  wpList_plain hgd fun _ hK => wp_appU w p x ho base A0 c0 n l hv hown B A m c news hx hr hb hbase fun A' c' w' h1 h2 => hK _ _ (h A' c' w' h1 h2)
/-- A row of one's own, as a block: its cells, and what lies behind them. -/
theorem OwU.block {w : World} {base : Nat} {A : Option Addr} {c n : Nat} {l : List UInt32} (h : OwU w base A c n l) (hn : 0 < n) :
    ∃ g rest, A = some ⟨g, 0, none⟩ ∧ base ≤ g ∧ n ≤ c ∧ c ≤ maxLen ∧ rest.length = c - n ∧ Bk w g 25 (l.map nv ++ rest) := by
  have hl := rdU_len h.rd
  rcases h.2 with ⟨_, h0⟩ | ⟨g, cap, cur, hv, hb, hg, h1, h2, h3, h4⟩
  · omega
  · cases hv
    refine ⟨g, cur.toList.drop n, rfl, hb, h1, h2, by simp; omega, ?_⟩
    rw [Nat.mul_one] at h4
    unfold Bk
    rw [← h4, List.take_append_drop]
    exact hg
theorem OwU.ofBlock {w : World} {base g c n : Nat} {l : List UInt32} {rest : List Value} (hb : base ≤ g) (hl : l.length = n) (hr : rest.length = c - n) (hn : n ≤ c) (hc : c ≤ maxLen) (h : Bk w g 25 (l.map nv ++ rest)) : OwU w base (some ⟨g, 0, none⟩) c n l := by
  refine ⟨by simp [hl], .inr ⟨g, c, _, rfl, hb, h, hn, hc, by simp; omega, ?_⟩⟩
  rw [Nat.mul_one, List.toList_toArray, List.take_append_of_le_length (by simp; omega), List.take_of_length_le (by simp; omega)]
theorem OwT.block {w : World} {base : Nat} {A : Option Addr} {c n : Nat} {l : List Tm} (h : OwT w base A c n l) (hn : 0 < n) :
    ∃ g rest, A = some ⟨g, 0, none⟩ ∧ base ≤ g ∧ n ≤ c ∧ c ≤ maxLen ∧ rest.length = c * 2 - n * 2 ∧ Bk w g 126 (tmCs l ++ rest) := by
  have hl := rdT_len h.rd
  rcases h.2 with ⟨_, h0⟩ | ⟨g, cap, cur, hv, hb, hg, h1, h2, h3, h4⟩
  · omega
  · cases hv
    refine ⟨g, cur.toList.drop (n * 2), rfl, hb, h1, h2, by simp; omega, ?_⟩
    unfold Bk
    rw [← h4, List.take_append_drop]
    exact hg
theorem OwT.ofBlock {w : World} {base g c n : Nat} {l : List Tm} {rest : List Value} (hb : base ≤ g) (hl : l.length = n) (hr : rest.length = c * 2 - n * 2) (hn : n ≤ c) (hc : c ≤ maxLen) (h : Bk w g 126 (tmCs l ++ rest)) : OwT w base (some ⟨g, 0, none⟩) c n l := by
  have h2 := tmCs_len l
  refine ⟨by omega, .inr ⟨g, c, _, rfl, hb, h, hn, hc, by simp; omega, ?_⟩⟩
  rw [List.toList_toArray, List.take_append_of_le_length (by omega), List.take_of_length_le (by omega)]
end Go.Proofs.Ytfmghkplafploaa

set_option linter.unusedVariables false
set_option linter.unusedSimpArgs false
namespace Go.Proofs.Ytfmghkplafploaa
open Go Go.RowKit

set_option maxRecDepth 100000 in
set_option maxHeartbeats 4000000 in
theorem len64_any (n : Nat) (hn : n ≤ 6) (w : World) : Calls Try.prog 53 #[.int .u64 (n : Int)] w fun e w' => (∃ v : Int, e = .returned (.int .i64 v)) ∧ w' = w := by
  have h : n = 0 ∨ n = 1 ∨ n = 2 ∨ n = 3 ∨ n = 4 ∨ n = 5 ∨ n = 6 := by omega
  rcases h with rfl | rfl | rfl | rfl | rfl | rfl | rfl
  · show Calls Try.prog 53 #[.int .u64 0] w _
    go_enter Try.func53, Try.ntmps53
    repeat (first | go_skip | go_guarded | go_step)
    go_ret
    exact ⟨⟨_, rfl⟩, rfl⟩
  · show Calls Try.prog 53 #[.int .u64 1] w _
    go_enter Try.func53, Try.ntmps53
    repeat (first | go_skip | go_guarded | go_step)
    go_ret
    exact ⟨⟨_, rfl⟩, rfl⟩
  · show Calls Try.prog 53 #[.int .u64 2] w _
    go_enter Try.func53, Try.ntmps53
    repeat (first | go_skip | go_guarded | go_step)
    go_ret
    exact ⟨⟨_, rfl⟩, rfl⟩
  · show Calls Try.prog 53 #[.int .u64 3] w _
    go_enter Try.func53, Try.ntmps53
    repeat (first | go_skip | go_guarded | go_step)
    go_ret
    exact ⟨⟨_, rfl⟩, rfl⟩
  · show Calls Try.prog 53 #[.int .u64 4] w _
    go_enter Try.func53, Try.ntmps53
    repeat (first | go_skip | go_guarded | go_step)
    go_ret
    exact ⟨⟨_, rfl⟩, rfl⟩
  · show Calls Try.prog 53 #[.int .u64 5] w _
    go_enter Try.func53, Try.ntmps53
    repeat (first | go_skip | go_guarded | go_step)
    go_ret
    exact ⟨⟨_, rfl⟩, rfl⟩
  · show Calls Try.prog 53 #[.int .u64 6] w _
    go_enter Try.func53, Try.ntmps53
    repeat (first | go_skip | go_guarded | go_step)
    go_ret
    exact ⟨⟨_, rfl⟩, rfl⟩
theorem len_any (n : Nat) (hn : n ≤ 6) (w : World) : Calls Try.prog 30 #[.int .u64 (n : Int)] w fun e w' => (∃ v : Int, e = .returned (.int .i64 v)) ∧ w' = w := by
  go_enter Try.func30, Try.ntmps30
  repeat (first | go_skip | go_guarded | go_step)
  refine (len64_any n hn w).mono ?_
  rintro e w' ⟨⟨v, rfl⟩, rfl⟩
  dsimp only
  repeat (first | go_skip | go_guarded | go_step)
  go_ret
  exact ⟨⟨_, rfl⟩, rfl⟩
theorem isort_none (A : Option Addr) (c : Nat) (w : World) : Calls Try.prog 44 #[.slice A 0 c, .int .i64 0, .int .i64 0] w fun e w' => e = .returned (.tuple #[]) ∧ w' = w := by
  go_enter Try.func44, Try.ntmps44
  repeat (first | go_skip | go_guarded | go_step)
  go_loopw [6] (fun q wr => q = .int .i64 1 ∧ wr = w) (fun q _ => 13 - (intOf q).toNat)
  case atStart => exact ⟨by go_num, rfl⟩
  case round =>
    obtain ⟨rfl, rfl⟩ := hrel
    repeat (first | go_skip | go_guarded | go_step)
    go_end0
    exact ⟨rfl, rfl⟩
set_option maxRecDepth 100000 in
set_option maxHeartbeats 4000000 in
theorem pdq_any (A : Option Addr) (c n : Nat) (v : Int) (w : World) (R : World → Prop) (hn : n ≤ 6)
    (h : Calls Try.prog 44 #[.slice A n c, .int .i64 0, .int .i64 (n : Int)] w fun e w' => e = .returned (.tuple #[]) ∧ R w') :
    Calls Try.prog 29 #[.slice A n c, .int .i64 0, .int .i64 (n : Int), .int .i64 v] w fun e w' => e = .returned (.tuple #[]) ∧ R w' := by
  have hd : decide ((n : Int) ≤ 12) = true := by simp; omega
  go_enter Try.func29, Try.ntmps29
  repeat (first | go_skip | go_guarded | go_step)
  go_loopw [1, 2] (fun p q wr => p = .int .i64 0 ∧ q = .int .i64 (n : Int) ∧ wr = w) (fun _ _ _ => 0)
  case atStart => exact ⟨rfl, rfl, rfl⟩
  case round =>
    obtain ⟨rfl, rfl, rfl⟩ := hrel
    repeat (first | go_skip | go_guarded | go_step)
    refine h.mono ?_
    rintro e w' ⟨rfl, hR⟩
    dsimp only
    repeat (first | go_skip | go_guarded | go_step)
    refine bodyPost_ret (results_none rfl _ _ _) rfl ?_
    exact ⟨rfl, hR⟩
set_option maxRecDepth 100000 in
set_option maxHeartbeats 4000000 in
theorem sortU_run (A : Option Addr) (c n : Nat) (w : World) (R : World → Prop) (hn : n ≤ 6)
    (h : Calls Try.prog 44 #[.slice A n c, .int .i64 0, .int .i64 (n : Int)] w fun e w' => e = .returned (.tuple #[]) ∧ R w') :
    Calls Try.prog 19 #[.slice A n c] w fun e w' => e = .returned (.tuple #[]) ∧ R w' := by
  have hw : IntKind.u64.wrap (n : Int) = (n : Int) := by
    have hb : IntKind.u64.bits = 64 := rfl
    simp only [IntKind.wrap, hb]
    simp [IntKind.signed]
    omega
  go_enter Try.func19, Try.ntmps19
  repeat (first | go_skip | go_guarded | go_step)
  refine (len_any n hn w).mono ?_
  rintro e w' ⟨⟨v, rfl⟩, rfl⟩
  dsimp only
  repeat (first | go_skip | go_guarded | go_step)
  refine (pdq_any A c n v _ R hn h).mono ?_
  rintro e w2 ⟨rfl, hR⟩
  dsimp only
  repeat (first | go_skip | go_guarded | go_step)
  go_end0
  exact ⟨rfl, hR⟩
theorem sortU_any (A : Option Addr) (c n : Nat) (l : List UInt32) (w : World) (base : Nat) (h : OwU w base A c n l) (hn : n ≤ 6) :
    Calls Try.prog 19 #[.slice A n c] w fun e w' => e = .returned (.tuple #[]) ∧ ∃ l' : List UInt32, l'.Perm l ∧ OwU w' base A c n l' ∧ Turn (fun k => A.map (·.block) = some k) w w' := by
  have hl := rdU_len h.rd
  by_cases h0 : n = 0
  · subst h0
    refine sortU_run A c 0 w (fun w' => ∃ l' : List UInt32, l'.Perm l ∧ OwU w' base A c 0 l' ∧ Turn (fun k => A.map (·.block) = some k) w w') (by omega) ((isort_none A c w).mono ?_)
    rintro e w' ⟨rfl, rfl⟩
    exact ⟨rfl, l, List.Perm.refl _, h, Turn.refl _ _⟩
  · obtain ⟨g, rest, rfl, hb, hc, hm, hr, hbk⟩ := h.block (by omega)
    refine sortU_run _ c n w (fun w' => ∃ l' : List UInt32, l'.Perm l ∧ OwU w' base (some ⟨g, 0, none⟩) c n l' ∧ Turn (fun k => (some (⟨g, 0, none⟩ : Addr)).map (·.block) = some k) w w') hn ((isort_any g c n l rest w hl (by omega) hbk).mono ?_)
    rintro e w' ⟨rfl, l', hp, hk, ht⟩
    exact ⟨rfl, l', hp, OwU.ofBlock hb (by rw [hp.length_eq]; exact hl) hr hc hm hk, ht.mono fun k _ e => by rw [e]; rfl⟩
end Go.Proofs.Ytfmghkplafploaa

set_option linter.unusedVariables false
set_option linter.unusedSimpArgs false
namespace Go.Proofs.Ytfmghkplafploaa
open Go Go.RowKit

theorem BkU.clear {g : Nat} {rest : List Value} (m : Nat) : ∀ {w : World} {l : List UInt32} {k : Nat}, BkU w g l rest → k + m ≤ l.length →
    ∃ l' : List UInt32, l'.length = l.length ∧ l'.take k = l.take k ∧ BkU (w.setCells g k (List.replicate m (.int .u32 0))) g l' rest ∧ Turn (fun x => x = g) w (w.setCells g k (List.replicate m (.int .u32 0))) := by
  induction m with
  | zero => intro w l k h _; exact ⟨l, rfl, rfl, h, Turn.refl _ _⟩
  | succ m ih =>
    intro w l k h hk
    obtain ⟨l', h1, h2, h3, h4⟩ := ih (k := k + 1) (h.set1 (i := k) (by omega) 0) (by rw [List.length_set]; omega)
    refine ⟨l', by rw [h1, List.length_set], ?_, h3, ((Turn.refl (fun x => x = g) w).setCell (p := ⟨g, k, none⟩) (fun _ => rfl) _).trans h4⟩
    have e := congrArg (List.take k) h2
    rw [List.take_take, List.take_take, Nat.min_eq_left (by omega)] at e
    rw [e, List.take_set_of_le (by omega)]
theorem take_mem_snoc {l : List UInt32} {k : Nat} {x : UInt32} (h : l[k]? = some x) (v : UInt32) : v ∈ l.take (k + 1) ↔ v ∈ l.take k ∨ v = x := by
  rw [List.take_add_one, h]
  simp
theorem take_has {l : List UInt32} {j k : Nat} {x : UInt32} (h : l[j]? = some x) (hj : j < k) : x ∈ l.take k := by
  refine List.mem_of_getElem? (i := j) ?_
  rw [List.getElem?_take_of_lt hj, h]
theorem OwU.head {w : World} {base g c n k : Nat} {l : List UInt32} {rest : List Value} (hl : l.length = n) (hlt : g < w.heap.size) (h : BkU w g l rest) (hk : k ≤ n) : RdU w w.heap.size (some ⟨g, 0, none⟩) k (l.take k) := by
  refine ⟨by simp; omega, fun _ => ⟨g, 0, rfl, hlt, fun j u hu => ?_⟩⟩
  rw [List.getElem?_map] at hu
  obtain ⟨x, hx, rfl⟩ := Option.map_eq_some_iff.1 hu
  rw [List.getElem?_take] at hx
  split at hx
  · rw [Nat.zero_add]; exact h.at_ hx
  · cases hx
set_option maxRecDepth 100000 in
set_option maxHeartbeats 4000000 in
theorem compU_arr (g c n : Nat) (l : List UInt32) (rest : List Value) (w : World) (hl : l.length = n) (hn : n ≤ 6) (hc : n ≤ c) (hc2 : c ≤ maxLen) (hb : BkU w g l rest) :
    Calls Try.prog 20 #[.slice (some ⟨g, 0, none⟩) n c] w fun e w' => ∃ (m : Nat) (l' : List UInt32), e = .returned (.slice (some ⟨g, 0, none⟩) m c) ∧ m ≤ n ∧ (∀ v, v ∈ l' ↔ v ∈ l) ∧ RdU w' w'.heap.size (some ⟨g, 0, none⟩) m l' ∧ Turn (fun k => k = g) w w' := by
  have HB := Lib.hid hb
  have HL := Lib.hid hl
  clear hb hl
  by_cases h2 : n < 2
  · have h2i : (n : Int) < 2 := by omega
    go_enter Try.func20, Try.ntmps20
    repeat (first | go_skip | go_guarded | go_step)
    go_ret
    exact ⟨n, l, rfl, Nat.le_refl _, fun v => Iff.rfl, by have := OwU.head (base := 0) (c := c) HL.out HB.out.lt HB.out (Nat.le_refl n); rwa [List.take_of_length_le (by have := HL.out; omega)] at this, Turn.refl _ _⟩
  have h2i : ¬ (n : Int) < 2 := by omega
  go_enter Try.func20, Try.ntmps20
  repeat (first | go_skip | go_guarded | go_step)
  go_loopw [3] (fun q wr => ∃ k : Nat, q = .int .i64 (k : Int) ∧ 1 ≤ k ∧ k ≤ n ∧ BkU wr g l rest ∧ Turn (fun k => k = g) w wr) (fun q _ => n - (intOf q).toNat)
  case atStart => exact ⟨1, by go_num, by omega, by omega, HB.out, Turn.refl _ _⟩
  case round =>
    obtain ⟨k, rfl, hk1, hk2, hbk, ht⟩ := hrel
    have HK := Lib.hid hbk
    have HT := Lib.hid ht
    clear ht
    by_cases hlt : k < n
    · have hci : (k : Int) < (n : Int) := by omega
      obtain ⟨x, hx⟩ : ∃ x, l[k]? = some x := ⟨_, List.getElem?_eq_getElem (by have := HL.out; omega)⟩
      obtain ⟨y, hy⟩ : ∃ y, l[k - 1]? = some y := ⟨_, List.getElem?_eq_getElem (by have := HL.out; omega)⟩
      have c1 := hbk.at_ hx
      have c2 := hbk.at_ hy
      have HX := Lib.hid hx
      have HY := Lib.hid hy
      have hkw : ((k : Int) - 1) = ((k - 1 : Nat) : Int) := by omega
      clear hbk hx hy
      by_cases hxy : x = y
      · have hd : ((x.toNat : Int) == (y.toNat : Int)) = true := by rw [hxy]; simp
        have HE := Lib.hid hxy
        clear hxy
        go_upto_region 6 with (fail)
        go_quiet (fail)
        obtain ⟨V, hV, hkV, htV⟩ : ∃ V, V = wr.drewN nq ∧ BkU V g l rest ∧ Turn (fun k => k = g) w V := ⟨_, rfl, HK.out, turnDrewN HT.out _⟩
        rw [← hV]
        have HKV := Lib.hid hkV
        have HTV := Lib.hid htV
        clear hV hkV htV c1 c2
        repeat (first | go_skip | go_guarded | go_step)
        go_loopw [3, 5] (fun q r wz => ∃ (kk k2 : Nat) (l' : List UInt32), q = .int .i64 (kk : Int) ∧ r = .int .i64 (k2 : Int) ∧ 1 ≤ k2 ∧ k + k2 ≤ n ∧ kk + 1 ≤ k + k2 ∧ l'.length = n ∧ (∀ i, k + k2 ≤ i + 1 → l'[i]? = l[i]?) ∧ (∀ v, v ∈ l'.take kk ↔ v ∈ l.take (k + k2)) ∧ BkU wz g l' rest ∧ Turn (fun k => k = g) w wz) (fun _ r _ => n - (intOf r).toNat)
        case atStart =>
          exact ⟨k, 1, l, rfl, by go_num, by omega, by omega, by omega, HL.out, fun _ _ => rfl, fun v => by
            rw [take_mem_snoc HX.out, HE.out]
            exact ⟨Or.inl, fun h => h.elim id fun e => by rw [e]; exact take_has HY.out (by omega)⟩, HKV.out, HTV.out⟩
        case round =>
          rename World => wz
          obtain ⟨kk, k2, l', rfl, rfl, h1, hle, hkk, hlen, hsame, hmem, hbk, ht⟩ := hrel
          have HZ := Lib.hid hbk
          have HTZ := Lib.hid ht
          have HM := Lib.hid hmem
          have HS := Lib.hid hsame
          have HLE := Lib.hid hlen
          clear ht hmem hlen
          by_cases hlt2 : k + k2 < n
          · have hci2 : (k2 : Int) < ((n - k : Nat) : Int) := by omega
            obtain ⟨u, hu⟩ : ∃ u, l[k + k2]? = some u := ⟨_, List.getElem?_eq_getElem (by have := HL.out; omega)⟩
            obtain ⟨v, hv⟩ : ∃ v, l[k + k2 - 1]? = some v := ⟨_, List.getElem?_eq_getElem (by have := HL.out; omega)⟩
            have c1 := hbk.at_ ((hsame _ (by omega)).trans hu)
            have c2 := hbk.at_ ((hsame _ (by omega)).trans hv)
            rw [show k + k2 - 1 = k + (k2 - 1) by omega] at c2
            have f1 := hbk.frozen kk
            obtain ⟨old, hold⟩ : ∃ old, l'[kk]? = some old := ⟨_, List.getElem?_eq_getElem (by have := HLE.out; omega)⟩
            have c3 := hbk.at_ hold
            have HU := Lib.hid hu
            have HV := Lib.hid hv
            have hkw : ((k2 : Int) - 1) = ((k2 - 1 : Nat) : Int) := by omega
            clear hbk hu hv hsame hold
            by_cases huv : u = v
            · have hd : ((u.toNat : Int) != (v.toNat : Int)) = false := by rw [huv]; simp
              have HE2 := Lib.hid huv
              clear huv
              go_upto_region 11 with (fail)
              go_quiet (fail)
              repeat (first | go_skip | go_guarded | go_step)
              go_roundw
              case rel =>
                exact ⟨kk, k2 + 1, l', rfl, by go_num, by omega, by omega, by omega, HLE.out, fun i hi => HS.out i (by omega), fun x => by
                  rw [show k + (k2 + 1) = k + k2 + 1 by omega, take_mem_snoc HU.out, HM.out]
                  exact ⟨Or.inl, fun h => h.elim id fun e => by rw [e, HE2.out]; exact take_has HV.out (by omega)⟩, HZ.out, turnDrewN HTZ.out _⟩
              case measure => simp [intOf]; omega
            · have hd : ((u.toNat : Int) != (v.toNat : Int)) = true := by
                rw [bne_iff_ne]; intro e; exact huv (UInt32.toNat_inj.1 (by omega))
              clear huv
              go_upto_region 11 with (fail)
              go_quiet (fail)
              repeat (first | go_skip | go_guarded | go_step)
              go_roundw
              case rel =>
                exact ⟨kk + 1, k2 + 1, l'.set kk u, by go_num, by go_num, by omega, by omega, by omega, by rw [List.length_set]; exact HLE.out, fun i hi => by rw [List.getElem?_set_ne (by omega)]; exact HS.out i (by omega), fun x => by
                  rw [show k + (k2 + 1) = k + k2 + 1 by omega, take_mem_snoc HU.out, take_mem_snoc (x := u) (by rw [List.getElem?_set_self (by have := HLE.out; omega)]), List.take_set_of_le (Nat.le_refl _), HM.out], BkU.set1 HZ.out (by have := HLE.out; omega) u, (turnDrewN HTZ.out _).setCell (p := ⟨g, kk, none⟩) (fun _ => rfl) _⟩
              case measure => simp [intOf]; omega
          · have hend : k + k2 = n := by omega
            have hci2 : ¬ (k2 : Int) < ((n - k : Nat) : Int) := by omega
            have hcl : ∀ ty, (Builtin.clear_ #[46] ty #[.slice (some ⟨g, kk, none⟩) (n - kk) (c - kk)]).run Try.prog wz = .ok (.tuple #[]) (wz.setCells g kk (List.replicate (n - kk) (.int .u32 0))) :=
              fun ty => Lib.run_clear_slice wz _ _ ty _ Try.underlying46 (fun w => by kernel_rfl) rfl rfl g kk _ _ (by omega) (fun j hj => by
                obtain ⟨x, hx⟩ : ∃ x, l'[kk + j]? = some x := ⟨_, List.getElem?_eq_getElem (by have := HLE.out; omega)⟩
                rw [hbk.at_ hx]; rfl) (fun j _ => hbk.frozen _)
            obtain ⟨l2, g1, g2, g3, g4⟩ := hbk.clear (n - kk) (k := kk) (by have := HLE.out; omega)
            obtain ⟨W2, hW2⟩ : ∃ W2, W2 = wz.setCells g kk (List.replicate (n - kk) (.int .u32 0)) := ⟨_, rfl⟩
            rw [← hW2] at hcl g3 g4
            have HR := Lib.hid (OwU.head (base := 0) (c := c) (g1.trans HLE.out) g3.lt g3 (show kk ≤ n by omega))
            have HT2 := Lib.hid (HTZ.out.trans g4)
            have HM2 := Lib.hid (show ∀ v, v ∈ l2.take kk ↔ v ∈ l from fun v => by
              rw [g2, HM.out, hend, List.take_of_length_le (by have := HL.out; omega)])
            clear g1 g2 g3 g4 hbk hsame hW2
            repeat (first | go_skip | go_guarded | go_step)
            go_ret
            exact ⟨kk, _, rfl, by omega, HM2.out, HR.out, HT2.out⟩
      · have hd : ((x.toNat : Int) == (y.toNat : Int)) = false := by
          rw [beq_eq_false_iff_ne]; intro e; exact hxy (UInt32.toNat_inj.1 (by omega))
        clear hxy
        go_upto_region 6 with (fail)
        go_quiet (fail)
        repeat (first | go_skip | go_guarded | go_step)
        go_roundw
        case rel => exact ⟨k + 1, by go_num, by omega, by omega, HK.out, turnDrewN HT.out _⟩
        case measure => simp [intOf]; omega
    · obtain rfl : n = k := by omega
      have hci : ¬ (n : Int) < (n : Int) := by omega
      repeat (first | go_skip | go_guarded | go_step)
      go_ret
      exact ⟨n, l, rfl, Nat.le_refl _, fun v => Iff.rfl, by have := OwU.head (base := 0) (c := c) HL.out HK.out.lt HK.out (Nat.le_refl n); rwa [List.take_of_length_le (by have := HL.out; omega)] at this, HT.out⟩
end Go.Proofs.Ytfmghkplafploaa

