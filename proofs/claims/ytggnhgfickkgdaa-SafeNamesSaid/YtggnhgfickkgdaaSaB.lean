/- Layer 11 (safe): clauses in memory, the document's May. (Picked from AtB and AtC by pick.py.) -/
import Derived.Test.YtggnhgfickkgdaaAtA
import Derived.Deep.QuietTactic
import Derived.BigQuiet
set_option linter.unusedVariables false
set_option linter.unusedSimpArgs false
namespace Go.Proofs.Ytggnhgfickkgdaa
open Go Go.RowKit

set_option maxRecDepth 100000 in
set_option maxHeartbeats 1000000 in
theorem rMayAtom_any (p : UInt32) (A : Option Addr) (n c : Nat) (l : List Tm) (w : World) (h : RdT w w.heap.size A n l) (hn : n ≤ 1000000) :
    Calls Try.prog 28 #[.agg #[nv p, .slice A n c]] w fun e w' => e = .returned (.bool (mayA (p, l))) ∧ Below w.heap.size w w' := by
  have HL := Lib.hid (rdT_len h)
  obtain ⟨W, hW, hb, hbw⟩ : ∃ W, W = w.alloc (.cells #[nv p, .slice A n c] 33) ∧ Bk W w.heap.size 33 [nv p, .slice A n c] ∧ Below w.heap.size w W := ⟨_, rfl, Bk.new w _ _, (Below.refl _ _).alloc (Nat.le_refl _) _⟩
  have HR := Lib.hid (h.below hbw)
  have HW := Lib.hid hW
  have c1 := hb.cell 1
  rw [show [nv p, Value.slice A n c][1]? = some (Value.slice A n c) from rfl] at c1
  clear h hW
  go_enter Try.func28, Try.ntmps28
  repeat go_step
  rw [← HW.out]
  go_loop [3] (fun p => ∃ i : Nat, i ≤ n ∧ p = .int .i64 (i : Int) ∧ (l.take i).all (fun t => !t.1 || decide (t.2.toNat < 16)) = true) (fun p => n - (intOf p).toNat)
  case atStart => exact ⟨0, by omega, rfl, by simp⟩
  case round =>
    obtain ⟨i, hi, rfl, hal⟩ := hrel
    by_cases hlt : i < n
    · have hci : (i : Int) < (n : Int) := by omega
      obtain ⟨b, o, t, hA, hbb, ht, hc0, hc1⟩ := rdT_at HR.out hlt
      subst hA
      obtain ⟨v, x⟩ := t
      dsimp only at hc0
      have HT := Lib.hid ht
      have HAL := Lib.hid hal
      clear ht hal
      cases v with
      | true =>
        by_cases h16 : x.toNat < 16
        · have d16 : decide ((16 : Int) ≤ (x.toNat : Int)) = false := by simp; omega
          have H16 := Lib.hid h16
          clear h16
          repeat go_step
          go_round
          case rel => exact ⟨i + 1, by omega, by go_num, all_upto HT.out HAL.out (by simp [H16.out])⟩
          case measure => simp [intOf]; omega
        · have d16 : decide ((16 : Int) ≤ (x.toNat : Int)) = true := by simp; omega
          have H16 := Lib.hid h16
          clear h16
          repeat go_step
          go_ret
          exact ⟨by unfold mayA; rw [all_at HT.out (by simp; have := H16.out; omega)]; rfl, hbw⟩
      | false =>
        repeat go_step
        go_round
        case rel => exact ⟨i + 1, by omega, by go_num, all_upto HT.out HAL.out rfl⟩
        case measure => simp [intOf]; omega
    · obtain rfl : i = n := by omega
      have hm : mayA (p, l) = decide (i ≤ 6) := by unfold mayA; rw [all_whole (by have := HL.out; omega) hal, HL.out]; rfl
      have HM := Lib.hid hm
      clear hal hm
      repeat go_step
      go_ret
      exact ⟨by rw [HM.out]; simp; omega, hbw⟩
theorem take_eq {α : Type} {a b : List α} {i : Nat} {x y : α} (h1 : a[i]? = some x) (h2 : b[i]? = some y) (h : a.take i = b.take i) (he : x = y) : a.take (i + 1) = b.take (i + 1) := by
  rw [List.take_add_one, List.take_add_one, h1, h2, h, he]
theorem all_eq {α : Type} {a b : List α} {n : Nat} (ha : a.length = n) (hb : b.length = n) (h : a.take n = b.take n) : a = b := by
  rwa [List.take_of_length_le (by omega), List.take_of_length_le (by omega)] at h
theorem u32ne {x y : UInt32} (h : x ≠ y) : ((x.toNat : Int) != (y.toNat : Int)) = true := by
  have : x.toNat ≠ y.toNat := fun e => h (UInt32.toNat_inj.1 e)
  simp; omega
theorem u32ne' {x y : UInt32} (h : x ≠ y) : ((x.toNat : Int) == (y.toNat : Int)) = false := by
  have : x.toNat ≠ y.toNat := fun e => h (UInt32.toNat_inj.1 e)
  simp; omega
theorem belowDrewQ {B : Nat} {a w : World} (h : Below B a w) (n : Nat) : Below B a (w.drewN n) := ⟨h.os, h.tape, h.output, h.size, h.block⟩
theorem below2 (w : World) (x y : Obj) : Below w.heap.size w ((w.alloc x).alloc y) := ((Below.refl _ _).alloc (Nat.le_refl _) x).alloc (by simp) y
theorem Bk.second (w : World) (x : Obj) (t : TypeId) (cs : List Value) : Bk ((w.alloc x).alloc (.cells cs.toArray t)) (w.heap.size + 1) t cs := by
  have h := Bk.new (w.alloc x) t cs
  simpa using h
abbrev SlA := Option Addr × Nat × Nat
abbrev SlA.val (r : SlA) : Value := .slice r.1 r.2.1 r.2.2
def liC (z : Li × SlA) : List Value := [.bool z.1.1, nv z.1.2.1, z.2.val]
theorem flat_at {α β : Type} (f : α → List β) (k : Nat) (hf : ∀ x, (f x).length = k) {l : List α} {i : Nat} {x : α} (h : l[i]? = some x) (j : Nat) (hj : j < k) : (l.flatMap f)[i * k + j]? = (f x)[j]? := by
  induction l generalizing i with
  | nil => simp at h
  | cons y l ih =>
    rw [List.flatMap_cons]
    cases i with
    | zero =>
      simp only [List.getElem?_cons_zero, Option.some.injEq] at h
      subst h
      rw [Nat.zero_mul, Nat.zero_add, List.getElem?_append_left (by rw [hf]; exact hj)]
    | succ i =>
      rw [List.getElem?_cons_succ] at h
      have e : (i + 1) * k + j = (f y).length + (i * k + j) := by rw [hf, Nat.add_mul]; omega
      rw [e, List.getElem?_append_right (by omega), Nat.add_sub_cancel_left]
      exact ih h
/-- A slice of conditions that is read: each one's slice of terms, and what it says. -/
structure RdL (w : World) (B : Nat) (A : Option Addr) (n : Nat) (R : List SlA) (L : List Li) : Prop where
  lenR : R.length = n
  lenL : L.length = n
  top : Rd w B 3 A n ((L.zip R).flatMap liC)
  row : ∀ (i : Nat) (r : SlA) (x : Li), R[i]? = some r → L[i]? = some x → RdT w B r.1 r.2.1 x.2.2
section
variable {w w' : World} {B n : Nat} {A : Option Addr} {R : List SlA} {L : List Li}
theorem RdL.below (h : RdL w B A n R L) (hb : Below B w w') : RdL w' B A n R L :=
  ⟨h.lenR, h.lenL, h.top.below hb, fun i r x h1 h2 => (h.row i r x h1 h2).below hb⟩
theorem RdL.more {B' : Nat} (h : RdL w B A n R L) (hB : B ≤ B') : RdL w B' A n R L :=
  ⟨h.lenR, h.lenL, h.top.more hB, fun i r x h1 h2 => (h.row i r x h1 h2).more hB⟩
theorem RdL.at_ (h : RdL w B A n R L) {i : Nat} (hi : i < n) :
    ∃ b o g p l Ai ni ci, A = some ⟨b, o, none⟩ ∧ b < B ∧ L[i]? = some (g, p, l) ∧ w.cell? ⟨b, o + i * 3, none⟩ = some (.bool g) ∧ w.cell? ⟨b, o + i * 3 + 1, none⟩ = some (nv p) ∧ w.cell? ⟨b, o + i * 3 + 2, none⟩ = some (.slice Ai ni ci) ∧ RdT w B Ai ni l := by
  obtain ⟨b, o, e, hb, hc⟩ := h.top.2 (by omega)
  have h1 : R[i]? = some (R[i]'(by rw [h.lenR]; exact hi)) := List.getElem?_eq_getElem _
  have h2 : L[i]? = some (L[i]'(by rw [h.lenL]; exact hi)) := List.getElem?_eq_getElem _
  generalize R[i]'(by rw [h.lenR]; exact hi) = r at h1
  generalize L[i]'(by rw [h.lenL]; exact hi) = x at h2
  obtain ⟨Ai, ni, ci⟩ := r
  obtain ⟨g, p, l⟩ := x
  have hz : (L.zip R)[i]? = some ((g, p, l), (Ai, ni, ci)) := by
    rw [List.getElem?_zip_eq_some]
    exact ⟨h2, h1⟩
  have hl : ∀ x : Li × SlA, (liC x).length = 3 := fun _ => rfl
  have f0 := flat_at liC 3 hl hz 0 (by omega)
  have f1 := flat_at liC 3 hl hz 1 (by omega)
  have f2 := flat_at liC 3 hl hz 2 (by omega)
  exact ⟨b, o, g, p, l, Ai, ni, ci, e, hb, h2, hc _ _ f0, hc _ _ f1, hc _ _ f2, h.row i _ _ h1 h2⟩
end
theorem box3 (w : World) (p : UInt32) (a b : Value) (t : TypeId) : ∃ W, W = w.alloc (.cells #[nv p, a, b] t) ∧ Bk W w.heap.size t [nv p, a, b] ∧ Below w.heap.size w W := ⟨_, rfl, Bk.new w _ _, (Below.refl _ _).alloc (Nat.le_refl _) _⟩
theorem Bk.read {w w' : World} {g : Nat} {t : TypeId} {cs : List Value} (h : Bk w g t cs) (hb : Below w.heap.size w w') (i : Nat) {v : Value} (hv : cs[i]? = some v) : w'.cell? ⟨g, i, none⟩ = some v := by
  rw [(h.later hb).cell, hv]
set_option maxRecDepth 100000 in
set_option maxHeartbeats 1000000 in
theorem rAMay_any (p : UInt32) (A : Option Addr) (n c : Nat) (l : List Tm) (A1 : Option Addr) (n1 c1 : Nat) (R : List SlA) (L : List Li) (w : World) (h : RdT w w.heap.size A n l) (h1 : RdL w w.heap.size A1 n1 R L)
    (hn : n ≤ 1000000) (hn1 : n1 ≤ 1000000) (hk : ∀ x ∈ L, x.2.2.length ≤ 1000000) :
    Calls Try.prog 20 #[.agg #[nv p, .slice A n c, .slice A1 n1 c1]] w fun e w' => e = .returned (.bool (mayC ((p, l), L))) ∧ Below w.heap.size w w' := by
  have HL := Lib.hid (rdT_len h)
  have HL1 := Lib.hid h1.lenL
  have HK := Lib.hid hk
  obtain ⟨W, hW, hb, hbw⟩ := box3 w p (.slice A n c) (.slice A1 n1 c1) 36
  have HW := Lib.hid hW
  have HB := Lib.hid hb
  have HR := Lib.hid (h.below hbw)
  have HR1 := Lib.hid (h1.below hbw)
  clear hW hb h h1 hk
  go_enter Try.func20, Try.ntmps20
  repeat (first | go_skip | go_guarded | go_step)
  rw [← HW.out]
  go_loopw [3] (fun p wr => ∃ i : Nat, i ≤ n1 ∧ p = .int .i64 (i : Int) ∧ (L.take i).all (fun x => mayA x.2) = true ∧ Below W.heap.size W wr) (fun p _ => n1 - (intOf p).toNat)
  case atStart => exact ⟨0, by omega, rfl, by simp, Below.refl _ _⟩
  case round =>
    obtain ⟨i, hi, rfl, hal, hbr⟩ := hrel
    have j0 := HB.out.read hbr 0 rfl
    have j1 := HB.out.read hbr 1 rfl
    have j2 := HB.out.read hbr 2 rfl
    have HAL := Lib.hid hal
    clear hal
    by_cases hlt : i < n1
    · have hci : (i : Int) < (n1 : Int) := by omega
      obtain ⟨b, o, g, q, l2, Ai, ni, ci, hA, hbb, hx, hc0, hc1, hc2, hrow⟩ := (HR1.out.below (hbr.mono hbw.size)).at_ hlt
      subst hA
      have hni : ni ≤ 1000000 := by
        have := HK.out _ (List.mem_of_getElem? hx)
        have := rdT_len hrow
        dsimp only at *
        omega
      have HX := Lib.hid hx
      have HRO := Lib.hid (hrow.more (Nat.le_trans hbw.size hbr.size))
      have HBR := Lib.hid hbr
      clear hx hrow hbr
      repeat (first | go_skip | go_guarded | go_step)
      refine (rMayAtom_any q Ai ni ci l2 wr HRO.out hni).mono ?_
      rintro e W2 ⟨rfl, hb2⟩
      dsimp only
      have HB2 := Lib.hid hb2
      clear hb2
      cases hm : mayA (q, l2) with
      | false =>
        have HM := Lib.hid hm
        clear hm
        repeat (first | go_skip | go_guarded | go_step)
        go_ret
        refine ⟨?_, hbw.trans ((HBR.out.trans (HB2.out.mono HBR.out.size)).mono hbw.size)⟩
        unfold mayC
        rw [all_at HX.out HM.out]
        rfl
      | true =>
        have HM := Lib.hid hm
        clear hm
        repeat (first | go_skip | go_guarded | go_step)
        go_roundw
        case rel => exact ⟨i + 1, by omega, by go_num, all_upto HX.out HAL.out HM.out, HBR.out.trans (HB2.out.mono HBR.out.size)⟩
        case measure => simp [intOf]; omega
    · obtain rfl : i = n1 := by omega
      have HBR := Lib.hid hbr
      have HRO := Lib.hid ((HR.out.below (hbr.mono hbw.size)).more (Nat.le_trans hbw.size hbr.size))
      clear hbr
      have hv : mayC ((p, l), L) = (mayA (p, l) && decide (i ≤ 8)) := by
        unfold mayC
        rw [all_whole (by have := HL1.out; omega) HAL.out, HL1.out]
        rfl
      have HV := Lib.hid hv
      clear hv
      repeat (first | go_skip | go_guarded | go_step)
      refine (rMayAtom_any p A n c l wr HRO.out hn).mono ?_
      rintro e W2 ⟨rfl, hb2⟩
      dsimp only
      have j2 := HB.out.read (HBR.out.trans (hb2.mono HBR.out.size)) 2 rfl
      have HB2 := Lib.hid hb2
      clear hb2
      cases hm : mayA (p, l) with
      | false =>
        have HM := Lib.hid hm
        clear hm
        repeat (first | go_skip | go_guarded | go_step)
        go_ret
        exact ⟨by rw [HV.out, HM.out]; rfl, hbw.trans ((HBR.out.trans (HB2.out.mono HBR.out.size)).mono hbw.size)⟩
      | true =>
        have HM := Lib.hid hm
        clear hm
        repeat (first | go_skip | go_guarded | go_step)
        go_ret
        exact ⟨by rw [HV.out, HM.out]; simp; omega, hbw.trans ((HBR.out.trans (HB2.out.mono HBR.out.size)).mono hbw.size)⟩
end Go.Proofs.Ytggnhgfickkgdaa
