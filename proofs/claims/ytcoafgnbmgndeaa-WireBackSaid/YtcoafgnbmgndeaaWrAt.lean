/- Layer 5 (atoms), the document's, as layer 6 calls it; rows of terms and of numbers. -/
import Derived.Test.YtcoafgnbmgndeaaAtA
import Derived.Deep.QuietTactic
import Derived.BigQuiet
import Derived.StillTailTactics
import Derived.Great.BuildSlice
set_option linter.unusedVariables false
set_option linter.unusedSimpArgs false
namespace Go.Proofs.Ytcoafgnbmgndeaa
open Go Go.RowKit
set_option maxRecDepth 100000 in
set_option maxHeartbeats 1000000 in
theorem rMayAtom_any (p : UInt32) (A : Option Addr) (n c : Nat) (l : List Tm) (w : World) (h : RdT w w.heap.size A n l) (hn : n ≤ 1000000) :
    Calls Try.prog 47 #[.agg #[nv p, .slice A n c]] w fun e w' => e = .returned (.bool (mayA (p, l))) ∧ Below w.heap.size w w' := by
  have HL := Lib.hid (rdT_len h)
  obtain ⟨W, hW, hb, hbw⟩ : ∃ W, W = w.alloc (.cells #[nv p, .slice A n c] 42) ∧ Bk W w.heap.size 42 [nv p, .slice A n c] ∧ Below w.heap.size w W := ⟨_, rfl, Bk.new w _ _, (Below.refl _ _).alloc (Nat.le_refl _) _⟩
  have HR := Lib.hid (h.below hbw)
  have HW := Lib.hid hW
  have c1 := hb.cell 1
  rw [show [nv p, Value.slice A n c][1]? = some (Value.slice A n c) from rfl] at c1
  clear h hW
  go_enter Try.func47, Try.ntmps47
  repeat go_step
  rw [← HW.out]
  go_loop [3] (fun p => ∃ i : Nat, i ≤ n ∧ p = .int .i64 (i : Int) ∧ (l.take i).all (fun t => !t.1 || decide (t.2.toNat < 16)) = true) (fun p => n - (intOf p).toNat)
  case atStart => exact ⟨0, by omega, rfl, by simp⟩
  case round =>
    obtain ⟨i, hi, rfl, hal⟩ := hrel
    by_cases hlt : i < n
    · have hci : (i : Int) < (n : Int) := by omega
      obtain ⟨b, o, t, hA, hbb, ht, hc0, hc1⟩ := rdT_at HR.out hlt
      subst hA
      obtain ⟨v, x⟩ := t
      dsimp only at hc0
      have HT := Lib.hid ht
      have HAL := Lib.hid hal
      clear ht hal
      cases v with
      | true =>
        by_cases h16 : x.toNat < 16
        · have d16 : decide ((16 : Int) ≤ (x.toNat : Int)) = false := by simp; omega
          have H16 := Lib.hid h16
          clear h16
          repeat go_step
          go_round
          case rel => exact ⟨i + 1, by omega, by go_num, all_upto HT.out HAL.out (by simp [H16.out])⟩
          case measure => simp [intOf]; omega
        · have d16 : decide ((16 : Int) ≤ (x.toNat : Int)) = true := by simp; omega
          have H16 := Lib.hid h16
          clear h16
          repeat go_step
          go_ret
          exact ⟨by unfold mayA; rw [all_at HT.out (by simp; have := H16.out; omega)]; rfl, hbw⟩
      | false =>
        repeat go_step
        go_round
        case rel => exact ⟨i + 1, by omega, by go_num, all_upto HT.out HAL.out rfl⟩
        case measure => simp [intOf]; omega
    · obtain rfl : i = n := by omega
      have hm : mayA (p, l) = decide (i ≤ 6) := by unfold mayA; rw [all_whole (by have := HL.out; omega) hal, HL.out]; rfl
      have HM := Lib.hid hm
      clear hal hm
      repeat go_step
      go_ret
      exact ⟨by rw [HM.out]; simp; omega, hbw⟩
/-! ### Terms against each other -/
theorem run_eqT (x y : Tm) (W : World) : (Op.equalIn 10000 54 (.agg #[.bool x.1, nv x.2]) (.agg #[.bool y.1, nv y.2])).run Try.prog W = .ok (decide (x = y)) W := by
  have e : decide (x = y) = (x.1 == y.1 && x.2 == y.2) := by
    obtain ⟨a, b⟩ := x
    obtain ⟨c, d⟩ := y
    rw [Bool.eq_iff_iff]
    simp
  have e2 : ∀ a b : UInt32, ((a.toNat : Int) == (b.toNat : Int)) = (a == b) := fun a b => by
    rw [Bool.eq_iff_iff, beq_iff_eq, beq_iff_eq]
    exact ⟨fun h => UInt32.toNat_inj.1 (by omega), fun h => by rw [h]⟩
  rw [e]
  go_simp
  split <;> (try split) <;> simp_all
theorem take_eq {α : Type} {a b : List α} {i : Nat} {x y : α} (h1 : a[i]? = some x) (h2 : b[i]? = some y) (h : a.take i = b.take i) (he : x = y) : a.take (i + 1) = b.take (i + 1) := by
  rw [List.take_add_one, List.take_add_one, h1, h2, h, he]
theorem ne_at {α : Type} {a b : List α} {i : Nat} {x y : α} (h1 : a[i]? = some x) (h2 : b[i]? = some y) (he : x ≠ y) : a ≠ b := by
  rintro rfl
  rw [h1] at h2
  exact he (Option.some.inj h2)
theorem all_eq {α : Type} {a b : List α} {n : Nat} (ha : a.length = n) (hb : b.length = n) (h : a.take n = b.take n) : a = b := by
  rwa [List.take_of_length_le (by omega), List.take_of_length_le (by omega)] at h
theorem u32ne {x y : UInt32} (h : x ≠ y) : ((x.toNat : Int) != (y.toNat : Int)) = true := by
  have : x.toNat ≠ y.toNat := fun e => h (UInt32.toNat_inj.1 e)
  simp; omega
theorem u32ne' {x y : UInt32} (h : x ≠ y) : ((x.toNat : Int) == (y.toNat : Int)) = false := by
  have : x.toNat ≠ y.toNat := fun e => h (UInt32.toNat_inj.1 e)
  simp; omega
theorem belowDrewQ {B : Nat} {a w : World} (h : Below B a w) (n : Nat) : Below B a (w.drewN n) := ⟨h.os, h.tape, h.output, h.size, h.block⟩
theorem below2 (w : World) (x y : Obj) : Below w.heap.size w ((w.alloc x).alloc y) := ((Below.refl _ _).alloc (Nat.le_refl _) x).alloc (by simp) y
theorem Bk.second (w : World) (x : Obj) (t : TypeId) (cs : List Value) : Bk ((w.alloc x).alloc (.cells cs.toArray t)) (w.heap.size + 1) t cs := by
  have h := Bk.new (w.alloc x) t cs
  simpa using h
set_option maxRecDepth 100000 in
set_option maxHeartbeats 2000000 in
theorem rSameAtom_any (p p' : UInt32) (A A' : Option Addr) (n c n' c' : Nat) (l l' : List Tm) (w : World) (h : RdT w w.heap.size A n l) (h' : RdT w w.heap.size A' n' l') (hn : n ≤ 1000000) :
    Calls Try.prog 53 #[.agg #[nv p, .slice A n c], .agg #[nv p', .slice A' n' c']] w fun e w' => e = .returned (.bool (decide (((p, l) : AtL) = (p', l')))) ∧ Below w.heap.size w w' := by
  have HL := Lib.hid (rdT_len h)
  have HL' := Lib.hid (rdT_len h')
  obtain ⟨W, hW, hb, hb', hbw⟩ : ∃ W, W = (w.alloc (.cells #[nv p, .slice A n c] 42)).alloc (.cells #[nv p', .slice A' n' c'] 42) ∧ Bk W w.heap.size 42 [nv p, .slice A n c] ∧
      Bk W (w.heap.size + 1) 42 [nv p', .slice A' n' c'] ∧ Below w.heap.size w W := ⟨_, rfl, (Bk.new w _ _).alloc _, Bk.second w _ _ _, below2 _ _ _⟩
  have HR := Lib.hid (h.below hbw)
  have HR' := Lib.hid (h'.below hbw)
  have HW := Lib.hid hW
  have HB := Lib.hid hb
  have HB' := Lib.hid hb'
  have c0 := hb.cell 0
  rw [show [nv p, Value.slice A n c][0]? = some (nv p) from rfl] at c0
  have c1 := hb.cell 1
  rw [show [nv p, Value.slice A n c][1]? = some (Value.slice A n c) from rfl] at c1
  have c0' := hb'.cell 0
  rw [show [nv p', Value.slice A' n' c'][0]? = some (nv p') from rfl] at c0'
  have c1' := hb'.cell 1
  rw [show [nv p', Value.slice A' n' c'][1]? = some (Value.slice A' n' c') from rfl] at c1'
  clear h h' hW hb hb'
  by_cases hp : p = p'
  · subst hp
    have hpp : ((p.toNat : Int) != (p.toNat : Int)) = false := by simp
    by_cases hnn : n = n'
    · subst hnn
      have hd : ((n : Int) != (n : Int)) = false := by simp
      go_enter Try.func53, Try.ntmps53
      repeat go_step
      rw [← HW.out]
      repeat go_step
      have hs0 := Nat.le_refl W.heap.size
      go_loopw [5] (fun p wr => ∃ i : Nat, i ≤ n ∧ p = .int .i64 (i : Int) ∧ l.take i = l'.take i ∧ Below W.heap.size W wr) (fun p _ => n - (intOf p).toNat)
      case atStart => exact ⟨0, by omega, rfl, by simp, Below.refl _ _⟩
      case round =>
        obtain ⟨i, hi, rfl, htk, hbr⟩ := hrel
        have d1 := (HB.out.later hbr).cell 1
        rw [show [nv p, Value.slice A n c][1]? = some (Value.slice A n c) from rfl] at d1
        have d1' := (HB'.out.later hbr).cell 1
        rw [show [nv p, Value.slice A' n c'][1]? = some (Value.slice A' n c') from rfl] at d1'
        by_cases hlt : i < n
        · have hci : (i : Int) < (n : Int) := by omega
          obtain ⟨b, o, t, hA, hbb, ht, hc0, hc1⟩ := rdT_at (HR.out.below (hbr.mono hbw.size)) hlt
          obtain ⟨b', o', t', hA', hbb', ht', hc0', hc1'⟩ := rdT_at (HR'.out.below (hbr.mono hbw.size)) hlt
          subst hA hA'
          have heq := run_eqT t t'
          have HT := Lib.hid ht
          have HT' := Lib.hid ht'
          have HTK := Lib.hid htk
          have HBR := Lib.hid hbr
          clear ht ht' htk hbr c0 c0' c1 c1'
          by_cases he : t = t'
          · have hde : decide (t = t') = true := by simp [he]
            have HE := Lib.hid he
            clear he
            rw [hde] at heq
            repeat go_step
            go_quiet (fail)
            repeat go_step
            go_roundw
            case rel => exact ⟨i + 1, by omega, by go_num, take_eq HT.out HT'.out HTK.out HE.out, belowDrewQ HBR.out _⟩
            case measure => simp [intOf]; omega
          · have hde : decide (t = t') = false := by simp [he]
            have HE := Lib.hid he
            clear he
            rw [hde] at heq
            repeat go_step
            go_quiet (fail)
            repeat go_step
            go_ret
            refine ⟨?_, hbw.trans ((belowDrewQ HBR.out _).mono hbw.size)⟩
            have := ne_at HT.out HT'.out HE.out
            simp [this]
        · obtain rfl : i = n := by omega
          have he : l = l' := all_eq HL.out HL'.out htk
          have HE := Lib.hid he
          have HBR := Lib.hid hbr
          clear he htk hbr
          repeat go_step
          go_ret
          exact ⟨by rw [HE.out]; simp, hbw.trans (HBR.out.mono hbw.size)⟩
    · have hd : ((n : Int) != (n' : Int)) = true := by simp; omega
      have he : l ≠ l' := fun e => hnn (by rw [← HL.out, ← HL'.out, e])
      have HE := Lib.hid he
      clear he hnn
      go_enter Try.func53, Try.ntmps53
      repeat go_step
      rw [← HW.out]
      repeat go_step
      go_ret
      exact ⟨by simp [HE.out], hbw⟩
  · have hpp := u32ne hp
    have HP := Lib.hid hp
    clear hp
    go_enter Try.func53, Try.ntmps53
    repeat go_step
    rw [← HW.out]
    repeat go_step
    go_ret
    exact ⟨by simp [HP.out], hbw⟩

abbrev SlA := Option Addr × Nat × Nat
abbrev SlA.val (r : SlA) : Value := .slice r.1 r.2.1 r.2.2
def liC (z : Li × SlA) : List Value := [.bool z.1.1, nv z.1.2.1, z.2.val]
theorem flat_at {α β : Type} (f : α → List β) (k : Nat) (hf : ∀ x, (f x).length = k) {l : List α} {i : Nat} {x : α} (h : l[i]? = some x) (j : Nat) (hj : j < k) : (l.flatMap f)[i * k + j]? = (f x)[j]? := by
  induction l generalizing i with
  | nil => simp at h
  | cons y l ih =>
    rw [List.flatMap_cons]
    cases i with
    | zero =>
      simp only [List.getElem?_cons_zero, Option.some.injEq] at h
      subst h
      rw [Nat.zero_mul, Nat.zero_add, List.getElem?_append_left (by rw [hf]; exact hj)]
    | succ i =>
      rw [List.getElem?_cons_succ] at h
      have e : (i + 1) * k + j = (f y).length + (i * k + j) := by rw [hf, Nat.add_mul]; omega
      rw [e, List.getElem?_append_right (by omega), Nat.add_sub_cancel_left]
      exact ih h
/-- A slice of conditions that is read: each one's slice of terms, and what it says. -/
structure RdL (w : World) (B : Nat) (A : Option Addr) (n : Nat) (R : List SlA) (L : List Li) : Prop where
  lenR : R.length = n
  lenL : L.length = n
  top : Rd w B 3 A n ((L.zip R).flatMap liC)
  row : ∀ (i : Nat) (r : SlA) (x : Li), R[i]? = some r → L[i]? = some x → RdT w B r.1 r.2.1 x.2.2
section
variable {w w' : World} {B n : Nat} {A : Option Addr} {R : List SlA} {L : List Li}
theorem RdL.below (h : RdL w B A n R L) (hb : Below B w w') : RdL w' B A n R L :=
  ⟨h.lenR, h.lenL, h.top.below hb, fun i r x h1 h2 => (h.row i r x h1 h2).below hb⟩
theorem RdL.more {B' : Nat} (h : RdL w B A n R L) (hB : B ≤ B') : RdL w B' A n R L :=
  ⟨h.lenR, h.lenL, h.top.more hB, fun i r x h1 h2 => (h.row i r x h1 h2).more hB⟩
theorem RdL.at_ (h : RdL w B A n R L) {i : Nat} (hi : i < n) :
    ∃ b o g p l Ai ni ci, A = some ⟨b, o, none⟩ ∧ b < B ∧ L[i]? = some (g, p, l) ∧ w.cell? ⟨b, o + i * 3, none⟩ = some (.bool g) ∧ w.cell? ⟨b, o + i * 3 + 1, none⟩ = some (nv p) ∧ w.cell? ⟨b, o + i * 3 + 2, none⟩ = some (.slice Ai ni ci) ∧ RdT w B Ai ni l := by
  obtain ⟨b, o, e, hb, hc⟩ := h.top.2 (by omega)
  have h1 : R[i]? = some (R[i]'(by rw [h.lenR]; exact hi)) := List.getElem?_eq_getElem _
  have h2 : L[i]? = some (L[i]'(by rw [h.lenL]; exact hi)) := List.getElem?_eq_getElem _
  generalize R[i]'(by rw [h.lenR]; exact hi) = r at h1
  generalize L[i]'(by rw [h.lenL]; exact hi) = x at h2
  obtain ⟨Ai, ni, ci⟩ := r
  obtain ⟨g, p, l⟩ := x
  have hz : (L.zip R)[i]? = some ((g, p, l), (Ai, ni, ci)) := by
    rw [List.getElem?_zip_eq_some]
    exact ⟨h2, h1⟩
  have hl : ∀ x : Li × SlA, (liC x).length = 3 := fun _ => rfl
  have f0 := flat_at liC 3 hl hz 0 (by omega)
  have f1 := flat_at liC 3 hl hz 1 (by omega)
  have f2 := flat_at liC 3 hl hz 2 (by omega)
  exact ⟨b, o, g, p, l, Ai, ni, ci, e, hb, h2, hc _ _ f0, hc _ _ f1, hc _ _ f2, h.row i _ _ h1 h2⟩
end
def bigC (c : Cl) : Bool := decide (100 < c.2.length) || decide (100 < c.1.2.length) || c.2.any fun x => decide (100 < x.2.2.length)
theorem box3 (w : World) (p : UInt32) (a b : Value) (t : TypeId) : ∃ W, W = w.alloc (.cells #[nv p, a, b] t) ∧ Bk W w.heap.size t [nv p, a, b] ∧ Below w.heap.size w W := ⟨_, rfl, Bk.new w _ _, (Below.refl _ _).alloc (Nat.le_refl _) _⟩
theorem Bk.read {w w' : World} {g : Nat} {t : TypeId} {cs : List Value} (h : Bk w g t cs) (hb : Below w.heap.size w w') (i : Nat) {v : Value} (hv : cs[i]? = some v) : w'.cell? ⟨g, i, none⟩ = some v := by
  rw [(h.later hb).cell, hv]
set_option maxRecDepth 100000 in
set_option maxHeartbeats 1000000 in
theorem rBig_any (p : UInt32) (A : Option Addr) (n c : Nat) (w : World) :
    Calls Try.prog 43 #[.agg #[nv p, .slice A n c]] w fun e w' => e = .returned (.bool (decide (100 < n))) ∧ Below w.heap.size w w' := by
  by_cases hn : 100 < n
  · have hd : decide ((100 : Int) < (n : Int)) = true := by simp; omega
    have HN := Lib.hid (decide_eq_true hn)
    clear hn
    go_enter Try.func43, Try.ntmps43
    repeat (first | go_skip | go_guarded | go_step)
    go_ret
    exact ⟨by rw [HN.out]; rfl, (Below.refl _ _).alloc (Nat.le_refl _) _⟩
  · have hd : decide ((100 : Int) < (n : Int)) = false := by simp; omega
    have HN := Lib.hid (decide_eq_false hn)
    clear hn
    go_enter Try.func43, Try.ntmps43
    repeat (first | go_skip | go_guarded | go_step)
    go_ret
    exact ⟨by rw [HN.out]; rfl, (Below.refl _ _).alloc (Nat.le_refl _) _⟩
set_option maxRecDepth 100000 in
set_option maxHeartbeats 1000000 in
theorem rBigClause_any (p : UInt32) (A : Option Addr) (n c : Nat) (l : List Tm) (A1 : Option Addr) (n1 c1 : Nat) (R : List SlA) (L : List Li) (w : World) (h : RdT w w.heap.size A n l) (h1 : RdL w w.heap.size A1 n1 R L) :
    Calls Try.prog 18 #[.agg #[nv p, .slice A n c, .slice A1 n1 c1]] w fun e w' => e = .returned (.bool (bigC ((p, l), L))) ∧ Below w.heap.size w w' := by
  have HL := Lib.hid (rdT_len h)
  have HL1 := Lib.hid h1.lenL
  obtain ⟨W, hW, hb, hbw⟩ := box3 w p (.slice A n c) (.slice A1 n1 c1) 45
  have HW := Lib.hid hW
  have HB := Lib.hid hb
  have HR1 := Lib.hid (h1.below hbw)
  have k0 := hb.read (Below.refl _ _) 0 rfl
  have k1 := hb.read (Below.refl _ _) 1 rfl
  have k2 := hb.read (Below.refl _ _) 2 rfl
  clear hW hb h h1
  by_cases hn : 100 < n1
  · have hd : decide ((100 : Int) < (n1 : Int)) = true := by simp; omega
    have hv : bigC ((p, l), L) = true := by unfold bigC; rw [HL1.out, decide_eq_true hn]; rfl
    have HV := Lib.hid hv
    clear hv hn
    go_enter Try.func18, Try.ntmps18
    repeat (first | go_skip | go_guarded | go_step)
    rw [← HW.out]
    repeat (first | go_skip | go_guarded | go_step)
    go_ret
    exact ⟨by rw [HV.out]; rfl, hbw⟩
  · have hd : decide ((100 : Int) < (n1 : Int)) = false := by simp; omega
    have hv : bigC ((p, l), L) = (decide (100 < n) || L.any fun x => decide (100 < x.2.2.length)) := by unfold bigC; rw [HL1.out, decide_eq_false hn, HL.out]; simp
    have HV := Lib.hid hv
    clear hv
    go_enter Try.func18, Try.ntmps18
    repeat (first | go_skip | go_guarded | go_step)
    rw [← HW.out]
    repeat (first | go_skip | go_guarded | go_step)
    refine (rBig_any p A n c W).mono ?_
    rintro e W1 ⟨rfl, hb1⟩
    dsimp only
    have HB1 := Lib.hid hb1
    clear hb1
    by_cases hn1 : 100 < n
    · rw [decide_eq_true hn1]
      have HN1 := Lib.hid (decide_eq_true hn1)
      clear hn1
      repeat (first | go_skip | go_guarded | go_step)
      go_ret
      exact ⟨by rw [HV.out, HN1.out]; rfl, hbw.trans (HB1.out.mono hbw.size)⟩
    · rw [decide_eq_false hn1]
      have HN1 := Lib.hid (decide_eq_false hn1)
      clear hn1
      repeat (first | go_skip | go_guarded | go_step)
      go_loopw [3] (fun p wr => ∃ i : Nat, i ≤ n1 ∧ p = .int .i64 (i : Int) ∧ (L.take i).all (fun x => !decide (100 < x.2.2.length)) = true ∧ Below W.heap.size W wr) (fun p _ => n1 - (intOf p).toNat)
      case atStart => exact ⟨0, by omega, rfl, by simp, HB1.out⟩
      case round =>
        obtain ⟨i, hi, rfl, hal, hbr⟩ := hrel
        have j2 := HB.out.read hbr 2 rfl
        have HAL := Lib.hid hal
        clear hal
        by_cases hlt : i < n1
        · have hci : (i : Int) < (n1 : Int) := by omega
          obtain ⟨b, o, g, q, l2, Ai, ni, ci, hA, hbb, hx, hc0, hc1, hc2, hrow⟩ := (HR1.out.below (hbr.mono hbw.size)).at_ hlt
          subst hA
          have HX := Lib.hid hx
          have HLr := Lib.hid (rdT_len hrow)
          have HBR := Lib.hid hbr
          clear hx hrow hbr
          repeat (first | go_skip | go_guarded | go_step)
          refine (rBig_any q Ai ni ci wr).mono ?_
          rintro e W2 ⟨rfl, hb2⟩
          dsimp only
          have HB2 := Lib.hid hb2
          clear hb2
          by_cases hn2 : 100 < ni
          · rw [decide_eq_true hn2]
            have HN2 := Lib.hid hn2
            clear hn2
            repeat (first | go_skip | go_guarded | go_step)
            go_ret
            refine ⟨?_, hbw.trans ((HBR.out.trans (HB2.out.mono HBR.out.size)).mono hbw.size)⟩
            have : (L.any fun x => decide (100 < x.2.2.length)) = true := by
              rw [List.any_eq_true]
              exact ⟨_, List.mem_of_getElem? HX.out, by have := HLr.out; have := HN2.out; simp; omega⟩
            rw [HV.out, this]
            simp
          · rw [decide_eq_false hn2]
            have HN2 := Lib.hid hn2
            clear hn2
            repeat (first | go_skip | go_guarded | go_step)
            go_roundw
            case rel => exact ⟨i + 1, by omega, by go_num, all_upto HX.out HAL.out (by have := HLr.out; have := HN2.out; simp; omega), HBR.out.trans (HB2.out.mono HBR.out.size)⟩
            case measure => simp [intOf]; omega
        · obtain rfl : i = n1 := by omega
          have HBR := Lib.hid hbr
          clear hbr
          repeat (first | go_skip | go_guarded | go_step)
          go_ret
          refine ⟨?_, hbw.trans (HBR.out.mono hbw.size)⟩
          have h := all_whole (by have := HL1.out; omega) HAL.out
          have : (L.any fun x => decide (100 < x.2.2.length)) = false := by
            rw [List.any_eq_false]
            intro x hx
            have := List.all_eq_true.1 h x hx
            simpa using this
          rw [HV.out, HN1.out, this]
          rfl
set_option maxRecDepth 100000 in
set_option maxHeartbeats 1000000 in
theorem rAMay_any (p : UInt32) (A : Option Addr) (n c : Nat) (l : List Tm) (A1 : Option Addr) (n1 c1 : Nat) (R : List SlA) (L : List Li) (w : World) (h : RdT w w.heap.size A n l) (h1 : RdL w w.heap.size A1 n1 R L)
    (hn : n ≤ 1000000) (hn1 : n1 ≤ 1000000) (hk : ∀ x ∈ L, x.2.2.length ≤ 1000000) :
    Calls Try.prog 20 #[.agg #[nv p, .slice A n c, .slice A1 n1 c1]] w fun e w' => e = .returned (.bool (mayC ((p, l), L))) ∧ Below w.heap.size w w' := by
  have HL := Lib.hid (rdT_len h)
  have HL1 := Lib.hid h1.lenL
  have HK := Lib.hid hk
  obtain ⟨W, hW, hb, hbw⟩ := box3 w p (.slice A n c) (.slice A1 n1 c1) 45
  have HW := Lib.hid hW
  have HB := Lib.hid hb
  have HR := Lib.hid (h.below hbw)
  have HR1 := Lib.hid (h1.below hbw)
  clear hW hb h h1 hk
  go_enter Try.func20, Try.ntmps20
  repeat (first | go_skip | go_guarded | go_step)
  rw [← HW.out]
  go_loopw [3] (fun p wr => ∃ i : Nat, i ≤ n1 ∧ p = .int .i64 (i : Int) ∧ (L.take i).all (fun x => mayA x.2) = true ∧ Below W.heap.size W wr) (fun p _ => n1 - (intOf p).toNat)
  case atStart => exact ⟨0, by omega, rfl, by simp, Below.refl _ _⟩
  case round =>
    obtain ⟨i, hi, rfl, hal, hbr⟩ := hrel
    have j0 := HB.out.read hbr 0 rfl
    have j1 := HB.out.read hbr 1 rfl
    have j2 := HB.out.read hbr 2 rfl
    have HAL := Lib.hid hal
    clear hal
    by_cases hlt : i < n1
    · have hci : (i : Int) < (n1 : Int) := by omega
      obtain ⟨b, o, g, q, l2, Ai, ni, ci, hA, hbb, hx, hc0, hc1, hc2, hrow⟩ := (HR1.out.below (hbr.mono hbw.size)).at_ hlt
      subst hA
      have hni : ni ≤ 1000000 := by
        have := HK.out _ (List.mem_of_getElem? hx)
        have := rdT_len hrow
        dsimp only at *
        omega
      have HX := Lib.hid hx
      have HRO := Lib.hid (hrow.more (Nat.le_trans hbw.size hbr.size))
      have HBR := Lib.hid hbr
      clear hx hrow hbr
      repeat (first | go_skip | go_guarded | go_step)
      refine (rMayAtom_any q Ai ni ci l2 wr HRO.out hni).mono ?_
      rintro e W2 ⟨rfl, hb2⟩
      dsimp only
      have HB2 := Lib.hid hb2
      clear hb2
      cases hm : mayA (q, l2) with
      | false =>
        have HM := Lib.hid hm
        clear hm
        repeat (first | go_skip | go_guarded | go_step)
        go_ret
        refine ⟨?_, hbw.trans ((HBR.out.trans (HB2.out.mono HBR.out.size)).mono hbw.size)⟩
        unfold mayC
        rw [all_at HX.out HM.out]
        rfl
      | true =>
        have HM := Lib.hid hm
        clear hm
        repeat (first | go_skip | go_guarded | go_step)
        go_roundw
        case rel => exact ⟨i + 1, by omega, by go_num, all_upto HX.out HAL.out HM.out, HBR.out.trans (HB2.out.mono HBR.out.size)⟩
        case measure => simp [intOf]; omega
    · obtain rfl : i = n1 := by omega
      have HBR := Lib.hid hbr
      have HRO := Lib.hid ((HR.out.below (hbr.mono hbw.size)).more (Nat.le_trans hbw.size hbr.size))
      clear hbr
      have hv : mayC ((p, l), L) = (mayA (p, l) && decide (i ≤ 8)) := by
        unfold mayC
        rw [all_whole (by have := HL1.out; omega) HAL.out, HL1.out]
        rfl
      have HV := Lib.hid hv
      clear hv
      repeat (first | go_skip | go_guarded | go_step)
      refine (rMayAtom_any p A n c l wr HRO.out hn).mono ?_
      rintro e W2 ⟨rfl, hb2⟩
      dsimp only
      have j2 := HB.out.read (HBR.out.trans (hb2.mono HBR.out.size)) 2 rfl
      have HB2 := Lib.hid hb2
      clear hb2
      cases hm : mayA (p, l) with
      | false =>
        have HM := Lib.hid hm
        clear hm
        repeat (first | go_skip | go_guarded | go_step)
        go_ret
        exact ⟨by rw [HV.out, HM.out]; rfl, hbw.trans ((HBR.out.trans (HB2.out.mono HBR.out.size)).mono hbw.size)⟩
      | true =>
        have HM := Lib.hid hm
        clear hm
        repeat (first | go_skip | go_guarded | go_step)
        go_ret
        exact ⟨by rw [HV.out, HM.out]; simp; omega, hbw.trans ((HBR.out.trans (HB2.out.mono HBR.out.size)).mono hbw.size)⟩

theorem Bk.second3 (w : World) (x : Obj) (p : UInt32) (a b : Value) (t : TypeId) : Bk ((w.alloc x).alloc (.cells #[nv p, a, b] t)) (w.heap.size + 1) t [nv p, a, b] := Bk.second w x t [nv p, a, b]
set_option maxRecDepth 100000 in
set_option maxHeartbeats 2000000 in
theorem rASame_any (p : UInt32) (A : Option Addr) (n c : Nat) (l : List Tm) (A1 : Option Addr) (n1 c1 : Nat) (R : List SlA) (L : List Li) (p' : UInt32) (A' : Option Addr) (n' c' : Nat) (l' : List Tm) (A1' : Option Addr) (n1' c1' : Nat) (R' : List SlA) (L' : List Li) (w : World)
    (h : RdT w w.heap.size A n l) (h1 : RdL w w.heap.size A1 n1 R L) (h' : RdT w w.heap.size A' n' l') (h1' : RdL w w.heap.size A1' n1' R' L') (hn : n ≤ 1000000) (hn1 : n1 ≤ 1000000) (hk : ∀ x ∈ L, x.2.2.length ≤ 1000000) :
    Calls Try.prog 24 #[.agg #[nv p, .slice A n c, .slice A1 n1 c1], .agg #[nv p', .slice A' n' c', .slice A1' n1' c1']] w fun e w' => e = .returned (.bool (decide ((((p, l), L) : Cl) = ((p', l'), L')))) ∧ Below w.heap.size w w' := by
  have HL1 := Lib.hid h1.lenL
  have HL1' := Lib.hid h1'.lenL
  have HK := Lib.hid hk
  obtain ⟨W, hW, hb, hb', hbw⟩ : ∃ W, W = (w.alloc (.cells #[nv p, .slice A n c, .slice A1 n1 c1] 45)).alloc (.cells #[nv p', .slice A' n' c', .slice A1' n1' c1'] 45) ∧ Bk W w.heap.size 45 [nv p, .slice A n c, .slice A1 n1 c1] ∧
      Bk W (w.heap.size + 1) 45 [nv p', .slice A' n' c', .slice A1' n1' c1'] ∧ Below w.heap.size w W := ⟨_, rfl, (Bk.new w _ _).alloc _, Bk.second3 w _ _ _ _ _, below2 _ _ _⟩
  have HW := Lib.hid hW
  have HB := Lib.hid hb
  have HB' := Lib.hid hb'
  have HR := Lib.hid ((h.below hbw).more hbw.size)
  have HR' := Lib.hid ((h'.below hbw).more hbw.size)
  have HR1 := Lib.hid ((h1.below hbw).more hbw.size)
  have HR1' := Lib.hid ((h1'.below hbw).more hbw.size)
  have k0 := hb.read (Below.refl _ _) 0 rfl
  have k1 := hb.read (Below.refl _ _) 1 rfl
  have k0' := hb'.read (Below.refl _ _) 0 rfl
  have k1' := hb'.read (Below.refl _ _) 1 rfl
  clear hW hb hb' h h' h1 h1' hk
  go_enter Try.func24, Try.ntmps24
  repeat (first | go_skip | go_guarded | go_step)
  rw [← HW.out]
  repeat (first | go_skip | go_guarded | go_step)
  refine (rSameAtom_any p p' A A' n c n' c' l l' W HR.out HR'.out hn).mono ?_
  rintro e W1 ⟨rfl, hb1⟩
  dsimp only
  have j2 := HB.out.read hb1 2 rfl
  have j2' := HB'.out.read hb1 2 rfl
  have HB1 := Lib.hid hb1
  clear hb1 k0 k1 k0' k1'
  by_cases hh : ((p, l) : AtL) = (p', l')
  · rw [decide_eq_true hh]
    have HH := Lib.hid hh
    clear hh
    by_cases hnn : n1 = n1'
    · subst hnn
      have hd : ((n1 : Int) != (n1 : Int)) = false := by simp
      repeat (first | go_skip | go_guarded | go_step)
      go_loopw [5] (fun p wr => ∃ i : Nat, i ≤ n1 ∧ p = .int .i64 (i : Int) ∧ L.take i = L'.take i ∧ Below W.heap.size W wr) (fun p _ => n1 - (intOf p).toNat)
      case atStart => exact ⟨0, by omega, rfl, by simp, HB1.out⟩
      case round =>
        obtain ⟨i, hi, rfl, htk, hbr⟩ := hrel
        clear j2 j2'
        have i2 := HB.out.read hbr 2 rfl
        have i2' := HB'.out.read hbr 2 rfl
        have HTK := Lib.hid htk
        clear htk
        by_cases hlt : i < n1
        · have hci : (i : Int) < (n1 : Int) := by omega
          obtain ⟨b, o, g, q, l2, Ai, ni, ci, hA, hbb, hx, hc0, hc1, hc2, hrow⟩ := (HR1.out.below hbr).at_ hlt
          obtain ⟨b', o', g', q', l2', Ai', ni', ci', hA', hbb', hx', hc0', hc1', hc2', hrow'⟩ := (HR1'.out.below hbr).at_ hlt
          subst hA hA'
          have hni : ni ≤ 1000000 := by
            have := HK.out _ (List.mem_of_getElem? hx)
            have := rdT_len hrow
            dsimp only at *
            omega
          have HX := Lib.hid hx
          have HX' := Lib.hid hx'
          have HRO := Lib.hid (hrow.more hbr.size)
          have HRO' := Lib.hid (hrow'.more hbr.size)
          have HBR := Lib.hid hbr
          clear hx hx' hrow hrow' hbr
          by_cases hg : g = g'
          · subst hg
            have hgg : (g != g) = false := by simp
            repeat (first | go_skip | go_guarded | go_step)
            go_still_tail 26, (by kernel_rfl)
            change wpList _ _ _ _ _ wr.drew
            have hdr : Below W.heap.size W wr.drew := belowDrewQ HBR.out 1
            have HDR := Lib.hid hdr
            clear hdr
            repeat (first | go_skip | go_guarded | go_step)
            refine (rSameAtom_any q q' Ai Ai' ni ci ni' ci' l2 l2' wr.drew (HRO.out.below (belowDrewQ (Below.refl _ wr) 1)) (HRO'.out.below (belowDrewQ (Below.refl _ wr) 1)) hni).mono ?_
            rintro e W2 ⟨rfl, hb2⟩
            dsimp only
            have HB2 := Lib.hid (show Below W.heap.size W W2 from HDR.out.trans (hb2.mono HDR.out.size))
            clear hb2
            by_cases he : ((q, l2) : AtL) = (q', l2')
            · rw [decide_eq_true he]
              have HE := Lib.hid he
              clear he
              repeat (first | go_skip | go_guarded | go_step)
              go_roundw
              case rel => exact ⟨i + 1, by omega, by go_num, take_eq HX.out HX'.out HTK.out (by rw [HE.out]), HB2.out⟩
              case measure => simp [intOf]; omega
            · rw [decide_eq_false he]
              have HE := Lib.hid he
              clear he
              repeat (first | go_skip | go_guarded | go_step)
              go_ret
              refine ⟨?_, hbw.trans (HB2.out.mono hbw.size)⟩
              have hne := ne_at HX.out HX'.out (fun e => HE.out (Prod.mk.inj e).2)
              simp [hne]
          · have hne := ne_at HX.out HX'.out (fun e => hg (Prod.mk.inj e).1)
            have HNE := Lib.hid hne
            clear hne
            cases g <;> cases g'
            · exact absurd rfl hg
            · repeat (first | go_skip | go_guarded | go_step)
              go_quiet (fail)
              repeat (first | go_skip | go_guarded | go_step)
              go_ret
              exact ⟨by simp [HNE.out], hbw.trans ((belowDrewQ HBR.out _).mono hbw.size)⟩
            · repeat (first | go_skip | go_guarded | go_step)
              go_quiet (fail)
              repeat (first | go_skip | go_guarded | go_step)
              go_ret
              exact ⟨by simp [HNE.out], hbw.trans ((belowDrewQ HBR.out _).mono hbw.size)⟩
            · exact absurd rfl hg
        · obtain rfl : i = n1 := by omega
          have HBR := Lib.hid hbr
          clear hbr
          repeat (first | go_skip | go_guarded | go_step)
          go_ret
          have he := all_eq HL1.out HL1'.out HTK.out
          exact ⟨by simp [HH.out, he], hbw.trans (HBR.out.mono hbw.size)⟩
    · have hd : ((n1 : Int) != (n1' : Int)) = true := by simp; omega
      have hne : L ≠ L' := fun e => hnn (by rw [← HL1.out, ← HL1'.out, e])
      have HNE := Lib.hid hne
      clear hne hnn
      repeat (first | go_skip | go_guarded | go_step)
      go_ret
      exact ⟨by simp [HNE.out], hbw.trans (HB1.out.mono hbw.size)⟩
  · rw [decide_eq_false hh]
    have HH := Lib.hid hh
    clear hh
    repeat (first | go_skip | go_guarded | go_step)
    go_ret
    have hne : ¬ ((((p, l), L) : Cl) = ((p', l'), L')) := fun e => HH.out (Prod.mk.inj e).1
    exact ⟨by rw [decide_eq_false hne]; simp, hbw.trans (HB1.out.mono hbw.size)⟩

/-! ### The order -/
def cmpU : List UInt32 → List UInt32 → Int
  | x :: a, y :: b => if x.toNat < y.toNat then -1 else if y.toNat < x.toNat then 1 else cmpU a b
  | _, _ => 0
def cmpF (a b : Fa) : Int :=
  if a.1.toNat < b.1.toNat then -1 else if b.1.toNat < a.1.toNat then 1 else
  if a.2.length < b.2.length then -1 else if b.2.length < a.2.length then 1 else cmpU a.2 b.2
theorem cmpU_step {a b : List UInt32} {i : Nat} {x y : UInt32} (h1 : a[i]? = some x) (h2 : b[i]? = some y) (h : a.take i = b.take i) :
    cmpU a b = if x.toNat < y.toNat then -1 else if y.toNat < x.toNat then 1 else cmpU (a.drop (i + 1)) (b.drop (i + 1)) := by
  induction i generalizing a b with
  | zero =>
    cases a with
    | nil => simp at h1
    | cons u a =>
      cases b with
      | nil => simp at h2
      | cons v b =>
        simp only [List.getElem?_cons_zero, Option.some.injEq] at h1 h2
        subst h1 h2
        simp [cmpU]
  | succ i ih =>
    cases a with
    | nil => simp at h1
    | cons u a =>
      cases b with
      | nil => simp at h2
      | cons v b =>
        simp only [List.take_succ_cons, List.cons.injEq] at h
        obtain ⟨rfl, h⟩ := h
        simp only [List.getElem?_cons_succ] at h1 h2
        rw [cmpU, if_neg (Nat.lt_irrefl _), if_neg (Nat.lt_irrefl _), ih h1 h2 h]
        simp
theorem cmpU_self (a : List UInt32) : cmpU a a = 0 := by
  induction a with
  | nil => rfl
  | cons x a ih => rw [cmpU, if_neg (Nat.lt_irrefl _), if_neg (Nat.lt_irrefl _), ih]
theorem cmpU_zero {a b : List UInt32} (hl : a.length = b.length) (h : cmpU a b = 0) : a = b := by
  induction a generalizing b with
  | nil => cases b with
    | nil => rfl
    | cons y b => simp at hl
  | cons x a ih => cases b with
    | nil => simp at hl
    | cons y b =>
      rw [cmpU] at h
      split at h
      · cases h
      · split at h
        · cases h
        · rw [ih (by simpa using hl) h, UInt32.toNat_inj.1 (show x.toNat = y.toNat by omega)]
theorem cmpF_zero {a b : Fa} : cmpF a b = 0 ↔ a = b := by
  obtain ⟨p, l⟩ := a
  obtain ⟨q, k⟩ := b
  constructor
  · unfold cmpF
    dsimp only
    intro h
    split at h
    · cases h
    · split at h
      · cases h
      · split at h
        · cases h
        · split at h
          · cases h
          · rw [cmpU_zero (by omega) h, UInt32.toNat_inj.1 (show p.toNat = q.toNat by omega)]
  · intro h
    cases h
    unfold cmpF
    simp [cmpU_self]
theorem u32eqq (x : UInt32) : ((x.toNat : Int) == (x.toNat : Int)) = true := by simp
set_option maxRecDepth 100000 in
set_option maxHeartbeats 2000000 in
theorem rCompare_any (p p' : UInt32) (A A' : Option Addr) (n c n' c' : Nat) (l l' : List UInt32) (w : World) (h : RdU w w.heap.size A n l) (h' : RdU w w.heap.size A' n' l') (hn : n ≤ 1000000) :
    Calls Try.prog 42 #[.agg #[nv p, .slice A n c], .agg #[nv p', .slice A' n' c']] w fun e w' => e = .returned (.int .i64 (cmpF (p, l) (p', l'))) ∧ Below w.heap.size w w' := by
  have HL := Lib.hid (rdU_len h)
  have HL' := Lib.hid (rdU_len h')
  obtain ⟨W, hW, hb, hb', hbw⟩ : ∃ W, W = (w.alloc (.cells #[nv p, .slice A n c] 26)).alloc (.cells #[nv p', .slice A' n' c'] 26) ∧ Bk W w.heap.size 26 [nv p, .slice A n c] ∧
      Bk W (w.heap.size + 1) 26 [nv p', .slice A' n' c'] ∧ Below w.heap.size w W := ⟨_, rfl, (Bk.new w _ _).alloc _, Bk.second w _ _ _, below2 _ _ _⟩
  have HR := Lib.hid (h.below hbw)
  have HR' := Lib.hid (h'.below hbw)
  have HW := Lib.hid hW
  have HB := Lib.hid hb
  have HB' := Lib.hid hb'
  have c0 := hb.cell 0
  rw [show [nv p, Value.slice A n c][0]? = some (nv p) from rfl] at c0
  have c1 := hb.cell 1
  rw [show [nv p, Value.slice A n c][1]? = some (Value.slice A n c) from rfl] at c1
  have c0' := hb'.cell 0
  rw [show [nv p', Value.slice A' n' c'][0]? = some (nv p') from rfl] at c0'
  have c1' := hb'.cell 1
  rw [show [nv p', Value.slice A' n' c'][1]? = some (Value.slice A' n' c') from rfl] at c1'
  clear h h' hW hb hb'
  rcases Nat.lt_trichotomy p.toNat p'.toNat with hp | hp | hp
  · have e1 : decide (p.toNat < p'.toNat) = true := by simp; omega
    have hv : cmpF (p, l) (p', l') = -1 := by
      have := HL.out
      have := HL'.out
      unfold cmpF
      dsimp only
      repeat (first | rw [if_pos (by omega)] | rw [if_neg (by omega)])
    have HV := Lib.hid hv
    clear hv hp
    go_enter Try.func42, Try.ntmps42
    repeat (first | go_skip | go_guarded | go_step)
    rw [← HW.out]
    repeat (first | go_skip | go_guarded | go_step)
    go_ret
    exact ⟨by rw [HV.out]; simp, hbw⟩
  · obtain rfl : p = p' := UInt32.toNat_inj.1 hp
    have e1 : decide (p.toNat < p.toNat) = false := by simp
    have e2 := u32eqq p
    clear hp
    rcases Nat.lt_trichotomy n n' with hnn | hnn | hnn
    · have e3 : decide (n < n') = true := by simp; omega
      have hv : cmpF (p, l) (p, l') = -1 := by
        have := HL.out
        have := HL'.out
        unfold cmpF
        dsimp only
        repeat (first | rw [if_pos (by omega)] | rw [if_neg (by omega)])
      have HV := Lib.hid hv
      clear hv hnn
      go_enter Try.func42, Try.ntmps42
      repeat (first | go_skip | go_guarded | go_step)
      rw [← HW.out]
      repeat (first | go_skip | go_guarded | go_step)
      go_ret
      exact ⟨by rw [HV.out]; simp, hbw⟩
    · subst hnn
      have e3 : decide (n < n) = false := by simp
      have hv : cmpF (p, l) (p, l') = cmpU l l' := by
        have := HL.out
        have := HL'.out
        unfold cmpF
        dsimp only
        repeat (first | rw [if_pos (by omega)] | rw [if_neg (by omega)])
      have HV := Lib.hid hv
      clear hv
      go_enter Try.func42, Try.ntmps42
      repeat (first | go_skip | go_guarded | go_step)
      rw [← HW.out]
      repeat (first | go_skip | go_guarded | go_step)
      go_loopw [5] (fun p wr => ∃ i : Nat, i ≤ n ∧ p = .int .i64 (i : Int) ∧ l.take i = l'.take i ∧ Below W.heap.size W wr) (fun p _ => n - (intOf p).toNat)
      case atStart => exact ⟨0, by omega, rfl, by simp, Below.refl _ _⟩
      case round =>
        obtain ⟨i, hi, rfl, htk, hbr⟩ := hrel
        have d1 := (HB.out.later hbr).cell 1
        rw [show [nv p, Value.slice A n c][1]? = some (Value.slice A n c) from rfl] at d1
        have d1' := (HB'.out.later hbr).cell 1
        rw [show [nv p, Value.slice A' n c'][1]? = some (Value.slice A' n c') from rfl] at d1'
        by_cases hlt : i < n
        · have hci : (i : Int) < (n : Int) := by omega
          obtain ⟨b, o, t, hA, hbb, ht, hc0⟩ := rdU_at (HR.out.below (hbr.mono hbw.size)) hlt
          obtain ⟨b', o', t', hA', hbb', ht', hc0'⟩ := rdU_at (HR'.out.below (hbr.mono hbw.size)) hlt
          subst hA hA'
          have HT := Lib.hid ht
          have HT' := Lib.hid ht'
          have HTK := Lib.hid htk
          have HBR := Lib.hid hbr
          have HS := Lib.hid (cmpU_step ht ht' htk)
          clear ht ht' htk hbr c0 c0' c1 c1'
          rcases Nat.lt_trichotomy t.toNat t'.toNat with hx | hx | hx
          · have q1 : decide (t.toNat < t'.toNat) = true := by simp; omega
            have HX := Lib.hid hx
            clear hx
            repeat (first | go_skip | go_guarded | go_step)
            go_quiet (fail)
            repeat (first | go_skip | go_guarded | go_step)
            go_ret
            exact ⟨by rw [HV.out, HS.out, if_pos HX.out]; simp, hbw.trans ((belowDrewQ HBR.out _).mono hbw.size)⟩
          · obtain rfl : t = t' := UInt32.toNat_inj.1 hx
            have q1 : decide (t.toNat < t.toNat) = false := by simp
            clear hx
            repeat (first | go_skip | go_guarded | go_step)
            go_quiet (fail)
            repeat (first | go_skip | go_guarded | go_step)
            go_quiet (fail)
            repeat (first | go_skip | go_guarded | go_step)
            go_roundw
            case rel => exact ⟨i + 1, by omega, by go_num, take_eq HT.out HT'.out HTK.out rfl, belowDrewQ HBR.out _⟩
            case measure => simp [intOf]; omega
          · have q1 : decide (t.toNat < t'.toNat) = false := by simp; omega
            have q2 : decide (t'.toNat < t.toNat) = true := by simp; omega
            have HX := Lib.hid hx
            clear hx
            repeat (first | go_skip | go_guarded | go_step)
            go_quiet (fail)
            repeat (first | go_skip | go_guarded | go_step)
            go_quiet (fail)
            repeat (first | go_skip | go_guarded | go_step)
            go_ret
            exact ⟨by rw [HV.out, HS.out, if_neg (by have := HX.out; omega), if_pos HX.out]; simp, hbw.trans ((belowDrewQ (belowDrewQ HBR.out _) _).mono hbw.size)⟩
        · obtain rfl : i = n := by omega
          have he : l = l' := all_eq HL.out HL'.out htk
          have HE := Lib.hid he
          have HBR := Lib.hid hbr
          clear he htk hbr
          repeat (first | go_skip | go_guarded | go_step)
          go_ret
          exact ⟨by rw [HV.out, HE.out, cmpU_self]; simp, hbw.trans (HBR.out.mono hbw.size)⟩
    · have e3 : decide (n < n') = false := by simp; omega
      have e4 : decide (n' < n) = true := by simp; omega
      have hv : cmpF (p, l) (p, l') = 1 := by
        have := HL.out
        have := HL'.out
        unfold cmpF
        dsimp only
        repeat (first | rw [if_pos (by omega)] | rw [if_neg (by omega)])
      have HV := Lib.hid hv
      clear hv hnn
      go_enter Try.func42, Try.ntmps42
      repeat (first | go_skip | go_guarded | go_step)
      rw [← HW.out]
      repeat (first | go_skip | go_guarded | go_step)
      go_ret
      exact ⟨by rw [HV.out]; simp, hbw⟩
  · have e1 : decide (p.toNat < p'.toNat) = false := by simp; omega
    have e2 : ((p.toNat : Int) == (p'.toNat : Int)) = false := by simp; omega
    have e3 : decide (p'.toNat < p.toNat) = true := by simp; omega
    have hv : cmpF (p, l) (p', l') = 1 := by
      have := HL.out
      have := HL'.out
      unfold cmpF
      dsimp only
      repeat (first | rw [if_pos (by omega)] | rw [if_neg (by omega)])
    have HV := Lib.hid hv
    clear hv hp
    go_enter Try.func42, Try.ntmps42
    repeat (first | go_skip | go_guarded | go_step)
    rw [← HW.out]
    repeat (first | go_skip | go_guarded | go_step)
    go_ret
    exact ⟨by rw [HV.out]; simp, hbw⟩
set_option maxRecDepth 100000 in
set_option maxHeartbeats 2000000 in
theorem rSameFact_any (p p' : UInt32) (A A' : Option Addr) (n c n' c' : Nat) (l l' : List UInt32) (w : World) (h : RdU w w.heap.size A n l) (h' : RdU w w.heap.size A' n' l') (hn : n ≤ 1000000) :
    Calls Try.prog 17 #[.agg #[nv p, .slice A n c], .agg #[nv p', .slice A' n' c']] w fun e w' => e = .returned (.bool (decide (((p, l) : Fa) = (p', l')))) ∧ Below w.heap.size w w' := by
  obtain ⟨W, hW, hb, hb', hbw⟩ : ∃ W, W = (w.alloc (.cells #[nv p, .slice A n c] 26)).alloc (.cells #[nv p', .slice A' n' c'] 26) ∧ Bk W w.heap.size 26 [nv p, .slice A n c] ∧
      Bk W (w.heap.size + 1) 26 [nv p', .slice A' n' c'] ∧ Below w.heap.size w W := ⟨_, rfl, (Bk.new w _ _).alloc _, Bk.second w _ _ _, below2 _ _ _⟩
  have HR := Lib.hid (h.below hbw)
  have HR' := Lib.hid (h'.below hbw)
  have HW := Lib.hid hW
  have HB := Lib.hid hb
  have HB' := Lib.hid hb'
  have c0 := hb.cell 0
  rw [show [nv p, Value.slice A n c][0]? = some (nv p) from rfl] at c0
  have c1 := hb.cell 1
  rw [show [nv p, Value.slice A n c][1]? = some (Value.slice A n c) from rfl] at c1
  have c0' := hb'.cell 0
  rw [show [nv p', Value.slice A' n' c'][0]? = some (nv p') from rfl] at c0'
  have c1' := hb'.cell 1
  rw [show [nv p', Value.slice A' n' c'][1]? = some (Value.slice A' n' c') from rfl] at c1'
  have HH := Lib.hid (h.below hbw)
  clear h h' hW hb hb'
  have hz : ((cmpF (p, l) (p', l')) == 0) = decide (((p, l) : Fa) = (p', l')) := by
    rw [Bool.eq_iff_iff, beq_iff_eq, decide_eq_true_iff]
    exact cmpF_zero
  have HZ := Lib.hid hz
  clear hz
  go_enter Try.func17, Try.ntmps17
  repeat (first | go_skip | go_guarded | go_step)
  rw [← HW.out]
  repeat (first | go_skip | go_guarded | go_step)
  refine (rCompare_any p p' A A' n c n' c' l l' W (HR.out.more hbw.size) (HR'.out.more hbw.size) hn).mono ?_
  rintro e w1 ⟨rfl, hb1⟩
  dsimp only
  repeat (first | go_skip | go_guarded | go_step)
  go_ret
  exact ⟨by rw [← HZ.out]; simp, hbw.trans (hb1.mono hbw.size)⟩

theorem u32Info : (Try.prog.info? 23).map (fun i => (i.zero, i.size, i.bytes)) = some (some (.int .u32 0), 1, 4) := by kernel_rfl
theorem termInfo : (Try.prog.info? 54).map (fun i => (i.zero, i.size, i.bytes)) = some (some (.agg #[.bool false, .int .u32 0]), 2, 8) := by kernel_rfl
abbrev OwU (w : World) (base : Nat) (A : Option Addr) (c n : Nat) (l : List UInt32) : Prop := w.ownsRow base 23 1 (.slice A n c) n (l.map nv)
abbrev OwT (w : World) (base : Nat) (A : Option Addr) (c n : Nat) (l : List Tm) : Prop := w.ownsRow base 54 2 (.slice A n c) n (tmCs l)
section
variable {w w' : World} {base : Nat} {A : Option Addr} {c n : Nat}
theorem OwU.rd {l : List UInt32} (h : OwU w base A c n l) : RdU w w.heap.size A n l := Rd.ofOwn h
theorem OwT.rd {l : List Tm} (h : OwT w base A c n l) : RdT w w.heap.size A n l := Rd.ofOwn h
theorem OwU.cap {l : List UInt32} (h : OwU w base A c n l) : n ≤ c := by
  obtain ⟨A1, c1, hv, hl⟩ := ownForm h
  cases hv
  exact hl
theorem OwT.cap {l : List Tm} (h : OwT w base A c n l) : n ≤ c := by
  obtain ⟨A1, c1, hv, hl⟩ := ownForm h
  cases hv
  exact hl
end
/-- 'out = append(out, x...)' over numbers. -/
theorem wp_appU {o : Oper} {a : Act} {K : Act → World → Prop} {Q : Exit → Act → World → Prop} (w : World) (p x : Operand)
    (ho : o.op = .call { callee := .builtin .append, args := #[p, x], argTypes := #[24, 24] })
    (base : Nat) (A0 : Option Addr) (c0 n : Nat) (l : List UInt32) (hv : a.eval p = .slice A0 n c0) (hown : OwU w base A0 c0 n l)
    (B : Nat) (A : Option Addr) (m c : Nat) (news : List UInt32) (hx : a.eval x = .slice A m c) (hr : RdU w B A m news) (hb : n + m ≤ 1000000000) (hbase : base ≤ w.heap.size)
    (h : ∀ A' c' w', OwU w' base A' c' (n + m) (l ++ news) → Below base w w' → K (a.put o.dst (.slice A' (n + m) c')) w') : o.wp Try.prog a w K Q := by
  obtain ⟨i0, hi, hz0, hz1, hz2⟩ := info_parts u32Info
  refine wp_app w p x 24 ho base 23 i0 _ 1 4 Try.underlying24 hi hz0 hz1 hz2 rfl (by decide) _ n _ hv hown B A m c _ hx hr (nv_one news) (by simp only [maxLen]; omega) (by omega) hbase ?_
  intro A' c' w' h1 h2 h3
  refine h A' c' w' ?_ (belowApp (Below.refl _ _) hown h2 hbase)
  show World.ownsRow _ _ _ _ _ _ _
  rw [List.map_append]
  exact h1
theorem appU {ops : Array Oper} {rest : List Oper} {o : Oper} {a : Act} {Q : Exit → Act → World → Prop} (w : World) (hgd : o.guard = none) (p x : Operand)
    (ho : o.op = .call { callee := .builtin .append, args := #[p, x], argTypes := #[24, 24] })
    (base : Nat) (A0 : Option Addr) (c0 n : Nat) (l : List UInt32) (hv : a.eval p = .slice A0 n c0) (hown : OwU w base A0 c0 n l)
    (B : Nat) (A : Option Addr) (m c : Nat) (news : List UInt32) (hx : a.eval x = .slice A m c) (hr : RdU w B A m news) (hb : n + m ≤ 1000000000) (hbase : base ≤ w.heap.size)
    (h : ∀ A' c' w', OwU w' base A' c' (n + m) (l ++ news) → Below base w w' → wpList Try.prog ops Q rest (a.put o.dst (.slice A' (n + m) c')) w') : wpList Try.prog ops Q (o :: rest) a w :=
  wpList_plain hgd fun _ hK => wp_appU w p x ho base A0 c0 n l hv hown B A m c news hx hr hb hbase fun A' c' w' h1 h2 => hK _ _ (h A' c' w' h1 h2)
theorem anyd_appU {ops : Array Oper} {E : Prop} {o : Oper} {a : Act} {K : Act → World → Prop} {Q : Exit → Act → World → Prop} {w : World} (hwant : Region.wanted o (yielded ops a.tmps) = true) (p x : Operand)
    (ho : o.op = .call { callee := .builtin .append, args := #[p, x], argTypes := #[24, 24] })
    (base : Nat) (A0 : Option Addr) (c0 n : Nat) (l : List UInt32) (hv : a.eval p = .slice A0 n c0) (hown : OwU w base A0 c0 n l)
    (B : Nat) (A : Option Addr) (m c : Nat) (news : List UInt32) (hx : a.eval x = .slice A m c) (hr : RdU w B A m news) (hb : n + m ≤ 1000000000) (hbase : base ≤ w.heap.size)
    (h : ∀ A' c' w', OwU w' base A' c' (n + m) (l ++ news) → Below base w w' → K (a.put o.dst (.slice A' (n + m) c')) w') : if Region.wanted o (yielded ops a.tmps) = true then Oper.wp Try.prog o a w K Q else E := by
  rw [if_pos hwant]
  exact wp_appU w p x ho base A0 c0 n l hv hown B A m c news hx hr hb hbase h
/-- 'out = append(out, x...)' over terms. -/
theorem wp_appT {o : Oper} {a : Act} {K : Act → World → Prop} {Q : Exit → Act → World → Prop} (w : World) (p x : Operand)
    (ho : o.op = .call { callee := .builtin .append, args := #[p, x], argTypes := #[40, 40] })
    (base : Nat) (A0 : Option Addr) (c0 n : Nat) (l : List Tm) (hv : a.eval p = .slice A0 n c0) (hown : OwT w base A0 c0 n l)
    (B : Nat) (A : Option Addr) (m c : Nat) (news : List Tm) (hx : a.eval x = .slice A m c) (hr : RdT w B A m news) (hb : n + m ≤ 1000000000) (hbase : base ≤ w.heap.size)
    (h : ∀ A' c' w', OwT w' base A' c' (n + m) (l ++ news) → Below base w w' → K (a.put o.dst (.slice A' (n + m) c')) w') : o.wp Try.prog a w K Q := by
  obtain ⟨i0, hi, hz0, hz1, hz2⟩ := info_parts termInfo
  refine wp_app w p x 40 ho base 54 i0 _ 2 8 Try.underlying40 hi hz0 hz1 hz2 rfl (by decide) _ n _ hv hown B A m c _ hx hr (tmCs_one news) (by simp only [maxLen]; omega) (by omega) hbase ?_
  intro A' c' w' h1 h2 h3
  refine h A' c' w' ?_ (belowApp (Below.refl _ _) hown h2 hbase)
  show World.ownsRow _ _ _ _ _ _ _
  rw [tmCs_append]
  exact h1
theorem appT {ops : Array Oper} {rest : List Oper} {o : Oper} {a : Act} {Q : Exit → Act → World → Prop} (w : World) (hgd : o.guard = none) (p x : Operand)
    (ho : o.op = .call { callee := .builtin .append, args := #[p, x], argTypes := #[40, 40] })
    (base : Nat) (A0 : Option Addr) (c0 n : Nat) (l : List Tm) (hv : a.eval p = .slice A0 n c0) (hown : OwT w base A0 c0 n l)
    (B : Nat) (A : Option Addr) (m c : Nat) (news : List Tm) (hx : a.eval x = .slice A m c) (hr : RdT w B A m news) (hb : n + m ≤ 1000000000) (hbase : base ≤ w.heap.size)
    (h : ∀ A' c' w', OwT w' base A' c' (n + m) (l ++ news) → Below base w w' → wpList Try.prog ops Q rest (a.put o.dst (.slice A' (n + m) c')) w') : wpList Try.prog ops Q (o :: rest) a w :=
  wpList_plain hgd fun _ hK => wp_appT w p x ho base A0 c0 n l hv hown B A m c news hx hr hb hbase fun A' c' w' h1 h2 => hK _ _ (h A' c' w' h1 h2)
theorem anyd_appT {ops : Array Oper} {E : Prop} {o : Oper} {a : Act} {K : Act → World → Prop} {Q : Exit → Act → World → Prop} {w : World} (hwant : Region.wanted o (yielded ops a.tmps) = true) (p x : Operand)
    (ho : o.op = .call { callee := .builtin .append, args := #[p, x], argTypes := #[40, 40] })
    (base : Nat) (A0 : Option Addr) (c0 n : Nat) (l : List Tm) (hv : a.eval p = .slice A0 n c0) (hown : OwT w base A0 c0 n l)
    (B : Nat) (A : Option Addr) (m c : Nat) (news : List Tm) (hx : a.eval x = .slice A m c) (hr : RdT w B A m news) (hb : n + m ≤ 1000000000) (hbase : base ≤ w.heap.size)
    (h : ∀ A' c' w', OwT w' base A' c' (n + m) (l ++ news) → Below base w w' → K (a.put o.dst (.slice A' (n + m) c')) w') : if Region.wanted o (yielded ops a.tmps) = true then Oper.wp Try.prog o a w K Q else E := by
  rw [if_pos hwant]
  exact wp_appT w p x ho base A0 c0 n l hv hown B A m c news hx hr hb hbase h
/-- All orders of a drawn region end in one act and in worlds of which S is so; there the walk goes on, once. -/
theorem wpAny_meet0 {P : Program} {md : Region.Mode} {ops : Array Oper} {Q : Exit → Act → World → Prop} {fuel : Nat} {listed : Array Bool} {a : Act} {w : World} {b : Act} (S : World → Prop) (hc : ∀ V, S V → Q .normal b V)
    (h : (∀ V, S V → Q .normal b V) → wpAny P md ops Q fuel listed a w) : wpAny P md ops Q fuel listed a w := h hc
/-- .. they may differ in one value. -/
theorem wpAny_meetV {β : Type} {P : Program} {md : Region.Mode} {ops : Array Oper} {Q : Exit → Act → World → Prop} {fuel : Nat} {listed : Array Bool} {a : Act} {w : World} {b : β → Act} (S : β → World → Prop) (hc : ∀ x V, S x V → Q .normal (b x) V)
    (h : (∀ x V, S x V → Q .normal (b x) V) → wpAny P md ops Q fuel listed a w) : wpAny P md ops Q fuel listed a w := h hc
theorem anyd_ldU {ops : Array Oper} {E : Prop} {o : Oper} {a : Act} {K : Act → World → Prop} {Q : Exit → Act → World → Prop} {w : World} (hwant : Region.wanted o (yielded ops a.tmps) = true) (x : Operand)
    (ho : o.op = .load 23 x) (b i : Nat) (v : Value) (hx : a.eval x = .pointer (some ⟨b, i, none⟩)) (hc : w.cell? ⟨b, i, none⟩ = some v)
    (h : K (a.put o.dst v) w) : if Region.wanted o (yielded ops a.tmps) = true then Oper.wp Try.prog o a w K Q else E := by
  rw [if_pos hwant]
  unfold Oper.wp execOp
  simp only [ho, hx]
  go_simp
  exact h
theorem anyd_ldB {ops : Array Oper} {E : Prop} {o : Oper} {a : Act} {K : Act → World → Prop} {Q : Exit → Act → World → Prop} {w : World} (hwant : Region.wanted o (yielded ops a.tmps) = true) (x : Operand)
    (ho : o.op = .load 4 x) (b i : Nat) (v : Value) (hx : a.eval x = .pointer (some ⟨b, i, none⟩)) (hc : w.cell? ⟨b, i, none⟩ = some v)
    (h : K (a.put o.dst v) w) : if Region.wanted o (yielded ops a.tmps) = true then Oper.wp Try.prog o a w K Q else E := by
  rw [if_pos hwant]
  unfold Oper.wp execOp
  simp only [ho, hx]
  go_simp
  exact h
theorem anyd_ldSU {ops : Array Oper} {E : Prop} {o : Oper} {a : Act} {K : Act → World → Prop} {Q : Exit → Act → World → Prop} {w : World} (hwant : Region.wanted o (yielded ops a.tmps) = true) (x : Operand)
    (ho : o.op = .load 24 x) (b i : Nat) (v : Value) (hx : a.eval x = .pointer (some ⟨b, i, none⟩)) (hc : w.cell? ⟨b, i, none⟩ = some v)
    (h : K (a.put o.dst v) w) : if Region.wanted o (yielded ops a.tmps) = true then Oper.wp Try.prog o a w K Q else E := by
  rw [if_pos hwant]
  unfold Oper.wp execOp
  simp only [ho, hx]
  go_simp
  exact h
theorem anyd_ldST {ops : Array Oper} {E : Prop} {o : Oper} {a : Act} {K : Act → World → Prop} {Q : Exit → Act → World → Prop} {w : World} (hwant : Region.wanted o (yielded ops a.tmps) = true) (x : Operand)
    (ho : o.op = .load 40 x) (b i : Nat) (v : Value) (hx : a.eval x = .pointer (some ⟨b, i, none⟩)) (hc : w.cell? ⟨b, i, none⟩ = some v)
    (h : K (a.put o.dst v) w) : if Region.wanted o (yielded ops a.tmps) = true then Oper.wp Try.prog o a w K Q else E := by
  rw [if_pos hwant]
  unfold Oper.wp execOp
  simp only [ho, hx]
  go_simp
  exact h
theorem anyd_stSU {ops : Array Oper} {E : Prop} {o : Oper} {a : Act} {K : Act → World → Prop} {Q : Exit → Act → World → Prop} {w : World} (hwant : Region.wanted o (yielded ops a.tmps) = true) (x y : Operand)
    (ho : o.op = .store 24 x y) (b i : Nat) (u : Value) (A : Option Addr) (n c : Nat) (hx : a.eval x = .pointer (some ⟨b, i, none⟩)) (hy : a.eval y = .slice A n c) (hc : w.cell? ⟨b, i, none⟩ = some u) (hf : w.frozen? ⟨b, i, none⟩ = false)
    (h : K (a.put o.dst undef) (w.setCell ⟨b, i, none⟩ (.slice A n c))) : if Region.wanted o (yielded ops a.tmps) = true then Oper.wp Try.prog o a w K Q else E := by
  rw [if_pos hwant]
  unfold Oper.wp execOp
  simp only [ho, hx, hy]
  go_simp
  exact h
theorem anyd_stST {ops : Array Oper} {E : Prop} {o : Oper} {a : Act} {K : Act → World → Prop} {Q : Exit → Act → World → Prop} {w : World} (hwant : Region.wanted o (yielded ops a.tmps) = true) (x y : Operand)
    (ho : o.op = .store 40 x y) (b i : Nat) (u : Value) (A : Option Addr) (n c : Nat) (hx : a.eval x = .pointer (some ⟨b, i, none⟩)) (hy : a.eval y = .slice A n c) (hc : w.cell? ⟨b, i, none⟩ = some u) (hf : w.frozen? ⟨b, i, none⟩ = false)
    (h : K (a.put o.dst undef) (w.setCell ⟨b, i, none⟩ (.slice A n c))) : if Region.wanted o (yielded ops a.tmps) = true then Oper.wp Try.prog o a w K Q else E := by
  rw [if_pos hwant]
  unfold Oper.wp execOp
  simp only [ho, hx, hy]
  go_simp
  exact h
theorem anyd_litU {ops : Array Oper} {E : Prop} {o : Oper} {a : Act} {w : World} {K : Act → World → Prop} {Q : Exit → Act → World → Prop} (hwant : Region.wanted o (yielded ops a.tmps) = true) (x0 : Operand)
    (ho : o.op = .buildSlice 24 1 #[(0, x0)]) (x : UInt32) (hx0 : a.eval x0 = nv x)
    (h : ∀ V, RdU V V.heap.size (some ⟨w.heap.size, 0, none⟩) 1 [x] → Below w.heap.size w V → K (a.put o.dst (.slice (some ⟨w.heap.size, 0, none⟩) 1 1)) V) :
    if Region.wanted o (yielded ops a.tmps) = true then Oper.wp Try.prog o a w K Q else E := by
  rw [if_pos hwant]
  obtain ⟨i0, hi, hz0, hz1, hz2⟩ := info_parts u32Info
  refine wp_buildSlice 24 23 1 _ ho #[nv x] i0 _ Try.underlying24 hi hz0 (by rw [hz1]; omega) (by rw [hz1]; omega) ?_ ?_
  · rw [hz1]
    simp only [List.map_toArray, List.map_cons, List.map_nil, hx0, List.toList_toArray]
    kernel_rfl
  · have hb := Bk.new w 23 [nv x]
    have hr := hb.rd 1 (by simp)
    exact h _ hr ((Below.refl _ _).alloc (Nat.le_refl _) _)
theorem anyd_litT {ops : Array Oper} {E : Prop} {o : Oper} {a : Act} {w : World} {K : Act → World → Prop} {Q : Exit → Act → World → Prop} (hwant : Region.wanted o (yielded ops a.tmps) = true) (x0 : Operand)
    (ho : o.op = .buildSlice 40 1 #[(0, x0)]) (t : Tm) (hx0 : a.eval x0 = .agg #[.bool t.1, nv t.2])
    (h : ∀ V, RdT V V.heap.size (some ⟨w.heap.size, 0, none⟩) 1 [t] → Below w.heap.size w V → K (a.put o.dst (.slice (some ⟨w.heap.size, 0, none⟩) 1 1)) V) :
    if Region.wanted o (yielded ops a.tmps) = true then Oper.wp Try.prog o a w K Q else E := by
  rw [if_pos hwant]
  obtain ⟨i0, hi, hz0, hz1, hz2⟩ := info_parts termInfo
  refine wp_buildSlice 40 54 1 _ ho #[.bool t.1, nv t.2] i0 _ Try.underlying40 hi hz0 (by rw [hz1]; omega) (by rw [hz1]; omega) ?_ ?_
  · rw [hz1]
    simp only [List.map_toArray, List.map_cons, List.map_nil, hx0, List.toList_toArray]
    kernel_rfl
  · have hb : Bk (w.alloc (.cells #[.bool t.1, nv t.2] 54)) w.heap.size 54 (tmCs [t]) := Bk.new w 54 [.bool t.1, nv t.2]
    refine h _ ⟨by simp [tmCs_len], fun _ => ⟨w.heap.size, 0, rfl, hb.lt, fun j u hu => ?_⟩⟩ ((Below.refl _ _).alloc (Nat.le_refl _) _)
    rw [Nat.zero_add, hb.cell]
    exact hu
end Go.Proofs.Ytcoafgnbmgndeaa
