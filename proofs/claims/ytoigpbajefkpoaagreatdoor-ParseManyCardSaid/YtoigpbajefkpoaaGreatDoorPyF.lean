/- Texts, packed: PaR -/
import Derived.Test.YtoigpbajefkpoaaGreatDoorPyB
import Derived.Test.YtoigpbajefkpoaaGreatDoorPyA
import Derived.Test.YtoigpbajefkpoaaGreatDoorPyC
import Derived.Deep.QuietTactic
import Derived.BigQuiet
import Derived.StillTailTactics
import Derived.Great.BuildSlice
import Derived.Deep.Cut
set_option linter.unusedVariables false
set_option linter.unusedSimpArgs false
namespace Go.Proofs.YtoigpbajefkpoaaGreatDoor
open Go Go.RowKit

/-- A reader: of bytes a thing, and the bytes behind it. -/
abbrev Rdr (α : Type) := List UInt8 → Option (α × List UInt8)
/-- p reads just what enc writes of those that may be. -/
structure Codec {α : Type} (may : α → Prop) (enc : α → List UInt8) (p : Rdr α) : Prop where
  sound : ∀ l x r, p l = some (x, r) → may x ∧ l = enc x ++ r
  full : ∀ x r, may x → p (enc x ++ r) = some (x, r)
theorem Codec.inj {α : Type} {may : α → Prop} {enc : α → List UInt8} {p : Rdr α} (c : Codec may enc p) {x y : α} (hx : may x) (hy : may y) {r s : List UInt8} (h : enc x ++ r = enc y ++ s) : x = y ∧ r = s := by
  have h1 := c.full x r hx
  rw [h, c.full y s hy] at h1
  have h2 := Option.some.inj h1
  exact ⟨(congrArg Prod.fst h2).symm, (congrArg Prod.snd h2).symm⟩
/-- The same in other words. -/
def rMap {α β : Type} (p : Rdr α) (f : α → β) : Rdr β := fun l => (p l).map fun z => (f z.1, z.2)
/-- n of them. -/
def rMany {α : Type} (p : Rdr α) : Nat → Rdr (List α)
  | 0, l => some ([], l)
  | n + 1, l => match p l with
    | none => none
    | some (x, r) => match rMany p n r with
      | none => none
      | some (xs, s) => some (x :: xs, s)
theorem Codec.many {α : Type} {m : α → Prop} {e : α → List UInt8} {p : Rdr α} (c : Codec m e p) : ∀ n, Codec (fun xs : List α => xs.length = n ∧ ∀ x ∈ xs, m x) (fun xs => xs.flatMap e) (rMany p n)
  | 0 => by
    refine ⟨?_, ?_⟩
    · intro l xs r h
      simp only [rMany, Option.some.injEq, Prod.mk.injEq] at h
      obtain ⟨rfl, rfl⟩ := h
      simp
    · rintro xs r ⟨h, _⟩
      obtain rfl := List.length_eq_zero_iff.1 h
      simp [rMany]
  | n + 1 => by
    have ih := Codec.many c n
    refine ⟨?_, ?_⟩
    · intro l xs r h
      unfold rMany at h
      cases h1 : p l with
      | none => rw [h1] at h; cases h
      | some z =>
        obtain ⟨x, r'⟩ := z
        rw [h1] at h
        dsimp only at h
        cases h2 : rMany p n r' with
        | none => rw [h2] at h; cases h
        | some z2 =>
          obtain ⟨ys, s⟩ := z2
          rw [h2] at h
          dsimp only at h
          simp only [Option.some.injEq, Prod.mk.injEq] at h
          obtain ⟨rfl, rfl⟩ := h
          obtain ⟨a1, b1⟩ := c.sound _ _ _ h1
          obtain ⟨⟨a2, a3⟩, b2⟩ := ih.sound _ _ _ h2
          refine ⟨⟨by simp [a2], ?_⟩, by rw [b1, b2]; simp⟩
          intro y hy
          rcases List.mem_cons.1 hy with rfl | hy
          · exact a1
          · exact a3 y hy
    · rintro xs r ⟨h, hm⟩
      cases xs with
      | nil => simp at h
      | cons x ys =>
        unfold rMany
        rw [List.flatMap_cons, List.append_assoc, c.full x _ (hm x (by simp))]
        dsimp only
        rw [ih.full ys r ⟨by simpa using h, fun y hy => hm y (by simp [hy])⟩]
/-- One more behind: as a loop reads them. -/
theorem rMany_snoc {α : Type} (p : Rdr α) : ∀ (n : Nat) (l : List UInt8), rMany p (n + 1) l = match rMany p n l with
    | none => none
    | some (xs, r) => match p r with
      | none => none
      | some (x, s) => some (xs ++ [x], s)
  | 0, l => by
    simp only [rMany]
    cases p l with
    | none => rfl
    | some z => rfl
  | n + 1, l => by
    rw [rMany]
    conv => rhs; rw [rMany]
    cases h : p l with
    | none => rfl
    | some z =>
      obtain ⟨x, r⟩ := z
      dsimp only
      rw [rMany_snoc p n r]
      cases h2 : rMany p n r with
      | none => rfl
      | some z2 =>
        obtain ⟨ys, s⟩ := z2
        dsimp only
        cases h3 : p s with
        | none => rfl
        | some z3 => rfl
/-- A byte that is at most so much. -/
def rByte (most : Nat) : Rdr Nat := fun l =>
  match l with
  | [] => none
  | c :: r => if c.toNat ≤ most then some (c.toNat, r) else none
theorem byteC (most : Nat) (h : most < 256) : Codec (fun n => n ≤ most) (fun n => [UInt8.ofNat n]) (rByte most) := by
  refine ⟨?_, ?_⟩
  · intro l v r h1
    cases l with
    | nil => cases h1
    | cons c l =>
      simp only [rByte] at h1
      split at h1
      · rename_i hle
        simp only [Option.some.injEq, Prod.mk.injEq] at h1
        obtain ⟨rfl, rfl⟩ := h1
        exact ⟨hle, by simp⟩
      · cases h1
  · intro n r hn
    have e : (UInt8.ofNat n).toNat = n := UInt8.toNat_ofNat_of_lt' (by show n < 256; omega)
    simp only [List.cons_append, List.nil_append, rByte, e]
    rw [if_pos hn]
/-- How many, and then so many. -/
def rRow {α : Type} (most : Nat) (p : Rdr α) : Rdr (List α) := fun l =>
  match rByte most l with
  | none => none
  | some (n, r) => rMany p n r
def rowB {α : Type} (e : α → List UInt8) (xs : List α) : List UInt8 := UInt8.ofNat xs.length :: xs.flatMap e
theorem Codec.row {α : Type} {m : α → Prop} {e : α → List UInt8} {p : Rdr α} (c : Codec m e p) (most : Nat) (h : most < 256) : Codec (fun xs : List α => xs.length ≤ most ∧ ∀ x ∈ xs, m x) (rowB e) (rRow most p) := by
  refine ⟨?_, ?_⟩
  · intro l xs r h1
    unfold rRow at h1
    cases h2 : rByte most l with
    | none => rw [h2] at h1; cases h1
    | some z =>
      obtain ⟨n, r'⟩ := z
      rw [h2] at h1
      dsimp only at h1
      obtain ⟨a, b⟩ := (byteC most h).sound _ _ _ h2
      obtain ⟨⟨a1, a2⟩, b2⟩ := (c.many n).sound _ _ _ h1
      refine ⟨⟨by omega, a2⟩, ?_⟩
      rw [b, b2, rowB, a1]
      simp
  · rintro xs r ⟨h1, h2⟩
    unfold rRow rowB
    have := (byteC most h).full xs.length (xs.flatMap e ++ r) h1
    simp only [List.cons_append, List.nil_append] at this ⊢
    rw [this]
    dsimp only
    exact (c.many xs.length).full xs r ⟨rfl, h2⟩
set_option maxRecDepth 100000 in
set_option maxHeartbeats 1000000 in
theorem rMayAtom_any (p : UInt32) (A : Option Addr) (n c : Nat) (l : List Tm) (w : World) (h : RdT w w.heap.size A n l) (hn : n ≤ 1000000) :
    Calls Tryz.prog 67 #[.agg #[nv p, .slice A n c]] w fun e w' => e = .returned (.bool (mayA (p, l))) ∧ Below w.heap.size w w' := by
  have HL := Lib.hid (rdT_len h)
  obtain ⟨W, hW, hb, hbw⟩ : ∃ W, W = w.alloc (.cells #[nv p, .slice A n c] 49) ∧ Bk W w.heap.size 49 [nv p, .slice A n c] ∧ Below w.heap.size w W := ⟨_, rfl, Bk.new w _ _, (Below.refl _ _).alloc (Nat.le_refl _) _⟩
  have HR := Lib.hid (h.below hbw)
  have HW := Lib.hid hW
  have c1 := hb.cell 1
  rw [show [nv p, Value.slice A n c][1]? = some (Value.slice A n c) from rfl] at c1
  clear h hW
  go_enter Tryz.func67, Tryz.ntmps67
  repeat go_step
  rw [← HW.out]
  go_loop [3] (fun p => ∃ i : Nat, i ≤ n ∧ p = .int .i64 (i : Int) ∧ (l.take i).all (fun t => !t.1 || decide (t.2.toNat < 16)) = true) (fun p => n - (intOf p).toNat)
  case atStart => exact ⟨0, by omega, rfl, by simp⟩
  case round =>
    obtain ⟨i, hi, rfl, hal⟩ := hrel
    by_cases hlt : i < n
    · have hci : (i : Int) < (n : Int) := by omega
      obtain ⟨b, o, t, hA, hbb, ht, hc0, hc1⟩ := rdT_at HR.out hlt
      subst hA
      obtain ⟨v, x⟩ := t
      dsimp only at hc0
      have HT := Lib.hid ht
      have HAL := Lib.hid hal
      clear ht hal
      cases v with
      | true =>
        by_cases h16 : x.toNat < 16
        · have d16 : decide ((16 : Int) ≤ (x.toNat : Int)) = false := by simp; omega
          have H16 := Lib.hid h16
          clear h16
          repeat go_step
          go_round
          case rel => exact ⟨i + 1, by omega, by go_num, all_upto HT.out HAL.out (by simp [H16.out])⟩
          case measure => simp [intOf]; omega
        · have d16 : decide ((16 : Int) ≤ (x.toNat : Int)) = true := by simp; omega
          have H16 := Lib.hid h16
          clear h16
          repeat go_step
          go_ret
          exact ⟨by unfold mayA; rw [all_at HT.out (by simp; have := H16.out; omega)]; rfl, hbw⟩
      | false =>
        repeat go_step
        go_round
        case rel => exact ⟨i + 1, by omega, by go_num, all_upto HT.out HAL.out rfl⟩
        case measure => simp [intOf]; omega
    · obtain rfl : i = n := by omega
      have hm : mayA (p, l) = decide (i ≤ 6) := by unfold mayA; rw [all_whole (by have := HL.out; omega) hal, HL.out]; rfl
      have HM := Lib.hid hm
      clear hal hm
      repeat go_step
      go_ret
      exact ⟨by rw [HM.out]; simp; omega, hbw⟩
theorem run_eqT (x y : Tm) (W : World) : (Op.equalIn 10000 46 (.agg #[.bool x.1, nv x.2]) (.agg #[.bool y.1, nv y.2])).run Tryz.prog W = .ok (decide (x = y)) W := by
  have e : decide (x = y) = (x.1 == y.1 && x.2 == y.2) := by
    obtain ⟨a, b⟩ := x
    obtain ⟨c, d⟩ := y
    rw [Bool.eq_iff_iff]
    simp
  have e2 : ∀ a b : UInt32, ((a.toNat : Int) == (b.toNat : Int)) = (a == b) := fun a b => by
    rw [Bool.eq_iff_iff, beq_iff_eq, beq_iff_eq]
    exact ⟨fun h => UInt32.toNat_inj.1 (by omega), fun h => by rw [h]⟩
  rw [e]
  go_simp
  split <;> (try split) <;> simp_all
theorem take_eq {α : Type} {a b : List α} {i : Nat} {x y : α} (h1 : a[i]? = some x) (h2 : b[i]? = some y) (h : a.take i = b.take i) (he : x = y) : a.take (i + 1) = b.take (i + 1) := by
  rw [List.take_add_one, List.take_add_one, h1, h2, h, he]
theorem ne_at {α : Type} {a b : List α} {i : Nat} {x y : α} (h1 : a[i]? = some x) (h2 : b[i]? = some y) (he : x ≠ y) : a ≠ b := by
  rintro rfl
  rw [h1] at h2
  exact he (Option.some.inj h2)
theorem all_eq {α : Type} {a b : List α} {n : Nat} (ha : a.length = n) (hb : b.length = n) (h : a.take n = b.take n) : a = b := by
  rwa [List.take_of_length_le (by omega), List.take_of_length_le (by omega)] at h
theorem u32ne {x y : UInt32} (h : x ≠ y) : ((x.toNat : Int) != (y.toNat : Int)) = true := by
  have : x.toNat ≠ y.toNat := fun e => h (UInt32.toNat_inj.1 e)
  simp; omega
theorem belowDrewQ {B : Nat} {a w : World} (h : Below B a w) (n : Nat) : Below B a (w.drewN n) := ⟨h.os, h.tape, h.output, h.size, h.block⟩
theorem below2 (w : World) (x y : Obj) : Below w.heap.size w ((w.alloc x).alloc y) := ((Below.refl _ _).alloc (Nat.le_refl _) x).alloc (by simp) y
theorem Bk.second (w : World) (x : Obj) (t : TypeId) (cs : List Value) : Bk ((w.alloc x).alloc (.cells cs.toArray t)) (w.heap.size + 1) t cs := by
  have h := Bk.new (w.alloc x) t cs
  simpa using h
set_option maxRecDepth 100000 in
set_option maxHeartbeats 2000000 in
theorem rSameAtom_any (p p' : UInt32) (A A' : Option Addr) (n c n' c' : Nat) (l l' : List Tm) (w : World) (h : RdT w w.heap.size A n l) (h' : RdT w w.heap.size A' n' l') (hn : n ≤ 1000000) :
    Calls Tryz.prog 69 #[.agg #[nv p, .slice A n c], .agg #[nv p', .slice A' n' c']] w fun e w' => e = .returned (.bool (decide (((p, l) : AtL) = (p', l')))) ∧ Below w.heap.size w w' := by
  have HL := Lib.hid (rdT_len h)
  have HL' := Lib.hid (rdT_len h')
  obtain ⟨W, hW, hb, hb', hbw⟩ : ∃ W, W = (w.alloc (.cells #[nv p, .slice A n c] 49)).alloc (.cells #[nv p', .slice A' n' c'] 49) ∧ Bk W w.heap.size 49 [nv p, .slice A n c] ∧
      Bk W (w.heap.size + 1) 49 [nv p', .slice A' n' c'] ∧ Below w.heap.size w W := ⟨_, rfl, (Bk.new w _ _).alloc _, Bk.second w _ _ _, below2 _ _ _⟩
  have HR := Lib.hid (h.below hbw)
  have HR' := Lib.hid (h'.below hbw)
  have HW := Lib.hid hW
  have HB := Lib.hid hb
  have HB' := Lib.hid hb'
  have c0 := hb.cell 0
  rw [show [nv p, Value.slice A n c][0]? = some (nv p) from rfl] at c0
  have c1 := hb.cell 1
  rw [show [nv p, Value.slice A n c][1]? = some (Value.slice A n c) from rfl] at c1
  have c0' := hb'.cell 0
  rw [show [nv p', Value.slice A' n' c'][0]? = some (nv p') from rfl] at c0'
  have c1' := hb'.cell 1
  rw [show [nv p', Value.slice A' n' c'][1]? = some (Value.slice A' n' c') from rfl] at c1'
  clear h h' hW hb hb'
  by_cases hp : p = p'
  · subst hp
    have hpp : ((p.toNat : Int) != (p.toNat : Int)) = false := by simp
    by_cases hnn : n = n'
    · subst hnn
      have hd : ((n : Int) != (n : Int)) = false := by simp
      go_enter Tryz.func69, Tryz.ntmps69
      repeat go_step
      rw [← HW.out]
      repeat go_step
      have hs0 := Nat.le_refl W.heap.size
      go_loopw [5] (fun p wr => ∃ i : Nat, i ≤ n ∧ p = .int .i64 (i : Int) ∧ l.take i = l'.take i ∧ Below W.heap.size W wr) (fun p _ => n - (intOf p).toNat)
      case atStart => exact ⟨0, by omega, rfl, by simp, Below.refl _ _⟩
      case round =>
        obtain ⟨i, hi, rfl, htk, hbr⟩ := hrel
        have d1 := (HB.out.later hbr).cell 1
        rw [show [nv p, Value.slice A n c][1]? = some (Value.slice A n c) from rfl] at d1
        have d1' := (HB'.out.later hbr).cell 1
        rw [show [nv p, Value.slice A' n c'][1]? = some (Value.slice A' n c') from rfl] at d1'
        by_cases hlt : i < n
        · have hci : (i : Int) < (n : Int) := by omega
          obtain ⟨b, o, t, hA, hbb, ht, hc0, hc1⟩ := rdT_at (HR.out.below (hbr.mono hbw.size)) hlt
          obtain ⟨b', o', t', hA', hbb', ht', hc0', hc1'⟩ := rdT_at (HR'.out.below (hbr.mono hbw.size)) hlt
          subst hA hA'
          have heq := run_eqT t t'
          have HT := Lib.hid ht
          have HT' := Lib.hid ht'
          have HTK := Lib.hid htk
          have HBR := Lib.hid hbr
          clear ht ht' htk hbr c0 c0' c1 c1'
          by_cases he : t = t'
          · have hde : decide (t = t') = true := by simp [he]
            have HE := Lib.hid he
            clear he
            rw [hde] at heq
            repeat go_step
            go_quiet (fail)
            repeat go_step
            go_roundw
            case rel => exact ⟨i + 1, by omega, by go_num, take_eq HT.out HT'.out HTK.out HE.out, belowDrewQ HBR.out _⟩
            case measure => simp [intOf]; omega
          · have hde : decide (t = t') = false := by simp [he]
            have HE := Lib.hid he
            clear he
            rw [hde] at heq
            repeat go_step
            go_quiet (fail)
            repeat go_step
            go_ret
            refine ⟨?_, hbw.trans ((belowDrewQ HBR.out _).mono hbw.size)⟩
            have := ne_at HT.out HT'.out HE.out
            simp [this]
        · obtain rfl : i = n := by omega
          have he : l = l' := all_eq HL.out HL'.out htk
          have HE := Lib.hid he
          have HBR := Lib.hid hbr
          clear he htk hbr
          repeat go_step
          go_ret
          exact ⟨by rw [HE.out]; simp, hbw.trans (HBR.out.mono hbw.size)⟩
    · have hd : ((n : Int) != (n' : Int)) = true := by simp; omega
      have he : l ≠ l' := fun e => hnn (by rw [← HL.out, ← HL'.out, e])
      have HE := Lib.hid he
      clear he hnn
      go_enter Tryz.func69, Tryz.ntmps69
      repeat go_step
      rw [← HW.out]
      repeat go_step
      go_ret
      exact ⟨by simp [HE.out], hbw⟩
  · have hpp := u32ne hp
    have HP := Lib.hid hp
    clear hp
    go_enter Tryz.func69, Tryz.ntmps69
    repeat go_step
    rw [← HW.out]
    repeat go_step
    go_ret
    exact ⟨by simp [HP.out], hbw⟩
abbrev SlA := Option Addr × Nat × Nat
abbrev SlA.val (r : SlA) : Value := .slice r.1 r.2.1 r.2.2
def liC (z : Li × SlA) : List Value := [.bool z.1.1, nv z.1.2.1, z.2.val]
theorem flat_at {α β : Type} (f : α → List β) (k : Nat) (hf : ∀ x, (f x).length = k) {l : List α} {i : Nat} {x : α} (h : l[i]? = some x) (j : Nat) (hj : j < k) : (l.flatMap f)[i * k + j]? = (f x)[j]? := by
  induction l generalizing i with
  | nil => simp at h
  | cons y l ih =>
    rw [List.flatMap_cons]
    cases i with
    | zero =>
      simp only [List.getElem?_cons_zero, Option.some.injEq] at h
      subst h
      rw [Nat.zero_mul, Nat.zero_add, List.getElem?_append_left (by rw [hf]; exact hj)]
    | succ i =>
      rw [List.getElem?_cons_succ] at h
      have e : (i + 1) * k + j = (f y).length + (i * k + j) := by rw [hf, Nat.add_mul]; omega
      rw [e, List.getElem?_append_right (by omega), Nat.add_sub_cancel_left]
      exact ih h
/-- A slice of conditions that is read: each one's slice of terms, and what it says. -/
structure RdL (w : World) (B : Nat) (A : Option Addr) (n : Nat) (R : List SlA) (L : List Li) : Prop where
  lenR : R.length = n
  lenL : L.length = n
  top : Rd w B 3 A n ((L.zip R).flatMap liC)
  row : ∀ (i : Nat) (r : SlA) (x : Li), R[i]? = some r → L[i]? = some x → RdT w B r.1 r.2.1 x.2.2
section
variable {w w' : World} {B n : Nat} {A : Option Addr} {R : List SlA} {L : List Li}
theorem RdL.below (h : RdL w B A n R L) (hb : Below B w w') : RdL w' B A n R L :=
  ⟨h.lenR, h.lenL, h.top.below hb, fun i r x h1 h2 => (h.row i r x h1 h2).below hb⟩
theorem RdL.more {B' : Nat} (h : RdL w B A n R L) (hB : B ≤ B') : RdL w B' A n R L :=
  ⟨h.lenR, h.lenL, h.top.more hB, fun i r x h1 h2 => (h.row i r x h1 h2).more hB⟩
theorem RdL.at_ (h : RdL w B A n R L) {i : Nat} (hi : i < n) :
    ∃ b o g p l Ai ni ci, A = some ⟨b, o, none⟩ ∧ b < B ∧ L[i]? = some (g, p, l) ∧ w.cell? ⟨b, o + i * 3, none⟩ = some (.bool g) ∧ w.cell? ⟨b, o + i * 3 + 1, none⟩ = some (nv p) ∧ w.cell? ⟨b, o + i * 3 + 2, none⟩ = some (.slice Ai ni ci) ∧ RdT w B Ai ni l := by
  obtain ⟨b, o, e, hb, hc⟩ := h.top.2 (by omega)
  have h1 : R[i]? = some (R[i]'(by rw [h.lenR]; exact hi)) := List.getElem?_eq_getElem _
  have h2 : L[i]? = some (L[i]'(by rw [h.lenL]; exact hi)) := List.getElem?_eq_getElem _
  generalize R[i]'(by rw [h.lenR]; exact hi) = r at h1
  generalize L[i]'(by rw [h.lenL]; exact hi) = x at h2
  obtain ⟨Ai, ni, ci⟩ := r
  obtain ⟨g, p, l⟩ := x
  have hz : (L.zip R)[i]? = some ((g, p, l), (Ai, ni, ci)) := by
    rw [List.getElem?_zip_eq_some]
    exact ⟨h2, h1⟩
  have hl : ∀ x : Li × SlA, (liC x).length = 3 := fun _ => rfl
  have f0 := flat_at liC 3 hl hz 0 (by omega)
  have f1 := flat_at liC 3 hl hz 1 (by omega)
  have f2 := flat_at liC 3 hl hz 2 (by omega)
  exact ⟨b, o, g, p, l, Ai, ni, ci, e, hb, h2, hc _ _ f0, hc _ _ f1, hc _ _ f2, h.row i _ _ h1 h2⟩
end
theorem Bk.read {w w' : World} {g : Nat} {t : TypeId} {cs : List Value} (h : Bk w g t cs) (hb : Below w.heap.size w w') (i : Nat) {v : Value} (hv : cs[i]? = some v) : w'.cell? ⟨g, i, none⟩ = some v := by
  rw [(h.later hb).cell, hv]
abbrev OwU (w : World) (base : Nat) (A : Option Addr) (c n : Nat) (l : List UInt32) : Prop := w.ownsRow base 44 1 (.slice A n c) n (l.map nv)
abbrev OwT (w : World) (base : Nat) (A : Option Addr) (c n : Nat) (l : List Tm) : Prop := w.ownsRow base 46 2 (.slice A n c) n (tmCs l)
section
variable {w w' : World} {base : Nat} {A : Option Addr} {c n : Nat}
theorem OwU.rd {l : List UInt32} (h : OwU w base A c n l) : RdU w w.heap.size A n l := Rd.ofOwn h
theorem OwT.rd {l : List Tm} (h : OwT w base A c n l) : RdT w w.heap.size A n l := Rd.ofOwn h
theorem OwU.cap {l : List UInt32} (h : OwU w base A c n l) : n ≤ c := by
  obtain ⟨A1, c1, hv, hl⟩ := ownForm h
  cases hv
  exact hl
theorem OwT.cap {l : List Tm} (h : OwT w base A c n l) : n ≤ c := by
  obtain ⟨A1, c1, hv, hl⟩ := ownForm h
  cases hv
  exact hl
end
theorem Bk.readT {w w' : World} {g : Nat} {t : TypeId} {cs : List Value} (h : Bk w g t cs) (hb : Below w.heap.size w w') (i : Nat) {v : Value} (hv : cs[i]? = some v) : w'.cell? ⟨g, i, none⟩ = some v := by
  rw [(h.later hb).cell, hv]
/-- What is still to be read; none, if they said nothing. -/
def rest (bs : List UInt8) (k : Nat) (bad : Bool) : Option (List UInt8) := if bad then none else some (bs.drop k)
/-- How a reader's answer shows in a taker. -/
def After {α : Type} (a : Option (α × List UInt8)) (bs : List UInt8) (k : Nat) (bad : Bool) (x z : α) : Prop :=
  match a with
  | none => bad = true ∧ x = z
  | some (y, r) => bad = false ∧ x = y ∧ r = bs.drop k
theorem After.map {α β : Type} {p : Rdr α} {o : Option (List UInt8)} {bs : List UInt8} {k : Nat} {bad : Bool} {v z : α} (f : α → β) (h : After (o.bind p) bs k bad v z) : After (o.bind (rMap p f)) bs k bad (f v) (f z) := by
  cases o with
  | none => exact ⟨h.1, congrArg f h.2⟩
  | some l =>
    have h : After (p l) bs k bad v z := h
    show After ((p l).map fun q => (f q.1, q.2)) bs k bad (f v) (f z)
    cases hp : p l with
    | none => rw [hp] at h; exact ⟨h.1, congrArg f h.2⟩
    | some q => rw [hp] at h; exact ⟨h.1, congrArg f h.2.1, h.2.2⟩
/-- As After; of what is answered where they said nothing, nothing. -/
def AfterW {α : Type} (a : Option (α × List UInt8)) (bs : List UInt8) (k : Nat) (bad : Bool) (x : α) : Prop :=
  match a with
  | none => bad = true
  | some (y, r) => bad = false ∧ x = y ∧ r = bs.drop k
section
variable {α β : Type} {p : Rdr α} {q : Rdr β} {o : Option (List UInt8)} {bs : List UInt8} {k k1 k2 : Nat} {bad b1 b2 : Bool}
theorem AfterW.map {v : α} (f : α → β) (h : AfterW (o.bind p) bs k bad v) : AfterW (o.bind (rMap p f)) bs k bad (f v) := by
  cases o with
  | none => exact h
  | some l =>
    have h : AfterW (p l) bs k bad v := h
    show AfterW ((p l).map fun q => (f q.1, q.2)) bs k bad (f v)
    cases hp : p l with
    | none => rw [hp] at h; exact h
    | some q => rw [hp] at h; exact ⟨h.1, congrArg f h.2.1, h.2.2⟩
theorem AfterW.row {most N : Nat} {L : List α} (h : AfterW (o.bind (rByte most)) bs k1 b1 N) (h2 : AfterW ((rest bs k1 b1).bind (rMany p N)) bs k2 b2 L) : AfterW (o.bind (rRow most p)) bs k2 b2 L := by
  cases o with
  | none =>
    have h : b1 = true := h
    subst h
    exact h2
  | some l =>
    have h : AfterW (rByte most l) bs k1 b1 N := h
    show AfterW (rRow most p l) bs k2 b2 L
    unfold rRow
    cases hp : rByte most l with
    | none =>
      rw [hp] at h
      have h : b1 = true := h
      subst h
      exact h2
    | some z =>
      obtain ⟨x', r⟩ := z
      rw [hp] at h
      obtain ⟨rfl, rfl, rfl⟩ := h
      exact h2
theorem AfterW.snoc {i : Nat} {L : List α} {x : α} (h : AfterW (o.bind (rMany p i)) bs k1 b1 L) (h2 : AfterW ((rest bs k1 b1).bind p) bs k2 b2 x) : AfterW (o.bind (rMany p (i + 1))) bs k2 b2 (L ++ [x]) := by
  cases o with
  | none =>
    have h : b1 = true := h
    subst h
    exact h2
  | some l =>
    have h : AfterW (rMany p i l) bs k1 b1 L := h
    show AfterW (rMany p (i + 1) l) bs k2 b2 (L ++ [x])
    rw [rMany_snoc]
    cases hp : rMany p i l with
    | none =>
      rw [hp] at h
      have h : b1 = true := h
      subst h
      exact h2
    | some z =>
      obtain ⟨x', r⟩ := z
      rw [hp] at h
      obtain ⟨rfl, rfl, rfl⟩ := h
      have h2 : AfterW (p (bs.drop k1)) bs k2 b2 x := h2
      dsimp only
      cases hq : p (bs.drop k1) with
      | none => rw [hq] at h2; exact h2
      | some z2 => rw [hq] at h2; exact ⟨h2.1, by rw [h2.2.1], h2.2.2⟩
end
def coC (z : Co × SlA) : List Value := [.bool z.1.1, .bool z.1.2.1, .bool z.1.2.2.1.1, nv z.1.2.2.1.2, nv z.1.2.2.2.1, z.2.val]
/-- A slice of a rule's conditions that is read: each one's slice of terms, and what it says. -/
structure RdK (w : World) (B : Nat) (A : Option Addr) (n : Nat) (R : List SlA) (L : List Co) : Prop where
  lenR : R.length = n
  lenL : L.length = n
  top : Rd w B 6 A n ((L.zip R).flatMap coC)
  row : ∀ (i : Nat) (r : SlA) (x : Co), R[i]? = some r → L[i]? = some x → RdT w B r.1 r.2.1 x.2.2.2.2
section
variable {w w' : World} {B n : Nat} {A : Option Addr} {R : List SlA} {L : List Co}
theorem RdK.below (h : RdK w B A n R L) (hb : Below B w w') : RdK w' B A n R L :=
  ⟨h.lenR, h.lenL, h.top.below hb, fun i r x h1 h2 => (h.row i r x h1 h2).below hb⟩
theorem RdK.more {B' : Nat} (h : RdK w B A n R L) (hB : B ≤ B') : RdK w B' A n R L :=
  ⟨h.lenR, h.lenL, h.top.more hB, fun i r x h1 h2 => (h.row i r x h1 h2).more hB⟩
theorem RdK.at_ (h : RdK w B A n R L) {i : Nat} (hi : i < n) :
    ∃ b o g s x p l Ai ni ci, A = some ⟨b, o, none⟩ ∧ b < B ∧ L[i]? = some (g, s, x, p, l) ∧ w.cell? ⟨b, o + i * 6, none⟩ = some (.bool g) ∧ w.cell? ⟨b, o + i * 6 + 1, none⟩ = some (.bool s) ∧ w.cell? ⟨b, o + i * 6 + 2, none⟩ = some (.bool x.1) ∧ w.cell? ⟨b, o + i * 6 + 3, none⟩ = some (nv x.2) ∧ w.cell? ⟨b, o + i * 6 + 4, none⟩ = some (nv p) ∧ w.cell? ⟨b, o + i * 6 + 5, none⟩ = some (.slice Ai ni ci) ∧ RdT w B Ai ni l := by
  obtain ⟨b, o, e, hb, hc⟩ := h.top.2 (by omega)
  have h1 : R[i]? = some (R[i]'(by rw [h.lenR]; exact hi)) := List.getElem?_eq_getElem _
  have h2 : L[i]? = some (L[i]'(by rw [h.lenL]; exact hi)) := List.getElem?_eq_getElem _
  generalize R[i]'(by rw [h.lenR]; exact hi) = r at h1
  generalize L[i]'(by rw [h.lenL]; exact hi) = y at h2
  obtain ⟨Ai, ni, ci⟩ := r
  obtain ⟨g, s, x, p, l⟩ := y
  have hz : (L.zip R)[i]? = some ((g, s, x, p, l), (Ai, ni, ci)) := by
    rw [List.getElem?_zip_eq_some]
    exact ⟨h2, h1⟩
  have hl : ∀ x : Co × SlA, (coC x).length = 6 := fun _ => rfl
  have f0 := flat_at coC 6 hl hz 0 (by omega)
  have f1 := flat_at coC 6 hl hz 1 (by omega)
  have f2 := flat_at coC 6 hl hz 2 (by omega)
  have f3 := flat_at coC 6 hl hz 3 (by omega)
  have f4 := flat_at coC 6 hl hz 4 (by omega)
  have f5 := flat_at coC 6 hl hz 5 (by omega)
  exact ⟨b, o, g, s, x, p, l, Ai, ni, ci, e, hb, h2, hc _ _ f0, hc _ _ f1, hc _ _ f2, hc _ _ f3, hc _ _ f4, hc _ _ f5, h.row i _ _ h1 h2⟩
end
set_option maxRecDepth 100000 in
set_option maxHeartbeats 4000000 in
theorem rMaySay_any (b : Bool) (x : Tm) (p : UInt32) (A : Option Addr) (n c : Nat) (l : List Tm) (w : World) (h : RdT w w.heap.size A n l) (hn : n ≤ 1000000) :
    Calls Tryz.prog 41 #[.agg #[.bool b, .bool x.1, nv x.2, nv p, .slice A n c]] w fun e w' => e = .returned (.bool (mayS (b, x, (p, l)))) ∧ Below w.heap.size w w' := by
  obtain ⟨U, hU, hH, hbU⟩ : ∃ U, U = w.alloc (.cells #[.bool b, .bool x.1, nv x.2, nv p, .slice A n c] 51) ∧ Bk U w.heap.size 51 [.bool b, .bool x.1, nv x.2, nv p, .slice A n c] ∧ Below w.heap.size w U :=
    ⟨_, rfl, Bk.new w _ _, (Below.refl _ _).alloc (Nat.le_refl _) _⟩
  have HU := Lib.hid hU
  have HB := Lib.hid hbU
  have HR := Lib.hid (h.below hbU)
  have k0 := hH.readT (Below.refl _ _) 0 rfl
  have k1 := hH.readT (Below.refl _ _) 1 rfl
  have k2 := hH.readT (Below.refl _ _) 2 rfl
  have k3 := hH.readT (Below.refl _ _) 3 rfl
  have k4 := hH.readT (Below.refl _ _) 4 rfl
  clear hU hH hbU h
  go_enter Tryz.func41, Tryz.ntmps41
  go_upto_region 1 with (fail)
  rw [← HU.out]
  clear HU
  generalize hhb : w.heap.size = hb at HR HB k0 k1 k2 k3 k4 ⊢
  rw [← hhb] at HB HR
  clear hhb
  obtain ⟨v, y⟩ := x
  dsimp only at k1 k2
  have hy := n32_lt y
  have heq : (Op.equalIn 10000 46 (.agg #[.bool v, nv y]) (.agg #[.bool false, .int .u32 0])).run Tryz.prog U = .ok (decide (((v, y) : Tm) = (false, 0))) U := by
    have h := run_eqT (v, y) (false, 0) U
    exact h
  cases b with
  | true =>
    cases v with
    | false =>
      have HM := Lib.hid (show mayS (true, (false, y), (p, l)) = mayA (p, l) by simp [mayS])
      repeat (first | go_skip | go_guarded | go_step)
      refine (rMayAtom_any p A n c l U (HR.out.more HB.out.size) hn).mono ?_
      rintro e V5 ⟨rfl, hb5⟩
      dsimp only
      repeat (first | go_skip | go_guarded | go_step)
      go_ret
      exact ⟨by rw [HM.out]; rfl, HB.out.trans (hb5.mono HB.out.size)⟩
    | true =>
      by_cases h16 : y.toNat < 16
      · have HM := Lib.hid (show mayS (true, (true, y), (p, l)) = mayA (p, l) by simp [mayS, h16])
        have d0 : decide ((16 : Int) ≤ (y.toNat : Int)) = false := by simp; omega
        repeat (first | go_skip | go_guarded | go_step)
        refine (rMayAtom_any p A n c l U (HR.out.more HB.out.size) hn).mono ?_
        rintro e V5 ⟨rfl, hb5⟩
        dsimp only
        repeat (first | go_skip | go_guarded | go_step)
        go_ret
        exact ⟨by rw [HM.out]; rfl, HB.out.trans (hb5.mono HB.out.size)⟩
      · have HM := Lib.hid (show mayS (true, (true, y), (p, l)) = false by simp [mayS, h16])
        have d0 : decide ((16 : Int) ≤ (y.toNat : Int)) = true := by simp; omega
        repeat (first | go_skip | go_guarded | go_step)
        go_ret
        exact ⟨by rw [HM.out]; rfl, HB.out⟩
  | false =>
    by_cases he : (v, y) = ((false, 0) : Tm)
    · have HM := Lib.hid (show mayS (false, (v, y), (p, l)) = mayA (p, l) by cases he; simp [mayS])
      have de : decide (((v, y) : Tm) = (false, 0)) = true := decide_eq_true he
      rw [de] at heq
      cases he
      repeat (first | go_skip | go_guarded | go_step)
      refine (rMayAtom_any p A n c l U (HR.out.more HB.out.size) hn).mono ?_
      rintro e V5 ⟨rfl, hb5⟩
      dsimp only
      repeat (first | go_skip | go_guarded | go_step)
      go_ret
      exact ⟨by rw [HM.out]; rfl, HB.out.trans (hb5.mono HB.out.size)⟩
    · have HM := Lib.hid (show mayS (false, (v, y), (p, l)) = false by simp only [mayS, decide_eq_false he]; simp)
      have de : decide (((v, y) : Tm) = (false, 0)) = false := decide_eq_false he
      rw [de] at heq
      have hy0 : v = false → ((y.toNat : Int) == 0) = false := fun hv => by
        rw [beq_eq_false_iff_ne]
        intro e
        exact he (by rw [hv, show y = 0 from UInt32.toNat_inj.1 (by simpa using e)])
      clear he de
      cases v with
      | false =>
        have hy0 := hy0 rfl
        repeat (first | go_skip | go_guarded | go_step)
        go_ret
        exact ⟨by rw [HM.out]; rfl, HB.out⟩
      | true =>
        repeat (first | go_skip | go_guarded | go_step)
        go_ret
        exact ⟨by rw [HM.out]; rfl, HB.out⟩
set_option maxRecDepth 100000 in
set_option maxHeartbeats 4000000 in
theorem rSameSay_any (b b' : Bool) (x x' : Tm) (p p' : UInt32) (A A' : Option Addr) (n c n' c' : Nat) (l l' : List Tm) (w : World) (h : RdT w w.heap.size A n l) (h' : RdT w w.heap.size A' n' l') (hn : n ≤ 1000000) :
    Calls Tryz.prog 45 #[.agg #[.bool b, .bool x.1, nv x.2, nv p, .slice A n c], .agg #[.bool b', .bool x'.1, nv x'.2, nv p', .slice A' n' c']] w fun e w' => e = .returned (.bool (decide (((b, x, (p, l)) : Sy) = (b', x', (p', l'))))) ∧ Below w.heap.size w w' := by
  obtain ⟨U, hU, hH, hH', hbU⟩ : ∃ U, U = (w.alloc (.cells #[.bool b, .bool x.1, nv x.2, nv p, .slice A n c] 51)).alloc (.cells #[.bool b', .bool x'.1, nv x'.2, nv p', .slice A' n' c'] 51) ∧ Bk U w.heap.size 51 [.bool b, .bool x.1, nv x.2, nv p, .slice A n c] ∧ Bk U (w.heap.size + 1) 51 [.bool b', .bool x'.1, nv x'.2, nv p', .slice A' n' c'] ∧ Below w.heap.size w U :=
    ⟨_, rfl, (Bk.new w _ _).alloc _, Bk.second w _ _ _, below2 _ _ _⟩
  have HU := Lib.hid hU
  have HB := Lib.hid hbU
  have HR := Lib.hid (h.below hbU)
  have HR' := Lib.hid (h'.below hbU)
  have k0 := hH.readT (Below.refl _ _) 0 rfl
  have k1 := hH.readT (Below.refl _ _) 1 rfl
  have k2 := hH.readT (Below.refl _ _) 2 rfl
  have k3 := hH.readT (Below.refl _ _) 3 rfl
  have k4 := hH.readT (Below.refl _ _) 4 rfl
  have j0 := hH'.readT (Below.refl _ _) 0 rfl
  have j1 := hH'.readT (Below.refl _ _) 1 rfl
  have j2 := hH'.readT (Below.refl _ _) 2 rfl
  have j3 := hH'.readT (Below.refl _ _) 3 rfl
  have j4 := hH'.readT (Below.refl _ _) 4 rfl
  clear hU hH hH' hbU h h'
  go_enter Tryz.func45, Tryz.ntmps45
  go_upto_region 1 with (fail)
  rw [← HU.out]
  clear HU
  generalize hhb : w.heap.size = hb at HR HR' HB k0 k1 k2 k3 k4 j0 j1 j2 j3 j4 ⊢
  rw [← hhb] at HB HR HR'
  clear hhb
  obtain ⟨v, y⟩ := x
  obtain ⟨v', y'⟩ := x'
  dsimp only at k1 k2 j1 j2
  have hyd : (y = y' ∧ ((y.toNat : Int) == (y'.toNat : Int)) = true) ∨ (y ≠ y' ∧ ((y.toNat : Int) == (y'.toNat : Int)) = false) := by
    by_cases h : y = y'
    · exact .inl ⟨h, by simp [h]⟩
    · refine .inr ⟨h, ?_⟩
      rw [beq_eq_false_iff_ne]
      intro e
      exact h (UInt32.toNat_inj.1 (by omega))
  rcases hyd with ⟨hy, hyb⟩ | ⟨hy, hyb⟩ <;> have HY := Lib.hid hy <;> clear hy <;> cases b <;> cases b' <;> cases v <;> cases v'
  all_goals first
    | (repeat (first | go_skip | go_guarded | go_step)
       refine (rSameAtom_any p p' A A' n c n' c' l l' U (HR.out.more HB.out.size) (HR'.out.more HB.out.size) hn).mono ?_
       rintro e V5 ⟨rfl, hb5⟩
       dsimp only
       repeat (first | go_skip | go_guarded | go_step)
       go_ret
       refine ⟨?_, HB.out.trans (hb5.mono HB.out.size)⟩
       have hy := HY.out
       simp [hy]
       done)
    | (repeat (first | go_skip | go_guarded | go_step)
       go_ret
       refine ⟨?_, HB.out⟩
       have hy := HY.out
       simp [hy]
       done)
def bigR (r : Rl) : Bool := decide (100 < r.2.length) || decide (100 < r.1.2.2.2.length) || r.2.any fun x => decide (100 < x.2.2.2.2.length)
instance : DecidableEq Sy := inferInstanceAs (DecidableEq (Bool × Tm × AtL))
instance : DecidableEq Co := inferInstanceAs (DecidableEq (Bool × Sy))
instance : DecidableEq Rl := inferInstanceAs (DecidableEq (Sy × List Co))
theorem box6 (w : World) (cs : List Value) (t : TypeId) : ∃ W, W = w.alloc (.cells cs.toArray t) ∧ Bk W w.heap.size t cs ∧ Below w.heap.size w W := ⟨_, rfl, Bk.new w _ _, (Below.refl _ _).alloc (Nat.le_refl _) _⟩
set_option maxRecDepth 100000 in
set_option maxHeartbeats 4000000 in
theorem rRBig_any (s0 : Bool) (x0 : Tm) (p : UInt32) (A : Option Addr) (n c : Nat) (l : List Tm) (A1 : Option Addr) (n1 c1 : Nat) (R : List SlA) (L : List Co) (w : World) (h : RdT w w.heap.size A n l) (h1 : RdK w w.heap.size A1 n1 R L) :
    Calls Tryz.prog 35 #[.agg #[.bool s0, .bool x0.1, nv x0.2, nv p, .slice A n c, .slice A1 n1 c1]] w fun e w' => e = .returned (.bool (bigR ((s0, x0, (p, l)), L))) ∧ Below w.heap.size w w' := by
  have HL := Lib.hid (rdT_len h)
  have HL1 := Lib.hid h1.lenL
  obtain ⟨W, hW, hb, hbw⟩ := box6 w [.bool s0, .bool x0.1, nv x0.2, nv p, .slice A n c, .slice A1 n1 c1] 54
  have HW := Lib.hid hW
  have HB := Lib.hid hb
  have HR1 := Lib.hid (h1.below hbw)
  have k4 := hb.read (Below.refl _ _) 4 rfl
  have k5 := hb.read (Below.refl _ _) 5 rfl
  clear hW hb h h1
  by_cases hn : 100 < n1
  · have hd : decide ((100 : Int) < (n1 : Int)) = true := by simp; omega
    have hv : bigR ((s0, x0, (p, l)), L) = true := by unfold bigR; rw [HL1.out, decide_eq_true hn]; rfl
    have HV := Lib.hid hv
    clear hv hn
    go_enter Tryz.func35, Tryz.ntmps35
    go_upto_region 1 with (fail)
    rw [← HW.out]
    repeat (first | go_skip | go_guarded | go_step)
    go_ret
    exact ⟨by rw [HV.out]; rfl, hbw⟩
  · have hd : decide ((100 : Int) < (n1 : Int)) = false := by simp; omega
    have hv : bigR ((s0, x0, (p, l)), L) = (decide (100 < n) || L.any fun x => decide (100 < x.2.2.2.2.length)) := by unfold bigR; rw [HL1.out, decide_eq_false hn, HL.out]; simp
    have HV := Lib.hid hv
    clear hv
    go_enter Tryz.func35, Tryz.ntmps35
    go_upto_region 1 with (fail)
    rw [← HW.out]
    by_cases hn1 : 100 < n
    · have hd1 : decide ((100 : Int) < (n : Int)) = true := by simp; omega
      have HN1 := Lib.hid (decide_eq_true hn1)
      clear hn1
      repeat (first | go_skip | go_guarded | go_step)
      go_ret
      exact ⟨by rw [HV.out, HN1.out]; rfl, hbw⟩
    · have hd1 : decide ((100 : Int) < (n : Int)) = false := by simp; omega
      have HN1 := Lib.hid (decide_eq_false hn1)
      clear hn1
      repeat (first | go_skip | go_guarded | go_step)
      go_loopw [3] (fun p wr => ∃ i : Nat, i ≤ n1 ∧ p = .int .i64 (i : Int) ∧ (L.take i).all (fun x => !decide (100 < x.2.2.2.2.length)) = true ∧ Below W.heap.size W wr) (fun p _ => n1 - (intOf p).toNat)
      case atStart => exact ⟨0, by omega, rfl, by simp, Below.refl _ _⟩
      case round =>
        obtain ⟨i, hi, rfl, hal, hbr⟩ := hrel
        have i5 := HB.out.read hbr 5 rfl
        have HBR := Lib.hid hbr
        have HAL := Lib.hid hal
        clear hal
        by_cases hlt : i < n1
        · have hci : (i : Int) < (n1 : Int) := by omega
          obtain ⟨b, o, g, s, x, q, l2, Ai, ni, ci, hA, hbb, hx, hc0, hc1, hc2, hc3, hc4, hc5, hrow⟩ := (HR1.out.below (hbr.mono hbw.size)).at_ hlt
          clear hbr
          subst hA
          have HX := Lib.hid hx
          have HLr := Lib.hid (rdT_len hrow)
          clear hx hrow
          by_cases hn2 : 100 < ni
          · have hd2 : decide ((100 : Int) < (ni : Int)) = true := by simp; omega
            have HN2 := Lib.hid hn2
            clear hn2
            repeat (first | go_skip | go_guarded | go_step)
            go_ret
            refine ⟨?_, hbw.trans (HBR.out.mono hbw.size)⟩
            have : (L.any fun x => decide (100 < x.2.2.2.2.length)) = true := by
              rw [List.any_eq_true]
              exact ⟨_, List.mem_of_getElem? HX.out, by have := HLr.out; have := HN2.out; simp; omega⟩
            rw [HV.out, this]
            simp
          · have hd2 : decide ((100 : Int) < (ni : Int)) = false := by simp; omega
            have HN2 := Lib.hid hn2
            clear hn2
            repeat (first | go_skip | go_guarded | go_step)
            go_roundw
            case rel => exact ⟨i + 1, by omega, by go_num, all_upto HX.out HAL.out (by have := HLr.out; have := HN2.out; simp; omega), HBR.out⟩
            case measure => simp [intOf]; omega
        · obtain rfl : i = n1 := by omega
          clear hbr
          repeat (first | go_skip | go_guarded | go_step)
          go_ret
          refine ⟨?_, hbw.trans (HBR.out.mono hbw.size)⟩
          have h := all_whole (by have := HL1.out; omega) HAL.out
          have : (L.any fun x => decide (100 < x.2.2.2.2.length)) = false := by
            rw [List.any_eq_false]
            intro x hx
            have := List.all_eq_true.1 h x hx
            simpa using this
          rw [HV.out, HN1.out, this]
          rfl
set_option maxRecDepth 100000 in
set_option maxHeartbeats 4000000 in
theorem rRMay_any (s0 : Bool) (x0 : Tm) (p : UInt32) (A : Option Addr) (n c : Nat) (l : List Tm) (A1 : Option Addr) (n1 c1 : Nat) (R : List SlA) (L : List Co) (w : World) (h : RdT w w.heap.size A n l) (h1 : RdK w w.heap.size A1 n1 R L) (hn : n ≤ 1000000) (hn1 : n1 ≤ 1000000) (hk : ∀ x ∈ L, x.2.2.2.2.length ≤ 1000000) :
    Calls Tryz.prog 20 #[.agg #[.bool s0, .bool x0.1, nv x0.2, nv p, .slice A n c, .slice A1 n1 c1]] w fun e w' => e = .returned (.bool (mayR ((s0, x0, (p, l)), L))) ∧ Below w.heap.size w w' := by
  have HL := Lib.hid (rdT_len h)
  have HL1 := Lib.hid h1.lenL
  have HK := Lib.hid hk
  obtain ⟨W, hW, hb, hbw⟩ := box6 w [.bool s0, .bool x0.1, nv x0.2, nv p, .slice A n c, .slice A1 n1 c1] 54
  have HW := Lib.hid hW
  have HB := Lib.hid hb
  have HR := Lib.hid (h.below hbw)
  have HR1 := Lib.hid (h1.below hbw)
  clear hW hb h h1 hk
  go_enter Tryz.func20, Tryz.ntmps20
  go_upto_region 1 with (fail)
  rw [← HW.out]
  repeat (first | go_skip | go_guarded | go_step)
  go_loopw [3] (fun p wr => ∃ i : Nat, i ≤ n1 ∧ p = .int .i64 (i : Int) ∧ (L.take i).all (fun x => mayS x.2) = true ∧ Below W.heap.size W wr) (fun p _ => n1 - (intOf p).toNat)
  case atStart => exact ⟨0, by omega, rfl, by simp, Below.refl _ _⟩
  case round =>
    obtain ⟨i, hi, rfl, hal, hbr⟩ := hrel
    have j0 := HB.out.read hbr 0 rfl
    have j1 := HB.out.read hbr 1 rfl
    have j2 := HB.out.read hbr 2 rfl
    have j3 := HB.out.read hbr 3 rfl
    have j4 := HB.out.read hbr 4 rfl
    have j5 := HB.out.read hbr 5 rfl
    have HAL := Lib.hid hal
    clear hal
    by_cases hlt : i < n1
    · have hci : (i : Int) < (n1 : Int) := by omega
      obtain ⟨b, o, g, s, x, q, l2, Ai, ni, ci, hA, hbb, hx, hc0, hc1, hc2, hc3, hc4, hc5, hrow⟩ := (HR1.out.below (hbr.mono hbw.size)).at_ hlt
      subst hA
      have hni : ni ≤ 1000000 := by
        have := HK.out _ (List.mem_of_getElem? hx)
        have := rdT_len hrow
        dsimp only at *
        omega
      have HX := Lib.hid hx
      have HRO := Lib.hid (hrow.more (Nat.le_trans hbw.size hbr.size))
      have HBR := Lib.hid hbr
      clear hx hrow hbr
      repeat (first | go_skip | go_guarded | go_step)
      refine (rMaySay_any s x q Ai ni ci l2 wr HRO.out hni).mono ?_
      rintro e W2 ⟨rfl, hb2⟩
      dsimp only
      have HB2 := Lib.hid hb2
      clear hb2
      cases hm : mayS (s, x, (q, l2)) with
      | false =>
        have HM := Lib.hid hm
        clear hm
        repeat (first | go_skip | go_guarded | go_step)
        go_ret
        refine ⟨?_, hbw.trans ((HBR.out.trans (HB2.out.mono HBR.out.size)).mono hbw.size)⟩
        unfold mayR
        rw [all_at HX.out HM.out]
        rfl
      | true =>
        have HM := Lib.hid hm
        clear hm
        repeat (first | go_skip | go_guarded | go_step)
        go_roundw
        case rel => exact ⟨i + 1, by omega, by go_num, all_upto HX.out HAL.out HM.out, HBR.out.trans (HB2.out.mono HBR.out.size)⟩
        case measure => simp [intOf]; omega
    · obtain rfl : i = n1 := by omega
      have HBR := Lib.hid hbr
      have HRO := Lib.hid ((HR.out.below (hbr.mono hbw.size)).more (Nat.le_trans hbw.size hbr.size))
      clear hbr
      have hv : mayR ((s0, x0, (p, l)), L) = (mayS (s0, x0, (p, l)) && decide (i ≤ 8)) := by
        unfold mayR
        rw [all_whole (by have := HL1.out; omega) HAL.out, HL1.out]
        rfl
      have HV := Lib.hid hv
      clear hv
      repeat (first | go_skip | go_guarded | go_step)
      refine (rMaySay_any s0 x0 p A n c l wr HRO.out hn).mono ?_
      rintro e W2 ⟨rfl, hb2⟩
      dsimp only
      have j5 := HB.out.read (HBR.out.trans (hb2.mono HBR.out.size)) 5 rfl
      have HB2 := Lib.hid hb2
      clear hb2
      cases hm : mayS (s0, x0, (p, l)) with
      | false =>
        have HM := Lib.hid hm
        clear hm
        repeat (first | go_skip | go_guarded | go_step)
        go_ret
        exact ⟨by rw [HV.out, HM.out]; rfl, hbw.trans ((HBR.out.trans (HB2.out.mono HBR.out.size)).mono hbw.size)⟩
      | true =>
        have HM := Lib.hid hm
        clear hm
        repeat (first | go_skip | go_guarded | go_step)
        go_ret
        exact ⟨by rw [HV.out, HM.out]; simp; omega, hbw.trans ((HBR.out.trans (HB2.out.mono HBR.out.size)).mono hbw.size)⟩
set_option maxRecDepth 100000 in
set_option maxHeartbeats 4000000 in
theorem rSameRule_any (s0 : Bool) (x0 : Tm) (p : UInt32) (A : Option Addr) (n c : Nat) (l : List Tm) (A1 : Option Addr) (n1 c1 : Nat) (R : List SlA) (L : List Co) (s0' : Bool) (x0' : Tm) (p' : UInt32) (A' : Option Addr) (n' c' : Nat) (l' : List Tm) (A1' : Option Addr) (n1' c1' : Nat) (R' : List SlA) (L' : List Co) (w : World)
    (h : RdT w w.heap.size A n l) (h1 : RdK w w.heap.size A1 n1 R L) (h' : RdT w w.heap.size A' n' l') (h1' : RdK w w.heap.size A1' n1' R' L') (hn : n ≤ 1000000) (hn1 : n1 ≤ 1000000) (hk : ∀ x ∈ L, x.2.2.2.2.length ≤ 1000000) :
    Calls Tryz.prog 25 #[.agg #[.bool s0, .bool x0.1, nv x0.2, nv p, .slice A n c, .slice A1 n1 c1], .agg #[.bool s0', .bool x0'.1, nv x0'.2, nv p', .slice A' n' c', .slice A1' n1' c1']] w fun e w' => e = .returned (.bool (decide ((((s0, x0, (p, l)), L) : Rl) = ((s0', x0', (p', l')), L')))) ∧ Below w.heap.size w w' := by
  have HL1 := Lib.hid h1.lenL
  have HL1' := Lib.hid h1'.lenL
  have HK := Lib.hid hk
  obtain ⟨W, hW, hb, hb', hbw⟩ : ∃ W, W = (w.alloc (.cells #[.bool s0, .bool x0.1, nv x0.2, nv p, .slice A n c, .slice A1 n1 c1] 54)).alloc (.cells #[.bool s0', .bool x0'.1, nv x0'.2, nv p', .slice A' n' c', .slice A1' n1' c1'] 54) ∧ Bk W w.heap.size 54 [.bool s0, .bool x0.1, nv x0.2, nv p, .slice A n c, .slice A1 n1 c1] ∧
      Bk W (w.heap.size + 1) 54 [.bool s0', .bool x0'.1, nv x0'.2, nv p', .slice A' n' c', .slice A1' n1' c1'] ∧ Below w.heap.size w W := ⟨_, rfl, (Bk.new w _ _).alloc _, Bk.second w _ _ _, below2 _ _ _⟩
  have HW := Lib.hid hW
  have HB := Lib.hid hb
  have HB' := Lib.hid hb'
  have HR := Lib.hid ((h.below hbw).more hbw.size)
  have HR' := Lib.hid ((h'.below hbw).more hbw.size)
  have HR1 := Lib.hid ((h1.below hbw).more hbw.size)
  have HR1' := Lib.hid ((h1'.below hbw).more hbw.size)
  have k0 := hb.read (Below.refl _ _) 0 rfl
  have k1 := hb.read (Below.refl _ _) 1 rfl
  have k2 := hb.read (Below.refl _ _) 2 rfl
  have k3 := hb.read (Below.refl _ _) 3 rfl
  have k4 := hb.read (Below.refl _ _) 4 rfl
  have k0' := hb'.read (Below.refl _ _) 0 rfl
  have k1' := hb'.read (Below.refl _ _) 1 rfl
  have k2' := hb'.read (Below.refl _ _) 2 rfl
  have k3' := hb'.read (Below.refl _ _) 3 rfl
  have k4' := hb'.read (Below.refl _ _) 4 rfl
  clear hW hb hb' h h' h1 h1' hk
  go_enter Tryz.func25, Tryz.ntmps25
  go_upto_region 1 with (fail)
  rw [← HW.out]
  repeat (first | go_skip | go_guarded | go_step)
  refine (rSameSay_any s0 s0' x0 x0' p p' A A' n c n' c' l l' W HR.out HR'.out hn).mono ?_
  rintro e W1 ⟨rfl, hb1⟩
  dsimp only
  have j2 := HB.out.read hb1 5 rfl
  have j2' := HB'.out.read hb1 5 rfl
  have HB1 := Lib.hid hb1
  clear hb1 k0 k1 k2 k3 k4 k0' k1' k2' k3' k4'
  by_cases hh : ((s0, x0, (p, l)) : Sy) = (s0', x0', (p', l'))
  · rw [decide_eq_true hh]
    have HH := Lib.hid hh
    clear hh
    by_cases hnn : n1 = n1'
    · subst hnn
      have hd : ((n1 : Int) != (n1 : Int)) = false := by simp
      repeat (first | go_skip | go_guarded | go_step)
      go_loopw [5] (fun p wr => ∃ i : Nat, i ≤ n1 ∧ p = .int .i64 (i : Int) ∧ L.take i = L'.take i ∧ Below W.heap.size W wr) (fun p _ => n1 - (intOf p).toNat)
      case atStart => exact ⟨0, by omega, rfl, by simp, HB1.out⟩
      case round =>
        obtain ⟨i, hi, rfl, htk, hbr⟩ := hrel
        clear j2 j2'
        have i2 := HB.out.read hbr 5 rfl
        have i2' := HB'.out.read hbr 5 rfl
        have HTK := Lib.hid htk
        clear htk
        by_cases hlt : i < n1
        · have hci : (i : Int) < (n1 : Int) := by omega
          obtain ⟨b, o, g, s, x, q, l2, Ai, ni, ci, hA, hbb, hx, hc0, hc1, hc2, hc3, hc4, hc5, hrow⟩ := (HR1.out.below hbr).at_ hlt
          obtain ⟨b', o', g', s', x', q', l2', Ai', ni', ci', hA', hbb', hx', hc0', hc1', hc2', hc3', hc4', hc5', hrow'⟩ := (HR1'.out.below hbr).at_ hlt
          subst hA hA'
          have hni : ni ≤ 1000000 := by
            have := HK.out _ (List.mem_of_getElem? hx)
            have := rdT_len hrow
            dsimp only at *
            omega
          have HX := Lib.hid hx
          have HX' := Lib.hid hx'
          have HRO := Lib.hid (hrow.more hbr.size)
          have HRO' := Lib.hid (hrow'.more hbr.size)
          have HBR := Lib.hid hbr
          clear hx hx' hrow hrow' hbr
          by_cases hg : g = g'
          · subst hg
            have hgg : (g != g) = false := by simp
            repeat (first | go_skip | go_guarded | go_step)
            go_still_tail 26, (by kernel_rfl)
            change wpList _ _ _ _ _ wr.drew
            have hdr : Below W.heap.size W wr.drew := belowDrewQ HBR.out 1
            have HDR := Lib.hid hdr
            clear hdr
            repeat (first | go_skip | go_guarded | go_step)
            refine (rSameSay_any s s' x x' q q' Ai Ai' ni ci ni' ci' l2 l2' wr.drew (HRO.out.below (belowDrewQ (Below.refl _ wr) 1)) (HRO'.out.below (belowDrewQ (Below.refl _ wr) 1)) hni).mono ?_
            rintro e W2 ⟨rfl, hb2⟩
            dsimp only
            have HB2 := Lib.hid (show Below W.heap.size W W2 from HDR.out.trans (hb2.mono HDR.out.size))
            clear hb2
            by_cases he : ((s, x, (q, l2)) : Sy) = (s', x', (q', l2'))
            · rw [decide_eq_true he]
              have HE := Lib.hid he
              clear he
              repeat (first | go_skip | go_guarded | go_step)
              go_roundw
              case rel => exact ⟨i + 1, by omega, by go_num, take_eq HX.out HX'.out HTK.out (by rw [HE.out]), HB2.out⟩
              case measure => simp [intOf]; omega
            · rw [decide_eq_false he]
              have HE := Lib.hid he
              clear he
              repeat (first | go_skip | go_guarded | go_step)
              go_ret
              refine ⟨?_, hbw.trans (HB2.out.mono hbw.size)⟩
              have hne := ne_at HX.out HX'.out (fun e => HE.out (Prod.mk.inj e).2)
              simp [hne]
          · have hne := ne_at HX.out HX'.out (fun e => hg (Prod.mk.inj e).1)
            have HNE := Lib.hid hne
            clear hne
            cases g <;> cases g'
            · exact absurd rfl hg
            · repeat (first | go_skip | go_guarded | go_step)
              go_quiet (fail)
              repeat (first | go_skip | go_guarded | go_step)
              go_ret
              exact ⟨by simp [HNE.out], hbw.trans ((belowDrewQ HBR.out _).mono hbw.size)⟩
            · repeat (first | go_skip | go_guarded | go_step)
              go_quiet (fail)
              repeat (first | go_skip | go_guarded | go_step)
              go_ret
              exact ⟨by simp [HNE.out], hbw.trans ((belowDrewQ HBR.out _).mono hbw.size)⟩
            · exact absurd rfl hg
        · obtain rfl : i = n1 := by omega
          have HBR := Lib.hid hbr
          clear hbr
          repeat (first | go_skip | go_guarded | go_step)
          go_ret
          have he := all_eq HL1.out HL1'.out HTK.out
          exact ⟨by simp [HH.out, he], hbw.trans (HBR.out.mono hbw.size)⟩
    · have hd : ((n1 : Int) != (n1' : Int)) = true := by simp; omega
      have hne : L ≠ L' := fun e => hnn (by rw [← HL1.out, ← HL1'.out, e])
      have HNE := Lib.hid hne
      clear hne hnn
      repeat (first | go_skip | go_guarded | go_step)
      go_ret
      exact ⟨by simp [HNE.out], hbw.trans (HB1.out.mono hbw.size)⟩
  · rw [decide_eq_false hh]
    have HH := Lib.hid hh
    clear hh
    repeat (first | go_skip | go_guarded | go_step)
    go_ret
    have hne : ¬ ((((s0, x0, (p, l)), L) : Rl) = ((s0', x0', (p', l')), L')) := fun e => HH.out (Prod.mk.inj e).1
    exact ⟨by rw [decide_eq_false hne] <;> first | rfl | simp, hbw.trans (HB1.out.mono hbw.size)⟩
/-- An own row of things of s cells, each with an own row of terms that lies apart from it. -/
structure OwG {α : Type} (e : TypeId) (s : Nat) (cl : α × SlA → List Value) (tm : α → List Tm) (w : World) (base : Nat) (A : Option Addr) (c n : Nat) (R : List SlA) (L : List α) : Prop where
  lenR : R.length = n
  lenL : L.length = n
  top : w.ownsRow base e s (.slice A n c) n ((L.zip R).flatMap cl)
  row : ∀ (i : Nat) (r : SlA) (x : α), R[i]? = some r → L[i]? = some x → OwT w base r.1 r.2.2 r.2.1 (tm x) ∧ ∀ k, r.val.ownBlock = some k → (Value.slice A n c).ownBlock ≠ some k
section
variable {α : Type} {e : TypeId} {s : Nat} {cl : α × SlA → List Value} {tm : α → List Tm} {w w' : World} {base : Nat} {A : Option Addr} {c n : Nat} {R : List SlA} {L : List α}
theorem OwG.nil (w : World) (base : Nat) : OwG e s cl tm w base none 0 0 [] [] :=
  ⟨rfl, rfl, World.ownsRow_nil _ _ _ _, fun i r x h => by simp at h⟩
theorem OwG.turn {G : Nat → Prop} (h : OwG e s cl tm w base A c n R L) (ht : Turn G w w') (hn : ∀ k, base ≤ k → ¬ G k) : OwG e s cl tm w' base A c n R L :=
  ⟨h.lenR, h.lenL, ht.own h.top (fun k hk => hn k (World.ownsRow.lt h.top k hk).1), fun i r x h1 h2 => ⟨ht.own (h.row i r x h1 h2).1 (fun k hk => hn k (World.ownsRow.lt (h.row i r x h1 h2).1 k hk).1), (h.row i r x h1 h2).2⟩⟩
theorem OwG.later (h : OwG e s cl tm w base A c n R L) (hb : Below w.heap.size w w') : OwG e s cl tm w' base A c n R L :=
  ⟨h.lenR, h.lenL, ownBelow h.top hb (Nat.le_refl _), fun i r x h1 h2 => ⟨ownBelow (h.row i r x h1 h2).1 hb (Nat.le_refl _), (h.row i r x h1 h2).2⟩⟩
theorem OwG.snoc (h : OwG e s cl tm w base A c n R L) {r : SlA} {x : α} (hr : OwT w base r.1 r.2.2 r.2.1 (tm x)) {H : Nat} (h1 : ∀ k, (Value.slice A n c).ownBlock = some k → k < H) (h2 : ∀ k, r.val.ownBlock = some k → H ≤ k)
    {A' : Option Addr} {c' : Nat} (ho : w'.ownsRow base e s (.slice A' (n + 1) c') (n + 1) ((L.zip R).flatMap cl ++ cl (x, r))) (hg : w.grownBy w' (Value.slice A n c).ownBlock)
    (hb : (Value.slice A' (n + 1) c').ownBlock = (Value.slice A n c).ownBlock ∨ (Value.slice A' (n + 1) c').ownBlock = some w.heap.size) : OwG e s cl tm w' base A' c' (n + 1) (R ++ [r]) (L ++ [x]) := by
  have ht : Turn (fun k => (Value.slice A n c).ownBlock = some k) w w' := Turn.ofGrown hg (fun _ h => h)
  refine ⟨by simp [h.lenR], by simp [h.lenL], ?_, ?_⟩
  · rw [List.zip_append (by rw [h.lenL, h.lenR]), List.flatMap_append]
    simpa using ho
  · intro i r' x' e1 e2
    have key : ∀ (r : SlA) (x : α), OwT w base r.1 r.2.2 r.2.1 (tm x) → (∀ k, r.val.ownBlock = some k → (Value.slice A n c).ownBlock ≠ some k) → OwT w' base r.1 r.2.2 r.2.1 (tm x) ∧ ∀ k, r.val.ownBlock = some k → (Value.slice A' (n + 1) c').ownBlock ≠ some k := by
      intro r x a1 a2
      refine ⟨ht.own a1 (fun k hk hG => a2 k hk hG), fun k hk hc => ?_⟩
      rcases hb with hb | hb
      · rw [hb] at hc
        exact a2 k hk hc
      · rw [hb] at hc
        have := (World.ownsRow.lt a1 k hk).2
        have := Option.some.inj hc
        omega
    by_cases hi : i < n
    · rw [List.getElem?_append_left (by rw [h.lenR]; exact hi)] at e1
      rw [List.getElem?_append_left (by rw [h.lenL]; exact hi)] at e2
      exact key _ _ (h.row i r' x' e1 e2).1 (h.row i r' x' e1 e2).2
    · have hil : i = n := by
        have := (List.getElem?_eq_some_iff.1 e1).1
        simp only [List.length_append, List.length_cons, List.length_nil, h.lenR] at this
        omega
      subst hil
      rw [List.getElem?_append_right (by rw [h.lenR]; omega), h.lenR, Nat.sub_self] at e1
      rw [List.getElem?_append_right (by rw [h.lenL]; omega), h.lenL, Nat.sub_self] at e2
      simp only [List.getElem?_cons_zero, Option.some.injEq] at e1 e2
      subst e1 e2
      exact key _ _ hr (fun k hk hc => by have := h1 k hc; have := h2 k hk; omega)
end
abbrev OwL := @OwG Li 208 3 liC (fun x => x.2.2)
abbrev OwK := @OwG Co 103 6 coC (fun x => x.2.2.2.2)
section
variable {w w' : World} {base : Nat} {A : Option Addr} {c n : Nat} {R : List SlA}
theorem OwL.rd {L : List Li} (h : OwL w base A c n R L) : RdL w w.heap.size A n R L :=
  ⟨h.lenR, h.lenL, Rd.ofOwn h.top, fun i r x h1 h2 => OwT.rd (h.row i r x h1 h2).1⟩
theorem OwK.rd {L : List Co} (h : OwK w base A c n R L) : RdK w w.heap.size A n R L :=
  ⟨h.lenR, h.lenL, Rd.ofOwn h.top, fun i r x h1 h2 => OwT.rd (h.row i r x h1 h2).1⟩
theorem RdL.nil (w : World) (B : Nat) : RdL w B none 0 [] [] := ⟨rfl, rfl, Rd.nil, fun i r x h => by simp at h⟩
theorem RdK.nil (w : World) (B : Nat) : RdK w B none 0 [] [] := ⟨rfl, rfl, Rd.nil, fun i r x h => by simp at h⟩
theorem OwG.cap {α : Type} {e : TypeId} {s : Nat} {cl : α × SlA → List Value} {tm : α → List Tm} {L : List α} (h : OwG e s cl tm w base A c n R L) : n ≤ c := by
  obtain ⟨A1, c1, hv, hl⟩ := ownForm h.top
  cases hv
  exact hl
end
end Go.Proofs.YtoigpbajefkpoaaGreatDoor

