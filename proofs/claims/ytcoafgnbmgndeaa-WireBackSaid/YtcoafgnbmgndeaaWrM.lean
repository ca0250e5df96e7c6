/- Layer 6 (wire): facts, clauses and rules as bytes: the plain mathematics; no program. -/
import Derived.Test.YtcoafgnbmgndeaaOctN
import Derived.Test.YtcoafgnbmgndeaaAtA
set_option linter.unusedVariables false
namespace Go.Proofs.Ytcoafgnbmgndeaa
open Go Go.RowKit

/-- Nobody or somebody says an atom; a condition; a rule. -/
abbrev Sy := Bool × Tm × AtL
abbrev Co := Bool × Sy
abbrev Rl := Sy × List Co
def mayS (s : Sy) : Bool := (s.1 || decide (s.2.1 = (false, 0))) && (!s.2.1.1 || decide (s.2.1.2.toNat < 16)) && mayA s.2.2
def mayR (r : Rl) : Bool := r.2.all (fun c => mayS c.2) && mayS r.1 && decide (r.2.length ≤ 8)
def mayF (f : Fa) : Bool := decide (f.2.length ≤ 6)

/-! ### what reads and what writes -/
/-- A reader: of bytes a thing, and the bytes behind it. -/
abbrev Rdr (α : Type) := List UInt8 → Option (α × List UInt8)
/-- p reads just what enc writes of those that may be. -/
structure Codec {α : Type} (may : α → Prop) (enc : α → List UInt8) (p : Rdr α) : Prop where
  sound : ∀ l x r, p l = some (x, r) → may x ∧ l = enc x ++ r
  full : ∀ x r, may x → p (enc x ++ r) = some (x, r)
theorem Codec.cut {α : Type} {may : α → Prop} {enc : α → List UInt8} {p : Rdr α} (c : Codec may enc p) (x : α) (hx : may x) (k : Nat) (hk : k < (enc x).length) : p ((enc x).take k) = none := by
  cases h : p ((enc x).take k) with
  | none => rfl
  | some y =>
    obtain ⟨y, r⟩ := y
    obtain ⟨hy, e⟩ := c.sound _ _ _ h
    have e2 : enc x = enc y ++ (r ++ (enc x).drop k) := by rw [← List.append_assoc, ← e, List.take_append_drop]
    have h1 := c.full x [] hx
    rw [List.append_nil, e2, c.full y _ hy] at h1
    have h2 := congrArg (fun z => z.map (fun q => q.2.length)) h1
    simp only [Option.map_some, Option.some.injEq, List.length_append, List.length_drop, List.length_nil] at h2
    omega
theorem Codec.inj {α : Type} {may : α → Prop} {enc : α → List UInt8} {p : Rdr α} (c : Codec may enc p) {x y : α} (hx : may x) (hy : may y) {r s : List UInt8} (h : enc x ++ r = enc y ++ s) : x = y ∧ r = s := by
  have h1 := c.full x r hx
  rw [h, c.full y s hy] at h1
  have h2 := Option.some.inj h1
  exact ⟨(congrArg Prod.fst h2).symm, (congrArg Prod.snd h2).symm⟩
/-- One behind the other. -/
def rSeq {α β : Type} (p : Rdr α) (q : Rdr β) : Rdr (α × β) := fun l =>
  match p l with
  | none => none
  | some (x, r) => match q r with
    | none => none
    | some (y, s) => some ((x, y), s)
theorem Codec.seq {α β : Type} {m1 : α → Prop} {e1 : α → List UInt8} {p1 : Rdr α} {m2 : β → Prop} {e2 : β → List UInt8} {p2 : Rdr β} (c1 : Codec m1 e1 p1) (c2 : Codec m2 e2 p2) :
    Codec (fun x : α × β => m1 x.1 ∧ m2 x.2) (fun x => e1 x.1 ++ e2 x.2) (rSeq p1 p2) := by
  refine ⟨?_, ?_⟩
  · rintro l ⟨x, y⟩ r h
    unfold rSeq at h
    cases h1 : p1 l with
    | none => rw [h1] at h; cases h
    | some z =>
      obtain ⟨x', r'⟩ := z
      rw [h1] at h
      dsimp only at h
      cases h2 : p2 r' with
      | none => rw [h2] at h; cases h
      | some z2 =>
        obtain ⟨y', s⟩ := z2
        rw [h2] at h
        dsimp only at h
        simp only [Option.some.injEq, Prod.mk.injEq] at h
        obtain ⟨⟨rfl, rfl⟩, rfl⟩ := h
        obtain ⟨a1, b1⟩ := c1.sound _ _ _ h1
        obtain ⟨a2, b2⟩ := c2.sound _ _ _ h2
        exact ⟨⟨a1, a2⟩, by rw [b1, b2, List.append_assoc]⟩
  · rintro ⟨x, y⟩ r ⟨h1, h2⟩
    unfold rSeq
    dsimp only
    rw [List.append_assoc, c1.full x _ h1]
    dsimp only
    rw [c2.full y _ h2]
/-- The same in other words. -/
def rMap {α β : Type} (p : Rdr α) (f : α → β) : Rdr β := fun l => (p l).map fun z => (f z.1, z.2)
theorem Codec.iso {α β : Type} {m : α → Prop} {e : α → List UInt8} {p : Rdr α} (c : Codec m e p) (f : α → β) (g : β → α) (hfg : ∀ y, f (g y) = y) (hgf : ∀ x, m x → g (f x) = x) :
    Codec (fun y => m (g y)) (fun y => e (g y)) (rMap p f) := by
  refine ⟨?_, ?_⟩
  · intro l y r h
    unfold rMap at h
    cases h1 : p l with
    | none => rw [h1] at h; cases h
    | some z =>
      obtain ⟨x, r'⟩ := z
      rw [h1] at h
      simp only [Option.map_some, Option.some.injEq, Prod.mk.injEq] at h
      obtain ⟨rfl, rfl⟩ := h
      obtain ⟨a, b⟩ := c.sound _ _ _ h1
      rw [hgf x a]
      exact ⟨a, b⟩
  · intro y r h
    unfold rMap
    rw [c.full _ r h]
    simp [hfg]
theorem Codec.same {α : Type} {m m' : α → Prop} {e e' : α → List UInt8} {p p' : Rdr α} (c : Codec m e p) (hm : ∀ x, m x ↔ m' x) (he : ∀ x, m x → e x = e' x) (hp : ∀ l, p l = p' l) : Codec m' e' p' := by
  refine ⟨?_, ?_⟩
  · intro l x r h
    rw [← hp] at h
    obtain ⟨a, b⟩ := c.sound _ _ _ h
    exact ⟨(hm x).1 a, by rw [← he x a]; exact b⟩
  · intro x r h
    have h := (hm x).2 h
    rw [← hp, ← he x h]
    exact c.full x r h
/-- Only those that pass. -/
def rIf {α : Type} (p : Rdr α) (f : α → Bool) : Rdr α := fun l =>
  match p l with
  | none => none
  | some (x, r) => if f x then some (x, r) else none
theorem Codec.only {α : Type} {m : α → Prop} {e : α → List UInt8} {p : Rdr α} (c : Codec m e p) (f : α → Bool) : Codec (fun x => m x ∧ f x = true) e (rIf p f) := by
  refine ⟨?_, ?_⟩
  · intro l x r h
    unfold rIf at h
    cases h1 : p l with
    | none => rw [h1] at h; cases h
    | some z =>
      obtain ⟨x', r'⟩ := z
      rw [h1] at h
      dsimp only at h
      split at h
      · rename_i hf
        simp only [Option.some.injEq, Prod.mk.injEq] at h
        obtain ⟨rfl, rfl⟩ := h
        obtain ⟨a, b⟩ := c.sound _ _ _ h1
        exact ⟨⟨a, hf⟩, b⟩
      · cases h
  · intro x r h
    unfold rIf
    rw [c.full x r h.1]
    simp [h.2]
/-- n of them. -/
def rMany {α : Type} (p : Rdr α) : Nat → Rdr (List α)
  | 0, l => some ([], l)
  | n + 1, l => match p l with
    | none => none
    | some (x, r) => match rMany p n r with
      | none => none
      | some (xs, s) => some (x :: xs, s)
theorem Codec.many {α : Type} {m : α → Prop} {e : α → List UInt8} {p : Rdr α} (c : Codec m e p) : ∀ n, Codec (fun xs : List α => xs.length = n ∧ ∀ x ∈ xs, m x) (fun xs => xs.flatMap e) (rMany p n)
  | 0 => by
    refine ⟨?_, ?_⟩
    · intro l xs r h
      simp only [rMany, Option.some.injEq, Prod.mk.injEq] at h
      obtain ⟨rfl, rfl⟩ := h
      simp
    · rintro xs r ⟨h, _⟩
      obtain rfl := List.length_eq_zero_iff.1 h
      simp [rMany]
  | n + 1 => by
    have ih := Codec.many c n
    refine ⟨?_, ?_⟩
    · intro l xs r h
      unfold rMany at h
      cases h1 : p l with
      | none => rw [h1] at h; cases h
      | some z =>
        obtain ⟨x, r'⟩ := z
        rw [h1] at h
        dsimp only at h
        cases h2 : rMany p n r' with
        | none => rw [h2] at h; cases h
        | some z2 =>
          obtain ⟨ys, s⟩ := z2
          rw [h2] at h
          dsimp only at h
          simp only [Option.some.injEq, Prod.mk.injEq] at h
          obtain ⟨rfl, rfl⟩ := h
          obtain ⟨a1, b1⟩ := c.sound _ _ _ h1
          obtain ⟨⟨a2, a3⟩, b2⟩ := ih.sound _ _ _ h2
          refine ⟨⟨by simp [a2], ?_⟩, by rw [b1, b2]; simp⟩
          intro y hy
          rcases List.mem_cons.1 hy with rfl | hy
          · exact a1
          · exact a3 y hy
    · rintro xs r ⟨h, hm⟩
      cases xs with
      | nil => simp at h
      | cons x ys =>
        unfold rMany
        rw [List.flatMap_cons, List.append_assoc, c.full x _ (hm x (by simp))]
        dsimp only
        rw [ih.full ys r ⟨by simpa using h, fun y hy => hm y (by simp [hy])⟩]
/-- One more behind: as a loop reads them. -/
theorem rMany_snoc {α : Type} (p : Rdr α) : ∀ (n : Nat) (l : List UInt8), rMany p (n + 1) l = match rMany p n l with
    | none => none
    | some (xs, r) => match p r with
      | none => none
      | some (x, s) => some (xs ++ [x], s)
  | 0, l => by
    simp only [rMany]
    cases p l with
    | none => rfl
    | some z => rfl
  | n + 1, l => by
    rw [rMany]
    conv => rhs; rw [rMany]
    cases h : p l with
    | none => rfl
    | some z =>
      obtain ⟨x, r⟩ := z
      dsimp only
      rw [rMany_snoc p n r]
      cases h2 : rMany p n r with
      | none => rfl
      | some z2 =>
        obtain ⟨ys, s⟩ := z2
        dsimp only
        cases h3 : p s with
        | none => rfl
        | some z3 => rfl

/-! ### numbers and bytes -/
/-- A var of a number that is at most so much. -/
def rNum (most : Nat) : Rdr Nat := fun l =>
  match tv l 0 0 with
  | none => none
  | some (v, k) => if v ≤ most then some (v, l.drop k) else none
theorem numC (most : Nat) (h : most < 18446744073709551616) : Codec (fun n => n ≤ most) var (rNum most) := by
  refine ⟨?_, ?_⟩
  · intro l v r h1
    unfold rNum at h1
    cases h2 : tv l 0 0 with
    | none => rw [h2] at h1; cases h1
    | some z =>
      obtain ⟨v', k⟩ := z
      rw [h2] at h1
      dsimp only at h1
      split at h1
      · rename_i hle
        simp only [Option.some.injEq, Prod.mk.injEq] at h1
        obtain ⟨rfl, rfl⟩ := h1
        have h3 := tv_back l [] 0 v' k (by simp) (by simp) rfl h2
        simp only [List.length_nil, Nat.sub_zero, List.nil_append, Nat.zero_add] at h3
        exact ⟨hle, by rw [h3.1, List.take_append_drop]⟩
      · cases h1
  · intro n r hn
    unfold rNum
    rw [tv_var n r (by omega)]
    simp [hn]
/-- A byte that is at most so much. -/
def rByte (most : Nat) : Rdr Nat := fun l =>
  match l with
  | [] => none
  | c :: r => if c.toNat ≤ most then some (c.toNat, r) else none
theorem byteC (most : Nat) (h : most < 256) : Codec (fun n => n ≤ most) (fun n => [UInt8.ofNat n]) (rByte most) := by
  refine ⟨?_, ?_⟩
  · intro l v r h1
    cases l with
    | nil => cases h1
    | cons c l =>
      simp only [rByte] at h1
      split at h1
      · rename_i hle
        simp only [Option.some.injEq, Prod.mk.injEq] at h1
        obtain ⟨rfl, rfl⟩ := h1
        exact ⟨hle, by simp⟩
      · cases h1
  · intro n r hn
    have e : (UInt8.ofNat n).toNat = n := UInt8.toNat_ofNat_of_lt' (by show n < 256; omega)
    simp only [List.cons_append, List.nil_append, rByte, e]
    rw [if_pos hn]
/-- How many, and then so many. -/
def rRow {α : Type} (most : Nat) (p : Rdr α) : Rdr (List α) := fun l =>
  match rByte most l with
  | none => none
  | some (n, r) => rMany p n r
def rowB {α : Type} (e : α → List UInt8) (xs : List α) : List UInt8 := UInt8.ofNat xs.length :: xs.flatMap e
theorem Codec.row {α : Type} {m : α → Prop} {e : α → List UInt8} {p : Rdr α} (c : Codec m e p) (most : Nat) (h : most < 256) : Codec (fun xs : List α => xs.length ≤ most ∧ ∀ x ∈ xs, m x) (rowB e) (rRow most p) := by
  refine ⟨?_, ?_⟩
  · intro l xs r h1
    unfold rRow at h1
    cases h2 : rByte most l with
    | none => rw [h2] at h1; cases h1
    | some z =>
      obtain ⟨n, r'⟩ := z
      rw [h2] at h1
      dsimp only at h1
      obtain ⟨a, b⟩ := (byteC most h).sound _ _ _ h2
      obtain ⟨⟨a1, a2⟩, b2⟩ := (c.many n).sound _ _ _ h1
      refine ⟨⟨by omega, a2⟩, ?_⟩
      rw [b, b2, rowB, a1]
      simp
  · rintro xs r ⟨h1, h2⟩
    unfold rRow rowB
    have := (byteC most h).full xs.length (xs.flatMap e ++ r) h1
    simp only [List.cons_append, List.nil_append] at this ⊢
    rw [this]
    dsimp only
    exact (c.many xs.length).full xs r ⟨rfl, h2⟩

/-! ### terms, atoms, facts -/
theorem ofNat32 (x : UInt32) : UInt32.ofNat x.toNat = x := by simp
theorem toNat32 {n : Nat} (h : n ≤ 4294967295) : (UInt32.ofNat n).toNat = n := UInt32.toNat_ofNat_of_lt' (by show n < 4294967296; omega)
def rU32 : Rdr UInt32 := rMap (rNum 4294967295) UInt32.ofNat
def u32B (x : UInt32) : List UInt8 := var x.toNat
theorem u32C : Codec (fun _ => True) u32B rU32 :=
  Codec.same ((numC 4294967295 (by omega)).iso UInt32.ofNat UInt32.toNat ofNat32 (fun n hn => toNat32 hn)) (fun x => by have := n32_lt x; simp; omega) (fun _ _ => rfl) (fun _ => rfl)
def termN (t : Tm) : Nat := 2 * t.2.toNat + (if t.1 then 1 else 0)
def termB (t : Tm) : List UInt8 := var (termN t)
def termOf (n : Nat) : Tm := (n % 2 == 1, UInt32.ofNat (n / 2))
def rTerm : Rdr Tm := rMap (rNum 8589934591) termOf
theorem termOf_N (t : Tm) : termOf (termN t) = t := by
  obtain ⟨b, x⟩ := t
  have := n32_lt x
  cases b
  · unfold termOf termN
    simp only [Bool.false_eq_true, if_false, Nat.add_zero]
    rw [show 2 * x.toNat % 2 = 0 from by omega, show 2 * x.toNat / 2 = x.toNat from by omega, ofNat32]
    rfl
  · unfold termOf termN
    simp only [if_true]
    rw [show (2 * x.toNat + 1) % 2 = 1 from by omega, show (2 * x.toNat + 1) / 2 = x.toNat from by omega, ofNat32]
    rfl
theorem termN_of (n : Nat) (h : n ≤ 8589934591) : termN (termOf n) = n := by
  unfold termN termOf
  dsimp only
  rw [toNat32 (by omega)]
  by_cases h2 : n % 2 = 1
  · simp [h2]; omega
  · have : n % 2 = 0 := by omega
    simp [this]; omega
theorem termN_lt (t : Tm) : termN t ≤ 8589934591 := by
  have := n32_lt t.2
  unfold termN
  split <;> omega
theorem termC : Codec (fun _ => True) termB rTerm :=
  Codec.same ((numC 8589934591 (by omega)).iso termOf termN termOf_N termN_of) (fun t => by have := termN_lt t; simp; omega) (fun _ _ => rfl) (fun _ => rfl)
def atomB (a : AtL) : List UInt8 := u32B a.1 ++ rowB termB a.2
def rAtom : Rdr AtL := rSeq rU32 (rRow 6 rTerm)
theorem atomC : Codec (fun a : AtL => a.2.length ≤ 6) atomB rAtom :=
  Codec.same (u32C.seq (termC.row 6 (by omega))) (fun a => by simp) (fun _ _ => rfl) (fun _ => rfl)
def factB (f : Fa) : List UInt8 := u32B f.1 ++ rowB u32B f.2
def rFact : Rdr Fa := rSeq rU32 (rRow 6 rU32)
theorem factC : Codec (fun f : Fa => mayF f = true) factB rFact :=
  Codec.same (u32C.seq (u32C.row 6 (by omega))) (fun f => by simp [mayF]) (fun _ _ => rfl) (fun _ => rfl)
/-- What is so or not. -/
def bitB (b : Bool) : List UInt8 := [if b then 1 else 0]
def rBit : Rdr Bool := rMap (rByte 1) (· == 1)
theorem bitC : Codec (fun _ => True) bitB rBit :=
  Codec.same ((byteC 1 (by omega)).iso (· == 1) (fun b => if b then 1 else 0) (fun b => by cases b <;> rfl) (fun n hn => by
    rcases (show n = 0 ∨ n = 1 by omega) with rfl | rfl <;> rfl)) (fun b => by cases b <;> simp) (fun b _ => by cases b <;> rfl) (fun _ => rfl)

/-! ### clauses -/
def litB (x : Li) : List UInt8 := bitB x.1 ++ atomB x.2
def rLit : Rdr Li := rSeq rBit rAtom
theorem litC : Codec (fun x : Li => x.2.2.length ≤ 6) litB rLit :=
  Codec.same (bitC.seq atomC) (fun x => by simp) (fun _ _ => rfl) (fun _ => rfl)
def clauseB (c : Cl) : List UInt8 := atomB c.1 ++ rowB litB c.2
def rClause0 : Rdr Cl := rSeq rAtom (rRow 8 rLit)
def rClause : Rdr Cl := rIf rClause0 mayC
theorem mayA_len {a : AtL} (h : mayA a = true) : a.2.length ≤ 6 := by
  unfold mayA at h
  rw [Bool.and_eq_true] at h
  exact of_decide_eq_true h.2
theorem clauseC : Codec (fun c : Cl => mayC c = true) clauseB rClause :=
  Codec.same ((atomC.seq (litC.row 8 (by omega))).only mayC) (fun c => by
    constructor
    · exact fun h => h.2
    · intro h
      refine ⟨⟨?_, ?_, ?_⟩, h⟩ <;> (unfold mayC at h; simp only [Bool.and_eq_true, List.all_eq_true, decide_eq_true_eq] at h)
      · exact mayA_len h.1.2
      · exact h.2
      · exact fun x hx => mayA_len (h.1.1 x hx)) (fun _ _ => rfl) (fun _ => rfl)

/-! ### rules -/
def sayB (s : Sy) : List UInt8 := bitB s.1 ++ ((if s.1 then termB s.2.1 else []) ++ atomB s.2.2)
def rWho (said : Bool) : Rdr Tm := fun l => if said then rTerm l else some ((false, 0), l)
def rSay : Rdr Sy := fun l =>
  match rBit l with
  | none => none
  | some (b, r) => match rWho b r with
    | none => none
    | some (t, r2) => match rAtom r2 with
      | none => none
      | some (a, r3) => some ((b, t, a), r3)
theorem whoC (said : Bool) : Codec (fun t : Tm => said = true ∨ t = (false, 0)) (fun t => if said then termB t else []) (rWho said) := by
  cases said
  · refine ⟨?_, ?_⟩
    · intro l x r h
      simp only [rWho, Bool.false_eq_true, if_false, Option.some.injEq, Prod.mk.injEq] at h
      obtain ⟨rfl, rfl⟩ := h
      simp
    · intro x r h
      simp only [Bool.false_eq_true, false_or] at h
      subst h
      simp [rWho]
  · exact Codec.same termC (fun t => by simp) (fun _ _ => rfl) (fun l => by simp [rWho])
theorem sayC : Codec (fun s : Sy => (s.1 = true ∨ s.2.1 = (false, 0)) ∧ s.2.2.2.length ≤ 6) sayB rSay := by
  refine ⟨?_, ?_⟩
  · rintro l ⟨b, t, a⟩ r h
    unfold rSay at h
    cases h1 : rBit l with
    | none => rw [h1] at h; cases h
    | some z =>
      obtain ⟨b', r1⟩ := z
      rw [h1] at h
      dsimp only at h
      cases h2 : rWho b' r1 with
      | none => rw [h2] at h; cases h
      | some z2 =>
        obtain ⟨t', r2⟩ := z2
        rw [h2] at h
        dsimp only at h
        cases h3 : rAtom r2 with
        | none => rw [h3] at h; cases h
        | some z3 =>
          obtain ⟨a', r3⟩ := z3
          rw [h3] at h
          dsimp only at h
          simp only [Option.some.injEq, Prod.mk.injEq] at h
          obtain ⟨⟨rfl, rfl, rfl⟩, rfl⟩ := h
          obtain ⟨_, e1⟩ := bitC.sound _ _ _ h1
          obtain ⟨m2, e2⟩ := (whoC _).sound _ _ _ h2
          obtain ⟨m3, e3⟩ := atomC.sound _ _ _ h3
          refine ⟨⟨m2, m3⟩, ?_⟩
          rw [e1, e2, e3]
          simp [sayB]
  · rintro ⟨b, t, a⟩ r ⟨h1, h2⟩
    unfold rSay sayB
    dsimp only at h1 h2 ⊢
    rw [List.append_assoc, bitC.full b _ trivial]
    dsimp only
    rw [List.append_assoc, (whoC b).full t _ h1]
    dsimp only
    rw [atomC.full a _ h2]
def condB (x : Co) : List UInt8 := bitB x.1 ++ sayB x.2
def rCond : Rdr Co := rSeq rBit rSay
theorem condC : Codec (fun x : Co => (x.2.1 = true ∨ x.2.2.1 = (false, 0)) ∧ x.2.2.2.2.length ≤ 6) condB rCond :=
  Codec.same (bitC.seq sayC) (fun x => by simp) (fun _ _ => rfl) (fun _ => rfl)
def ruleB (r : Rl) : List UInt8 := sayB r.1 ++ rowB condB r.2
def rRule0 : Rdr Rl := rSeq rSay (rRow 8 rCond)
def rRule : Rdr Rl := rIf rRule0 mayR
theorem mayS_form {s : Sy} (h : mayS s = true) : (s.1 = true ∨ s.2.1 = (false, 0)) ∧ s.2.2.2.length ≤ 6 := by
  unfold mayS at h
  simp only [Bool.and_eq_true, Bool.or_eq_true, decide_eq_true_eq] at h
  exact ⟨h.1.1, mayA_len h.2⟩
theorem ruleC : Codec (fun r : Rl => mayR r = true) ruleB rRule :=
  Codec.same ((sayC.seq (condC.row 8 (by omega))).only mayR) (fun c => by
    constructor
    · exact fun h => h.2
    · intro h
      refine ⟨⟨?_, ?_, ?_⟩, h⟩ <;> (unfold mayR at h; simp only [Bool.and_eq_true, List.all_eq_true, decide_eq_true_eq] at h)
      · exact mayS_form h.1.2
      · exact h.2
      · exact fun x hx => mayS_form (h.1.1 x hx)) (fun _ _ => rfl) (fun _ => rfl)
end Go.Proofs.Ytcoafgnbmgndeaa
