/- Layer 6 (wire): what the program reads, and asks of what it read, is what the document reads; no program. -/
import Derived.Test.YtcoafgnbmgndeaaWqG
set_option linter.unusedVariables false
set_option linter.unusedSimpArgs false
namespace Go.Proofs.Ytcoafgnbmgndeaa
open Go Go.RowKit

section
variable {α β : Type} {p : Rdr α} {q : Rdr β} {l r s : List UInt8} {x : α} {y : β}
theorem rIf_n (f : α → Bool) (h : p l = none) : rIf p f l = none := by unfold rIf; rw [h]
theorem rIf_s (f : α → Bool) (h : p l = some (x, r)) : rIf p f l = if f x then some (x, r) else none := by unfold rIf; rw [h]
theorem rIf_y {f : α → Bool} (h : p l = some (x, r)) (hf : f x = true) : rIf p f l = some (x, r) := by rw [rIf_s f h, hf]; rfl
theorem rIf_f {f : α → Bool} (h : p l = some (x, r)) (hf : f x = false) : rIf p f l = none := by rw [rIf_s f h, hf]; rfl
theorem rSeq_n (h : p l = none) : rSeq p q l = none := by unfold rSeq; rw [h]
theorem rSeq_sn (h : p l = some (x, r)) (h2 : q r = none) : rSeq p q l = none := by
  unfold rSeq
  rw [h]
  dsimp only
  rw [h2]
theorem rSeq_ss (h : p l = some (x, r)) (h2 : q r = some (y, s)) : rSeq p q l = some ((x, y), s) := by
  unfold rSeq
  rw [h]
  dsimp only
  rw [h2]
theorem rMany_n (n : Nat) (h : p l = none) : rMany p (n + 1) l = none := by rw [rMany, h]
theorem rMany_sn {n : Nat} (h : p l = some (x, r)) (h2 : rMany p n r = none) : rMany p (n + 1) l = none := by
  rw [rMany, h]
  dsimp only
  rw [h2]
theorem rMany_ss {n : Nat} {xs : List α} (h : p l = some (x, r)) (h2 : rMany p n r = some (xs, s)) : rMany p (n + 1) l = some (x :: xs, s) := by
  rw [rMany, h]
  dsimp only
  rw [h2]
theorem rIf_if (f g : α → Bool) : rIf (rIf p f) g = rIf p (fun x => f x && g x) := by
  funext l
  cases h : p l with
  | none => rw [rIf_n _ h, rIf_n _ (rIf_n f h)]
  | some z =>
    obtain ⟨x, r⟩ := z
    rw [rIf_s _ h]
    cases hf : f x with
    | false => rw [rIf_n _ (rIf_f h hf)]; rfl
    | true => rw [rIf_s _ (rIf_y h hf)]; rfl
theorem rIf_same {f g : α → Bool} (h : ∀ x, f x = g x) : rIf p f = rIf p g := by rw [show f = g from funext h]
theorem rSeq_if (f : α → Bool) (g : β → Bool) : rSeq (rIf p f) (rIf q g) = rIf (rSeq p q) (fun x => f x.1 && g x.2) := by
  funext l
  cases h : p l with
  | none => rw [rSeq_n (rIf_n f h), rIf_n _ (rSeq_n h)]
  | some z =>
    obtain ⟨x, r⟩ := z
    cases h2 : q r with
    | none =>
      rw [rIf_n _ (rSeq_sn h h2)]
      cases hf : f x with
      | false => exact rSeq_n (rIf_f h hf)
      | true => exact rSeq_sn (rIf_y h hf) (rIf_n g h2)
    | some z2 =>
      obtain ⟨y, s⟩ := z2
      rw [rIf_s _ (rSeq_ss h h2)]
      dsimp only
      cases hf : f x with
      | false => rw [rSeq_n (rIf_f h hf)]; rfl
      | true =>
        cases hg : g y with
        | false => rw [rSeq_sn (rIf_y h hf) (rIf_f h2 hg)]; rfl
        | true => rw [rSeq_ss (rIf_y h hf) (rIf_y h2 hg)]; rfl
theorem rIf_all : rIf p (fun _ => true) = p := by
  funext l
  cases h : p l with
  | none => rw [rIf_n _ h]
  | some z =>
    obtain ⟨x, r⟩ := z
    rw [rIf_s _ h]
    rfl
theorem rSeq_ifR (g : β → Bool) : rSeq p (rIf q g) = rIf (rSeq p q) (fun x => g x.2) := by
  have h := rSeq_if (p := p) (q := q) (fun _ => true) g
  rw [rIf_all] at h
  rw [h]
  exact rIf_same (fun x => by simp)
theorem rMany_if (f : α → Bool) : ∀ n, rMany (rIf p f) n = rIf (rMany p n) (fun xs => xs.all f)
  | 0 => by funext l; rfl
  | n + 1 => by
    have ih := rMany_if f n
    funext l
    cases h : p l with
    | none => rw [rMany_n n (rIf_n f h), rIf_n _ (rMany_n n h)]
    | some z =>
      obtain ⟨x, r⟩ := z
      cases h2 : rMany p n r with
      | none =>
        rw [rIf_n _ (rMany_sn h h2)]
        cases hf : f x with
        | false => exact rMany_n n (rIf_f h hf)
        | true => exact rMany_sn (rIf_y h hf) (by rw [ih, rIf_n _ h2])
      | some z2 =>
        obtain ⟨xs, s⟩ := z2
        rw [rIf_s _ (rMany_ss h h2)]
        rw [List.all_cons]
        cases hf : f x with
        | false => rw [rMany_n n (rIf_f h hf)]; rfl
        | true =>
          cases hg : xs.all f with
          | false => rw [rMany_sn (rIf_y h hf) (by rw [ih, rIf_f h2 hg])]; rfl
          | true => rw [rMany_ss (rIf_y h hf) (by rw [ih, rIf_y h2 hg])]; rfl
theorem rMany_len : ∀ (n : Nat) (l : List UInt8) (xs : List α) (r : List UInt8), rMany p n l = some (xs, r) → xs.length = n
  | 0, l, xs, r, h => by
    simp only [rMany, Option.some.injEq, Prod.mk.injEq] at h
    rw [← h.1]; rfl
  | n + 1, l, xs, r, h => by
    cases h1 : p l with
    | none => rw [rMany_n n h1] at h; cases h
    | some z =>
      obtain ⟨x, r1⟩ := z
      cases h2 : rMany p n r1 with
      | none => rw [rMany_sn h1 h2] at h; cases h
      | some z2 =>
        obtain ⟨ys, s⟩ := z2
        rw [rMany_ss h1 h2] at h
        simp only [Option.some.injEq, Prod.mk.injEq] at h
        rw [← h.1, List.length_cons, rMany_len n r1 ys s h2]
theorem rRow_n {most : Nat} (h : rByte most l = none) : rRow most p l = none := by unfold rRow; rw [h]
theorem rRow_s {most n : Nat} (h : rByte most l = some (n, r)) : rRow most p l = rMany p n r := by unfold rRow; rw [h]
theorem rRow_if (f : α → Bool) (most : Nat) (hm : most ≤ 255) : rRow most (rIf p f) = rIf (rRow 255 p) (fun xs => xs.all f && decide (xs.length ≤ most)) := by
  funext l
  cases l with
  | nil => rw [rRow_n rfl, rIf_n _ (rRow_n rfl)]
  | cons c r =>
    have h8 := u8_lt c
    have hb : rByte 255 (c :: r) = some (c.toNat, r) := by unfold rByte; dsimp only; rw [if_pos (by omega)]
    by_cases hc : c.toNat ≤ most
    · have hb2 : rByte most (c :: r) = some (c.toNat, r) := by unfold rByte; dsimp only; rw [if_pos hc]
      rw [rRow_s hb2, rMany_if]
      cases h : rMany p c.toNat r with
      | none => rw [rIf_n _ h, rIf_n _ (by rw [rRow_s hb, h])]
      | some z =>
        obtain ⟨xs, s⟩ := z
        have hl := rMany_len _ _ _ _ h
        rw [rIf_s _ h, rIf_s _ (show rRow 255 p (c :: r) = some (xs, s) by rw [rRow_s hb, h])]
        rw [hl, decide_eq_true hc, Bool.and_true]
    · have hb2 : rByte most (c :: r) = none := by unfold rByte; dsimp only; rw [if_neg hc]
      rw [rRow_n hb2]
      cases h : rMany p c.toNat r with
      | none => rw [rIf_n _ (by rw [rRow_s hb, h])]
      | some z =>
        obtain ⟨xs, s⟩ := z
        have hl := rMany_len _ _ _ _ h
        rw [rIf_s _ (show rRow 255 p (c :: r) = some (xs, s) by rw [rRow_s hb, h])]
        rw [hl, decide_eq_false hc, Bool.and_false]
        rfl
theorem rRow_le (most : Nat) (hm : most ≤ 255) : rRow most p = rIf (rRow 255 p) (fun xs => decide (xs.length ≤ most)) := by
  have h := rRow_if (p := p) (fun _ => true) most hm
  rw [rIf_all] at h
  rw [h]
  exact rIf_same (fun x => by simp)
end
theorem rFact_u : rFact = rIf uFact mayF := by
  unfold rFact uFact
  rw [rRow_le 6 (by omega), rSeq_ifR]
  exact rIf_same fun x => rfl
theorem rAtom_u : rAtom = rIf uAtom (fun a => decide (a.2.length ≤ 6)) := by
  unfold rAtom uAtom
  rw [rRow_le 6 (by omega), rSeq_ifR]
theorem rLit_u : rLit = rIf uLit (fun x => decide (x.2.2.length ≤ 6)) := by
  unfold rLit uLit
  rw [rAtom_u, rSeq_ifR]
theorem rSay_u : rSay = rIf uSay (fun x => decide (x.2.2.2.length ≤ 6)) := by
  have e : rSay = rBind rBit fun b => rSeq (rWho b) rAtom := by
    funext l
    unfold rSay rBind
    cases h : rBit l with
    | none => rfl
    | some z =>
      obtain ⟨b, r⟩ := z
      dsimp only
      cases h2 : rWho b r with
      | none => rw [rSeq_n h2]
      | some z2 =>
        obtain ⟨t, r2⟩ := z2
        dsimp only
        cases h3 : rAtom r2 with
        | none => rw [rSeq_sn h2 h3]
        | some z3 =>
          obtain ⟨a, r3⟩ := z3
          rw [rSeq_ss h2 h3]
  rw [e]
  unfold uSay
  rw [rAtom_u]
  funext l
  cases h : rBit l with
  | none =>
    rw [rIf_n _ (show rBind rBit (fun b => rSeq (rWho b) uAtom) l = none by unfold rBind; rw [h])]
    unfold rBind
    rw [h]
  | some z =>
    obtain ⟨b, r⟩ := z
    unfold rBind
    rw [h]
    dsimp only
    rw [rSeq_ifR]
    cases h2 : rSeq (rWho b) uAtom r with
    | none =>
      rw [rIf_n _ h2]
      dsimp only
      rw [rIf_n]
      rw [h]
      dsimp only
      rw [h2]
    | some z2 =>
      obtain ⟨⟨t, a⟩, s⟩ := z2
      rw [rIf_s (x := (b, t, a)) (r := s)]
      · rw [rIf_s _ h2]
        dsimp only
        by_cases hd : a.2.length ≤ 6
        · rw [decide_eq_true hd]; rfl
        · rw [decide_eq_false hd]; rfl
      · rw [h]
        dsimp only
        rw [h2]
theorem rCond_u : rCond = rIf uCond (fun x => decide (x.2.2.2.2.length ≤ 6)) := by
  unfold rCond uCond
  rw [rSay_u, rSeq_ifR]
theorem rClause_u : rClause = rIf uClause mayC := by
  unfold rClause rClause0 uClause
  rw [rAtom_u, rLit_u, rRow_if _ 8 (by omega), rSeq_if, rIf_if]
  refine rIf_same fun x => ?_
  cases hm : mayC x with
  | false => simp
  | true =>
    rw [Bool.and_true, Bool.and_eq_true, Bool.and_eq_true]
    unfold mayC at hm
    simp only [Bool.and_eq_true, List.all_eq_true, decide_eq_true_eq] at hm ⊢
    exact ⟨mayA_len hm.1.2, fun y hy => mayA_len (hm.1.1 y hy), hm.2⟩
theorem mayS_len {s : Sy} (h : mayS s = true) : s.2.2.2.length ≤ 6 := by
  unfold mayS at h
  rw [Bool.and_eq_true] at h
  exact mayA_len h.2
theorem rRule_u : rRule = rIf uRule mayR := by
  unfold rRule rRule0 uRule
  rw [rSay_u, rCond_u, rRow_if _ 8 (by omega), rSeq_if, rIf_if]
  refine rIf_same fun x => ?_
  cases hm : mayR x with
  | false => simp
  | true =>
    rw [Bool.and_true, Bool.and_eq_true, Bool.and_eq_true]
    unfold mayR at hm
    simp only [Bool.and_eq_true, List.all_eq_true, decide_eq_true_eq] at hm ⊢
    exact ⟨mayS_len hm.1.2, fun y hy => mayS_len (hm.1.1 y hy), hm.2⟩
section
variable {α : Type} {p : Rdr α} {bs : List UInt8} {t : Int} {x : α} {k z : Nat}
theorem dropLen {k : Nat} {bs : List UInt8} (hk : k ≤ bs.length) : bs.length - (bs.drop k).length = k := by
  rw [List.length_drop]; omega
theorem Got.ans (f : α → Bool) (o : α) (h : Got p bs t x k) : takeAns (rIf p f) o bs t = if f x then (x, k, 0) else (o, 0, 5) := by
  obtain ⟨h1, h2, h3, h4⟩ := h
  unfold takeAns rIf
  rw [if_neg (by omega), h4]
  dsimp only
  cases f x with
  | false => rfl
  | true =>
    simp only [if_true]
    rw [dropLen h3]
theorem Nope.ans (f : α → Bool) (o : α) (h : Nope p bs t z) : takeAns (rIf p f) o bs t = (o, 0, z) := by
  unfold takeAns rIf
  rcases h with ⟨h1, rfl⟩ | ⟨h1, h2, h3, rfl⟩
  · rw [if_pos h1]
  · rw [if_neg (by omega), h3]
end
end Go.Proofs.Ytcoafgnbmgndeaa
