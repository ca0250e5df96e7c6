/- Layer 6 (wire): how long the bytes are; what stands at a place; what was put is taken: the mathematics. -/
import Derived.Test.YtcoafgnbmgndeaaWrM
set_option linter.unusedVariables false
namespace Go.Proofs.Ytcoafgnbmgndeaa
open Go Go.RowKit

/-! ### lengths -/
theorem varF_small : ∀ (f n k : Nat), 1 ≤ k → n < 128 ^ k → (varF f n).length ≤ k
  | 0, n, k, hk, h => by simp [varF]; omega
  | f + 1, n, k, hk, h => by
    unfold varF
    split
    · simp; omega
    · rename_i h1
      have hk2 : 2 ≤ k := by
        by_cases e : k = 1
        · subst e; omega
        · omega
      have := varF_small f (n / 128) (k - 1) (by omega) (by
        rw [Nat.div_lt_iff_lt_mul (by omega), ← Nat.pow_succ, show (k - 1).succ = k from by omega]
        exact h)
      simp only [List.length_cons]
      omega
theorem u32B_len (x : UInt32) : 1 ≤ (u32B x).length ∧ (u32B x).length ≤ 5 :=
  ⟨(var_len _).1, varF_small 9 _ 5 (by omega) (by have := n32_lt x; omega)⟩
theorem termB_len (t : Tm) : 1 ≤ (termB t).length ∧ (termB t).length ≤ 5 :=
  ⟨(var_len _).1, varF_small 9 _ 5 (by omega) (by have := termN_lt t; omega)⟩
theorem flat_len {α : Type} (e : α → List UInt8) (k : Nat) : ∀ (l : List α), (∀ x ∈ l, (e x).length ≤ k) → (l.flatMap e).length ≤ l.length * k
  | [], _ => by simp
  | x :: l, h => by
    have h1 := flat_len e k l (fun y hy => h y (by simp [hy]))
    have h2 := h x (by simp)
    simp only [List.flatMap_cons, List.length_append, List.length_cons, Nat.add_mul]
    omega
theorem rowB_len {α : Type} (e : α → List UInt8) (k most : Nat) (l : List α) (h : ∀ x ∈ l, (e x).length ≤ k) (hl : l.length ≤ most) : 1 ≤ (rowB e l).length ∧ (rowB e l).length ≤ 1 + most * k := by
  have h1 := flat_len e k l h
  have h2 : l.length * k ≤ most * k := Nat.mul_le_mul_right _ hl
  unfold rowB
  simp only [List.length_cons]
  omega
theorem factB_len {f : Fa} (h : mayF f = true) : 2 ≤ (factB f).length ∧ (factB f).length ≤ 36 := by
  have h1 := u32B_len f.1
  have h2 := rowB_len u32B 5 6 f.2 (fun x _ => (u32B_len x).2) (of_decide_eq_true h)
  unfold factB
  simp only [List.length_append]
  omega
theorem atomB_len {a : AtL} (h : a.2.length ≤ 6) : 2 ≤ (atomB a).length ∧ (atomB a).length ≤ 36 := by
  have h1 := u32B_len a.1
  have h2 := rowB_len termB 5 6 a.2 (fun x _ => (termB_len x).2) h
  unfold atomB
  simp only [List.length_append]
  omega
theorem litB_len {x : Li} (h : x.2.2.length ≤ 6) : (litB x).length ≤ 37 := by
  have := atomB_len h
  unfold litB bitB
  simp only [List.length_append, List.length_cons, List.length_nil]
  omega
theorem mayC_form {c : Cl} (h : mayC c = true) : c.1.2.length ≤ 6 ∧ c.2.length ≤ 8 ∧ ∀ x ∈ c.2, x.2.2.length ≤ 6 := by
  unfold mayC at h
  simp only [Bool.and_eq_true, List.all_eq_true, decide_eq_true_eq] at h
  exact ⟨mayA_len h.1.2, h.2, fun x hx => mayA_len (h.1.1 x hx)⟩
theorem clauseB_len {c : Cl} (h : mayC c = true) : 3 ≤ (clauseB c).length ∧ (clauseB c).length ≤ 333 := by
  obtain ⟨h1, h2, h3⟩ := mayC_form h
  have h4 := atomB_len h1
  have h5 := rowB_len litB 37 8 c.2 (fun x hx => litB_len (h3 x hx)) h2
  unfold clauseB
  simp only [List.length_append]
  omega
theorem sayB_len {s : Sy} (h : s.2.2.2.length ≤ 6) : 3 ≤ (sayB s).length ∧ (sayB s).length ≤ 42 := by
  have h1 := atomB_len h
  have h2 := termB_len s.2.1
  unfold sayB bitB
  split <;> simp only [List.length_append, List.length_cons, List.length_nil] <;> omega
theorem mayR_form {r : Rl} (h : mayR r = true) : r.1.2.2.2.length ≤ 6 ∧ r.2.length ≤ 8 ∧ ∀ x ∈ r.2, x.2.2.2.2.length ≤ 6 := by
  unfold mayR at h
  simp only [Bool.and_eq_true, List.all_eq_true, decide_eq_true_eq] at h
  exact ⟨(mayS_form h.1.2).2, h.2, fun x hx => (mayS_form (h.1.1 x hx)).2⟩
theorem condB_len {x : Co} (h : x.2.2.2.2.length ≤ 6) : (condB x).length ≤ 43 := by
  have := sayB_len h
  unfold condB bitB
  simp only [List.length_append, List.length_cons, List.length_nil]
  omega
theorem ruleB_len {r : Rl} (h : mayR r = true) : 4 ≤ (ruleB r).length ∧ (ruleB r).length ≤ 387 := by
  obtain ⟨h1, h2, h3⟩ := mayR_form h
  have h4 := sayB_len h1
  have h5 := rowB_len condB 43 8 r.2 (fun x hx => condB_len (h3 x hx)) h2
  unfold ruleB
  simp only [List.length_append]
  omega

/-! ### what stands at a place -/
/-- The answer of a taker: the thing, the place behind it, the error. -/
def takeAns {α : Type} (p : Rdr α) (z : α) (bs : List UInt8) (t : Int) : α × Nat × Nat :=
  if t < 0 ∨ (bs.length : Int) < t then (z, 0, 1)
  else match p (bs.drop t.toNat) with
    | none => (z, 0, 5)
    | some (x, r) => (x, bs.length - r.length, 0)
theorem takeAns_put {α : Type} {may : α → Prop} {enc : α → List UInt8} {p : Rdr α} (c : Codec may enc p) (z x : α) (hx : may x) (pre rest : List UInt8) :
    takeAns p z (pre ++ enc x ++ rest) (pre.length : Nat) = (x, pre.length + (enc x).length, 0) := by
  unfold takeAns
  rw [if_neg (by simp only [List.length_append]; omega), Int.toNat_natCast, List.append_assoc, List.drop_left, c.full x rest hx]
  simp only [List.length_append, Prod.mk.injEq, true_and, and_true]
  omega
theorem takeAns_back {α : Type} {may : α → Prop} {enc : α → List UInt8} {p : Rdr α} (c : Codec may enc p) {z x : α} {bs : List UInt8} {t : Int} {y : Nat} (h : takeAns p z bs t = (x, y, 0)) :
    may x ∧ 0 ≤ t ∧ t.toNat ≤ y ∧ y ≤ bs.length ∧ enc x = (bs.drop t.toNat).take (y - t.toNat) ∧ y = t.toNat + (enc x).length := by
  unfold takeAns at h
  split at h
  · simp at h
  · rename_i ht
    cases h1 : p (bs.drop t.toNat) with
    | none => rw [h1] at h; simp at h
    | some q =>
      obtain ⟨x', r⟩ := q
      rw [h1] at h
      simp only [Prod.mk.injEq, and_true] at h
      obtain ⟨rfl, rfl⟩ := h
      obtain ⟨a, b⟩ := c.sound _ _ _ h1
      have hl := congrArg List.length b
      simp only [List.length_append, List.length_drop] at hl
      refine ⟨a, by omega, by omega, by omega, ?_, by omega⟩
      rw [b, show bs.length - r.length - t.toNat = (enc x').length from by omega, List.take_left]
theorem takeAns_back0 {α : Type} {may : α → Prop} {enc : α → List UInt8} {p : Rdr α} (c : Codec may enc p) {z x : α} {bs : List UInt8} {y : Nat} (h : takeAns p z bs 0 = (x, y, 0)) :
    may x ∧ y ≤ bs.length ∧ enc x = bs.take y ∧ y = (enc x).length := by
  obtain ⟨h1, _, _, h2, h3, h4⟩ := takeAns_back c h
  rw [Int.toNat_zero] at h3 h4
  rw [List.drop_zero, Nat.sub_zero] at h3
  exact ⟨h1, h2, h3, by omega⟩
theorem takeAns_err {α : Type} (p : Rdr α) (z : α) (bs : List UInt8) (t : Int) {x : α} {y e : Nat} (h : takeAns p z bs t = (x, y, e)) (he : e ≠ 0) : x = z ∧ y = 0 ∧ (e = 1 ∨ e = 5) := by
  unfold takeAns at h
  split at h
  · simp only [Prod.mk.injEq] at h
    exact ⟨h.1.symm, h.2.1.symm, .inl h.2.2.symm⟩
  · cases h1 : p (bs.drop t.toNat) with
    | none =>
      rw [h1] at h
      simp only [Prod.mk.injEq] at h
      exact ⟨h.1.symm, h.2.1.symm, .inr h.2.2.symm⟩
    | some q =>
      rw [h1] at h
      simp only [Prod.mk.injEq] at h
      omega
theorem takeAns_cut {α : Type} {may : α → Prop} {enc : α → List UInt8} {p : Rdr α} (c : Codec may enc p) (z x : α) (hx : may x) (k : Nat) (hk : k < (enc x).length) : takeAns p z ((enc x).take k) 0 = (z, 0, 5) := by
  unfold takeAns
  rw [if_neg (by omega), Int.toNat_zero, List.drop_zero, c.cut x hx k hk]
/-- At the place 0 no other error than 5. -/
theorem takeAns_zero {α : Type} (p : Rdr α) (z : α) (bs : List UInt8) {x : α} {y e : Nat} (h : takeAns p z bs 0 = (x, y, e)) (he : e ≠ 0) : x = z ∧ y = 0 ∧ e = 5 := by
  obtain ⟨h1, h2, h3⟩ := takeAns_err p z bs 0 h he
  refine ⟨h1, h2, ?_⟩
  rcases h3 with h3 | h3
  · exfalso
    unfold takeAns at h
    rw [if_neg (by omega)] at h
    split at h <;> simp only [Prod.mk.injEq] at h <;> omega
  · exact h3
abbrev zF : Fa := (0, [])
abbrev zC : Cl := ((0, []), [])
abbrev zR : Rl := ((false, (false, 0), (0, [])), [])
/-- Longer than the bytes that stand at the head of a longer row: the reader's rest is a tail. -/
theorem Codec.tail {α : Type} {may : α → Prop} {enc : α → List UInt8} {p : Rdr α} (c : Codec may enc p) {l r : List UInt8} {x : α} (h : p l = some (x, r)) : r = l.drop (l.length - r.length) ∧ r.length ≤ l.length := by
  obtain ⟨_, e⟩ := c.sound _ _ _ h
  rw [e]
  simp
end Go.Proofs.Ytcoafgnbmgndeaa
