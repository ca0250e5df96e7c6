/- Layer 7 (lex): what a text begins with, as the program tells it: the plain mathematics. -/
import Derived.Test.YtjafbkkdjmlaoaaLxE
import Derived.Lib.Bytealg
set_option linter.unusedVariables false
set_option linter.unusedSimpArgs false
namespace Go.Proofs.Ytjafbkkdjmlaoaa
open Go Go.RowKit

def lineN (l : List UInt8) : Nat := (l.takeWhile (fun c => decide (c ≠ 10))).length
/-- The kind of what a text begins with (10: blanks; 0: what may not be), and how many bytes it has. -/
def frontN (l : List UInt8) : Nat × Nat :=
  match l with
  | [] => (0, 0)
  | c :: r => if isBl c then (10, 1) else if c = 37 then (10, lineN (c :: r)) else wordN (c :: r)
theorem lineN_le (l : List UInt8) : lineN l ≤ l.length := (List.takeWhile_prefix _).length_le
theorem lineN_cons (c : UInt8) (r : List UInt8) : lineN (c :: r) = if c = 10 then 0 else 1 + lineN r := by
  unfold lineN
  rw [List.takeWhile_cons]
  by_cases h : c = 10
  · simp [h]
  · simp [h]; omega
theorem blN_line : ∀ r : List UInt8, blN true r = lineN r + blN false (r.drop (lineN r))
  | [] => by simp [blN, lineN]
  | c :: r => by
    have ih := blN_line r
    rw [blN, lineN_cons]
    by_cases h : c = 10
    · subst h
      rw [if_pos rfl, if_pos rfl, List.drop_zero, Nat.zero_add, blN, if_neg (by decide), if_pos (by decide)]
    · rw [if_neg h, if_neg h, ih, show 1 + lineN r = lineN r + 1 by omega, List.drop_succ_cons]
      omega
theorem lexG_hop {a n : Nat} {l : List UInt8} (h : blN false l = n + blN false (l.drop n)) : lexG a l = lexG (a + n) (l.drop n) := by
  rw [lexG_skip a l, lexG_skip (a + n) (l.drop n), List.drop_drop, h, Nat.add_assoc]
theorem kindL_lo (l : List UInt8) : 1 ≤ kindL l ∧ kindL l ≤ 4 := by
  unfold kindL
  split
  · omega
  · split
    · omega
    · split
      · split <;> omega
      · omega
theorem markN_lo (l : List UInt8) : (markN l = (0, 0)) ∨ (5 ≤ (markN l).1 ∧ (markN l).1 ≤ 9 ∧ 1 ≤ (markN l).2) := by
  cases l with
  | nil => exact Or.inl rfl
  | cons c r =>
    unfold markN
    dsimp only
    repeat' split
    all_goals first
      | exact Or.inl rfl
      | (refine Or.inr ⟨?_, ?_, ?_⟩ <;> simp)
theorem wordN_lo (l : List UInt8) : (wordN l = (0, 0)) ∨ (1 ≤ (wordN l).1 ∧ (wordN l).1 ≤ 9 ∧ 1 ≤ (wordN l).2) := by
  unfold wordN
  rcases markN_lo l with h | ⟨h1, h2, h3⟩
  · rw [h, if_neg (by simp)]
    by_cases hb : letN l = 0 ∨ 32 < letN l
    · rw [if_pos hb]; exact Or.inl rfl
    · rw [if_neg hb]
      have hk := kindL_lo (l.take (letN l))
      refine Or.inr ⟨hk.1, by dsimp only; omega, by dsimp only; omega⟩
  · rw [if_pos (by omega)]
    exact Or.inr ⟨by omega, h2, h3⟩
theorem front_step {l : List UInt8} {k n : Nat} (a : Nat) (h : frontN l = (k, n)) (hl : l ≠ []) :
    (k = 0 ∧ lexG a l = ([], some a)) ∨ (k = 10 ∧ 1 ≤ n ∧ n ≤ l.length ∧ lexG a l = lexG (a + n) (l.drop n)) ∨
      (1 ≤ k ∧ k ≤ 9 ∧ 1 ≤ n ∧ n ≤ l.length ∧ lexG a l = ((k, l.take n, a) :: (lexG (a + n) (l.drop n)).1, (lexG (a + n) (l.drop n)).2)) := by
  cases l with
  | nil => exact absurd rfl hl
  | cons c r =>
    unfold frontN at h
    dsimp only at h
    by_cases hb : isBl c = true
    · rw [if_pos hb] at h
      obtain ⟨rfl, rfl⟩ := Prod.mk.injEq _ _ _ _ ▸ h
      refine Or.inr (Or.inl ⟨rfl, Nat.le_refl _, by simp, lexG_hop ?_⟩)
      have hc : c ≠ 37 := by rintro rfl; exact absurd hb (by decide)
      rw [blN, if_neg hc, if_pos hb, List.drop_succ_cons, List.drop_zero]
    · rw [if_neg hb] at h
      by_cases hc : c = 37
      · rw [if_pos hc] at h
        obtain ⟨rfl, rfl⟩ := Prod.mk.injEq _ _ _ _ ▸ h
        have h10 : c ≠ 10 := by rw [hc]; decide
        have hn : lineN (c :: r) = 1 + lineN r := by rw [lineN_cons, if_neg h10]
        refine Or.inr (Or.inl ⟨rfl, by omega, lineN_le _, lexG_hop ?_⟩)
        rw [blN, if_pos hc, blN_line r, hn, show 1 + lineN r = lineN r + 1 by omega, List.drop_succ_cons]
        omega
      · rw [if_neg hc] at h
        have h0 : blN false (c :: r) = 0 := by rw [blN, if_neg hc, if_neg hb]
        have hd : (c :: r).drop (blN false (c :: r)) = c :: r := by rw [h0, List.drop_zero]
        have hle := wordN_le (c :: r)
        have hlo := wordN_lo (c :: r)
        rw [h] at hle hlo
        dsimp only at hle hlo
        rcases hlo with h00 | ⟨h1, h2, h3⟩
        · obtain ⟨rfl, rfl⟩ := Prod.mk.injEq _ _ _ _ ▸ h00
          refine Or.inl ⟨rfl, ?_⟩
          rw [lexG_bad hd hl (by rw [h]), h0, Nat.add_zero]
        · refine Or.inr (Or.inr ⟨h1, h2, h3, hle, ?_⟩)
          rw [lexG_word hd h (by omega), h0, Nat.add_zero]
/-- Where a byte first stands. -/
theorem indexByte_line : ∀ l : List UInt8, Lib.indexByte l 10 = if lineN l = l.length then -1 else (lineN l : Int)
  | [] => rfl
  | c :: r => by
    have ih := indexByte_line r
    have hle := lineN_le r
    rw [Lib.indexByte, lineN_cons, List.length_cons]
    by_cases h : c = 10
    · subst h
      rw [show ((10 : UInt8) == 10) = true from rfl, if_pos rfl, if_pos rfl, if_neg (by omega)]
      rfl
    · have hb : (c == (10 : UInt8)) = false := beq_false_of_ne h
      rw [hb, if_neg Bool.false_ne_true, if_neg h, ih]
      by_cases h2 : lineN r = r.length
      · rw [if_pos h2, if_pos (show ((-1 : Int) == -1) = true from rfl), if_pos (by omega)]
      · have h3 : ((lineN r : Int) == -1) = false := by rw [beq_eq_false_iff_ne]; omega
        rw [if_neg h2, h3, if_neg Bool.false_ne_true, if_neg (by omega)]
        omega
theorem frontN_let {c : UInt8} {r : List UInt8} (hc : okB c = true) : frontN (c :: r) = if 32 < letN (c :: r) then (0, 0) else (kindL ((c :: r).take (letN (c :: r))), letN (c :: r)) := by
  have hb : isBl c = false := by
    unfold isBl okB at *
    cases hh : (c == 32 || c == 9 || c == 10 || c == 13) with
    | false => rfl
    | true =>
      exfalso
      simp only [Bool.or_eq_true, beq_iff_eq] at hh
      rcases hh with ((rfl | rfl) | rfl) | rfl <;> exact absurd hc (by decide)
  have hp : c ≠ 37 := by rintro rfl; exact absurd hc (by decide)
  have h1 : 1 ≤ letN (c :: r) := by unfold letN; rw [List.takeWhile_cons, hc]; simp
  unfold frontN
  dsimp only
  rw [hb, if_neg (by simp), if_neg hp, wordN_let (markN_ok hc r)]
  by_cases h : 32 < letN (c :: r)
  · rw [if_pos (Or.inr h), if_pos h]
  · rw [if_neg (by omega), if_neg h]
end Go.Proofs.Ytjafbkkdjmlaoaa
