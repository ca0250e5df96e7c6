/- Layer 7 (lex): the words of a text; the plain mathematics, no program. -/
import Derived.Test.YtjafbkkdjmlaoaaSyM
set_option linter.unusedVariables false
namespace Go.Proofs.Ytjafbkkdjmlaoaa
open Go Go.RowKit

def isBl (c : UInt8) : Bool := c == 32 || c == 9 || c == 10 || c == 13
/-- How many blanks stand ahead; within a comment, or not. -/
def blN : Bool → List UInt8 → Nat
  | _, [] => 0
  | true, c :: l => if c = 10 then 1 + blN false l else 1 + blN true l
  | false, c :: l => if c = 37 then 1 + blN true l else if isBl c then 1 + blN false l else 0
def letN (l : List UInt8) : Nat := (l.takeWhile okB).length
def markN (l : List UInt8) : Nat × Nat :=
  match l with
  | [] => (0, 0)
  | c :: r => if c = 40 then (5, 1) else if c = 41 then (6, 1) else if c = 44 then (7, 1) else if c = 46 then (8, 1) else if c = 58 ∧ r.head? = some 45 then (9, 2) else (0, 0)
def kindL (s : List UInt8) : Nat :=
  if s = [110, 111, 116] then 3 else if s = [115, 97, 121, 115] then 4 else match s.head? with
  | some c => if 65 ≤ c.toNat ∧ c.toNat ≤ 90 then 2 else 1
  | none => 1
/-- The kind of the word that stands ahead, and how many bytes it has; none: 0. -/
def wordN (l : List UInt8) : Nat × Nat :=
  if (markN l).2 ≠ 0 then markN l else if letN l = 0 ∨ 32 < letN l then (0, 0) else (kindL (l.take (letN l)), letN l)
/-- A word: its kind, its text, its place. -/
abbrev Wd := Nat × List UInt8 × Nat
theorem blN_le : ∀ (cm : Bool) (l : List UInt8), blN cm l ≤ l.length
  | _, [] => by simp [blN]
  | true, c :: l => by
    have h1 := blN_le false l
    have h2 := blN_le true l
    rw [blN, List.length_cons]
    split <;> omega
  | false, c :: l => by
    have h1 := blN_le false l
    have h2 := blN_le true l
    rw [blN, List.length_cons]
    split
    · omega
    · split <;> omega
theorem letN_le (l : List UInt8) : letN l ≤ l.length := (List.takeWhile_prefix okB).length_le
theorem wordN_le (l : List UInt8) : (wordN l).2 ≤ l.length := by
  unfold wordN
  split
  · cases l with
    | nil => simp [markN]
    | cons c r =>
      unfold markN
      dsimp only
      rw [List.length_cons]
      repeat' split
      all_goals first
        | (dsimp only; omega)
        | (rename_i h
           cases r with
           | nil => simp at h
           | cons d r => simp)
  · split
    · exact Nat.zero_le _
    · exact letN_le l
/-- The words, up to what is wrong; its place, if something is. -/
def lexG (a : Nat) (l : List UInt8) : List Wd × Option Nat :=
  if h : l.drop (blN false l) = [] then ([], none) else
  if hn : (wordN (l.drop (blN false l))).2 = 0 then ([], some (a + blN false l)) else
  let r := lexG (a + blN false l + (wordN (l.drop (blN false l))).2) ((l.drop (blN false l)).drop (wordN (l.drop (blN false l))).2)
  (((wordN (l.drop (blN false l))).1, (l.drop (blN false l)).take (wordN (l.drop (blN false l))).2, a + blN false l) :: r.1, r.2)
termination_by l.length
decreasing_by
  have h1 := wordN_le (l.drop (blN false l))
  rw [List.length_drop] at h1 ⊢
  rw [List.length_drop]
  omega
theorem lexG_end {a : Nat} {l : List UInt8} (h : l.drop (blN false l) = []) : lexG a l = ([], none) := by
  rw [lexG, dif_pos h]
theorem lexG_bad {a : Nat} {l l1 : List UInt8} (h : l.drop (blN false l) = l1) (h1 : l1 ≠ []) (hn : (wordN l1).2 = 0) : lexG a l = ([], some (a + blN false l)) := by
  subst h
  rw [lexG, dif_neg h1, dif_pos hn]
theorem lexG_word {a : Nat} {l l1 : List UInt8} {k n : Nat} (h : l.drop (blN false l) = l1) (hn : wordN l1 = (k, n)) (h0 : n ≠ 0) :
    lexG a l = ((k, l1.take n, a + blN false l) :: (lexG (a + blN false l + n) (l1.drop n)).1, (lexG (a + blN false l + n) (l1.drop n)).2) := by
  have h1 : l1 ≠ [] := by
    rintro rfl
    have := wordN_le []
    rw [hn] at this
    exact h0 (by simpa using this)
  subst h
  rw [lexG, dif_neg h1, dif_neg (by rw [hn]; exact h0)]
  simp only [hn]
/-- The whole answer. -/
def wordsL (l : List UInt8) : List Wd × Nat × Nat :=
  if 65536 < l.length then ([], 0, 6) else match lexG 0 l with
  | (ws, none) => (ws, 0, 0)
  | (_, some k) => ([], k, 5)
def joinL : List Wd → List UInt8
  | [] => []
  | [w] => w.2.1
  | w :: v :: r => w.2.1 ++ 32 :: joinL (v :: r)

/-! ### blanks -/
theorem blN_nl (b : List UInt8) : ∀ (cm : Bool) (a : List UInt8), blN cm (a ++ 10 :: b) = if blN cm a = a.length then a.length + 1 + blN false b else blN cm a
  | true, [] => by simp [blN]
  | false, [] => by simp [blN, isBl]
  | true, c :: a => by
    rw [List.cons_append, blN, blN, List.length_cons]
    have h1 := blN_nl b false a
    have h2 := blN_nl b true a
    by_cases hc : c = 10
    · rw [if_pos hc, if_pos hc, h1]
      by_cases h : blN false a = a.length
      · rw [if_pos h, if_pos (by omega)]; omega
      · rw [if_neg h, if_neg (by omega)]
    · rw [if_neg hc, if_neg hc, h2]
      by_cases h : blN true a = a.length
      · rw [if_pos h, if_pos (by omega)]; omega
      · rw [if_neg h, if_neg (by omega)]
  | false, c :: a => by
    rw [List.cons_append, blN, blN, List.length_cons]
    have h1 := blN_nl b false a
    have h2 := blN_nl b true a
    by_cases hc : c = 37
    · rw [if_pos hc, if_pos hc, h2]
      by_cases h : blN true a = a.length
      · rw [if_pos h, if_pos (by omega)]; omega
      · rw [if_neg h, if_neg (by omega)]
    · rw [if_neg hc, if_neg hc]
      cases hb : isBl c with
      | false => simp
      | true =>
        simp only [if_true]
        rw [h1]
        by_cases h : blN false a = a.length
        · rw [if_pos h, if_pos (by omega)]; omega
        · rw [if_neg h, if_neg (by omega)]
/-- What are blanks wherever they stand. -/
def allBl (s : List UInt8) : Prop := blN false s = s.length ∧ blN true s = s.length
theorem blN_app (b : List UInt8) (hb : allBl b) : ∀ (cm : Bool) (a : List UInt8), blN cm (a ++ b) = if blN cm a = a.length then a.length + b.length else blN cm a
  | true, [] => by simp [blN, hb.2]
  | false, [] => by simp [blN, hb.1]
  | true, c :: a => by
    rw [List.cons_append, blN, blN, List.length_cons]
    have h1 := blN_app b hb false a
    have h2 := blN_app b hb true a
    by_cases hc : c = 10
    · rw [if_pos hc, if_pos hc, h1]
      by_cases h : blN false a = a.length
      · rw [if_pos h, if_pos (by omega)]; omega
      · rw [if_neg h, if_neg (by omega)]
    · rw [if_neg hc, if_neg hc, h2]
      by_cases h : blN true a = a.length
      · rw [if_pos h, if_pos (by omega)]; omega
      · rw [if_neg h, if_neg (by omega)]
  | false, c :: a => by
    rw [List.cons_append, blN, blN, List.length_cons]
    have h1 := blN_app b hb false a
    have h2 := blN_app b hb true a
    by_cases hc : c = 37
    · rw [if_pos hc, if_pos hc, h2]
      by_cases h : blN true a = a.length
      · rw [if_pos h, if_pos (by omega)]; omega
      · rw [if_neg h, if_neg (by omega)]
    · rw [if_neg hc, if_neg hc]
      cases hbl : isBl c with
      | false => simp
      | true =>
        simp only [if_true]
        rw [h1]
        by_cases h : blN false a = a.length
        · rw [if_pos h, if_pos (by omega)]; omega
        · rw [if_neg h, if_neg (by omega)]
/-- What ends as it began. -/
def shutBl (s : List UInt8) : Prop := ∀ l, blN false (s ++ l) = s.length + blN false l
theorem blN_drop {cm : Bool} {l : List UInt8} : l.drop (blN cm l) = [] ↔ blN cm l = l.length := by
  have := blN_le cm l
  rw [List.drop_eq_nil_iff]
  omega

/-! ### a word, and what stands behind it -/
theorem takeWhile_stop {p : UInt8 → Bool} {d : UInt8} (hd : p d = false) (b : List UInt8) : ∀ a : List UInt8, (a ++ d :: b).takeWhile p = a.takeWhile p
  | [] => by simp [hd]
  | c :: a => by
    rw [List.cons_append, List.takeWhile_cons, List.takeWhile_cons, takeWhile_stop hd b a]
/-- d is no letter and no line. -/
theorem wordN_stop {d : UInt8} (hd : okB d = false) (h45 : d ≠ 45) (b : List UInt8) {l : List UInt8} (hl : l ≠ []) : wordN (l ++ d :: b) = wordN l := by
  have h1 : letN (l ++ d :: b) = letN l := by unfold letN; rw [takeWhile_stop hd]
  have h2 : markN (l ++ d :: b) = markN l := by
    cases l with
    | nil => exact absurd rfl hl
    | cons c r =>
      unfold markN
      rw [List.cons_append]
      dsimp only
      have : ((r ++ d :: b).head? = some 45) ↔ (r.head? = some 45) := by
        cases r with
        | nil => simp [h45]
        | cons e r => simp
      simp only [this]
  unfold wordN
  rw [h1, h2, List.take_append_of_le_length (letN_le l)]
theorem lexG_shift (d : Nat) (a : Nat) (l : List UInt8) : lexG (a + d) l = ((lexG a l).1.map fun w => (w.1, w.2.1, w.2.2 + d), (lexG a l).2.map (· + d)) := by
  by_cases h : l.drop (blN false l) = []
  · rw [lexG_end h, lexG_end h]; rfl
  · obtain ⟨k, n, hw⟩ : ∃ k n, wordN (l.drop (blN false l)) = (k, n) := ⟨_, _, rfl⟩
    by_cases h0 : n = 0
    · subst h0
      rw [lexG_bad rfl h (by rw [hw]), lexG_bad rfl h (by rw [hw])]
      simp only [List.map_nil, Option.map_some, Prod.mk.injEq, Option.some.injEq, true_and]
      omega
    · rw [lexG_word rfl hw h0, lexG_word rfl hw h0]
      have hlt : ((l.drop (blN false l)).drop n).length < l.length := by
        have h1 := wordN_le (l.drop (blN false l))
        rw [hw, List.length_drop] at h1
        simp only [List.length_drop]
        omega
      have ih := lexG_shift d (a + blN false l + n) ((l.drop (blN false l)).drop n)
      rw [show a + d + blN false l + n = a + blN false l + n + d by omega, ih, show a + d + blN false l = a + blN false l + d by omega]
      simp only [List.map_cons]
termination_by l.length
/-- Two texts with an end of a line between. -/
theorem lexG_nl (b : List UInt8) (a0 : Nat) (a : List UInt8) : lexG a0 (a ++ 10 :: b) = match lexG a0 a with
    | (ws, none) => (ws ++ (lexG (a0 + a.length + 1) b).1, (lexG (a0 + a.length + 1) b).2)
    | (ws, some k) => (ws, some k) := by
  have hnl := blN_nl b false a
  have hle := blN_le false a
  by_cases h : blN false a = a.length
  · have hd := blN_drop.2 h
    rw [lexG_end hd]
    rw [if_pos h] at hnl
    simp only [List.nil_append]
    have hdr : (a ++ 10 :: b).drop (blN false (a ++ 10 :: b)) = b.drop (blN false b) := by
      rw [hnl, show a.length + 1 + blN false b = a.length + (1 + blN false b) by omega, ← List.drop_drop, List.drop_left, Nat.add_comm 1, List.drop_succ_cons]
    by_cases hb : b.drop (blN false b) = []
    · rw [lexG_end (hdr.trans hb), lexG_end hb]
    · obtain ⟨k, n, hw⟩ : ∃ k n, wordN (b.drop (blN false b)) = (k, n) := ⟨_, _, rfl⟩
      by_cases h0 : n = 0
      · subst h0
        rw [lexG_bad hdr hb (by rw [hw]), lexG_bad rfl hb (by rw [hw]), hnl]
        simp only [Prod.mk.injEq, Option.some.injEq, true_and]
        omega
      · rw [lexG_word hdr hw h0, lexG_word rfl hw h0, hnl, show a0 + (a.length + 1 + blN false b) = a0 + a.length + 1 + blN false b by omega]
  · rw [if_neg h] at hnl
    have hne : a.drop (blN false a) ≠ [] := fun hd => h (blN_drop.1 hd)
    have hdr : (a ++ 10 :: b).drop (blN false (a ++ 10 :: b)) = a.drop (blN false a) ++ 10 :: b := by
      rw [hnl, List.drop_append_of_le_length hle]
    have hw1 := wordN_stop (d := 10) (by decide) (by decide) b hne
    obtain ⟨k, n, hw⟩ : ∃ k n, wordN (a.drop (blN false a)) = (k, n) := ⟨_, _, rfl⟩
    have hwl := wordN_le (a.drop (blN false a))
    rw [hw] at hw1 hwl
    dsimp only at hwl
    by_cases h0 : n = 0
    · subst h0
      rw [lexG_bad hdr (by simp) (by rw [hw1]), lexG_bad rfl hne (by rw [hw]), hnl]
    · have hlt : ((a.drop (blN false a)).drop n).length < a.length := by
        rw [List.length_drop] at hwl
        simp only [List.length_drop]
        omega
      have ih := lexG_nl b (a0 + blN false a + n) ((a.drop (blN false a)).drop n)
      rw [lexG_word hdr hw1 h0, lexG_word rfl hw h0, hnl, List.drop_append_of_le_length hwl, List.take_append_of_le_length hwl, ih]
      rw [show a0 + blN false a + n + ((a.drop (blN false a)).drop n).length + 1 = a0 + a.length + 1 by
        rw [List.length_drop] at hwl
        simp only [List.length_drop]; omega]
      cases lexG (a0 + blN false a + n) ((a.drop (blN false a)).drop n) with
      | mk ws e =>
        cases e with
        | none => rfl
        | some k => rfl
termination_by a.length
end Go.Proofs.Ytjafbkkdjmlaoaa
