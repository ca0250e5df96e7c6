/- The plain mathematics of OctetRows: vars and byte strings one behind the other, cut anywhere. -/
import Derived.Test.YtdoonjldnehbdaaOctN
set_option linter.unusedVariables false
namespace Go.Proofs.Ytdoonjldnehbdaa
open Go Go.RowKit

theorem tv_varF_cut : ∀ (f n i a k : Nat), k < (varF f n).length → tv ((varF f n).take k) i a = none
  | 0, n, i, a, k, h => by
    have : k = 0 := by simp [varF] at h; omega
    subst this
    simp [tv]
  | f + 1, n, i, a, k, h => by
    unfold varF at h ⊢
    split at h
    · rename_i hlt
      have : k = 0 := by simp at h; omega
      subst this
      simp [tv]
    · rename_i hge
      rw [if_neg hge]
      rcases k with _ | k
      · simp [tv]
      have hb : (UInt8.ofNat (n % 128 + 128)).toNat = n % 128 + 128 := UInt8.toNat_ofNat_of_lt' (by show n % 128 + 128 < 256; omega)
      rw [List.take_succ_cons, tv, hb]
      split
      · rfl
      · rw [if_neg (by omega)]
        exact tv_varF_cut f (n / 128) _ _ k (by simpa using h)
theorem tv_var_cut (n k : Nat) (h : k < (var n).length) : tv ((var n).take k) 0 0 = none := tv_varF_cut 9 n 0 0 k h

/-- The bytes from 'at' on, of what is cut at k. -/
theorem drop_cut (pre l : List UInt8) (k : Nat) (h : pre.length ≤ k) : ((pre ++ l).take k).drop pre.length = l.take (k - pre.length) := by
  rw [List.drop_take, List.drop_left]
theorem tvAns_cut (pre rest : List UInt8) (n k : Nat) (h : n < 18446744073709551616) (hk : pre.length ≤ k) (hk2 : k ≤ (pre ++ (var n ++ rest)).length) :
    tvAns ((pre ++ (var n ++ rest)).take k) (pre.length : Nat) = if pre.length + (var n).length ≤ k then (n, pre.length + (var n).length, 0) else (0, 0, 5) := by
  unfold tvAns
  have hl : ((pre ++ (var n ++ rest)).take k).length = k := by rw [List.length_take]; omega
  rw [if_neg (by rw [hl]; omega), Int.toNat_natCast, drop_cut pre _ k hk]
  by_cases hle : pre.length + (var n).length ≤ k
  · have e : (var n ++ rest).take (k - pre.length) = var n ++ rest.take (k - pre.length - (var n).length) := by
      rw [List.take_append, List.take_of_length_le (by omega)]
    rw [e, tv_var n _ h, if_pos hle]
  · rw [List.take_append_of_le_length (by omega), tv_var_cut n _ (by omega), if_neg hle]
theorem tbAns_cut (pre ss rest : List UInt8) (k : Nat) (most : Nat) (h : ss.length ≤ most) (hm : most < 9223372036854775808) (hk : pre.length ≤ k) (hk2 : k ≤ (pre ++ (var ss.length ++ (ss ++ rest))).length) :
    tbAns ((pre ++ (var ss.length ++ (ss ++ rest))).take k) (pre.length : Nat) (most : Nat) = if pre.length + (var ss.length).length + ss.length ≤ k then (ss, pre.length + (var ss.length).length + ss.length, 0) else ([], 0, 5) := by
  unfold tbAns
  rw [tvAns_cut pre (ss ++ rest) ss.length k (by omega) hk hk2]
  have hl : ((pre ++ (var ss.length ++ (ss ++ rest))).take k).length = k := by rw [List.length_take]; omega
  by_cases h1 : pre.length + (var ss.length).length ≤ k
  · rw [if_pos h1]
    dsimp only
    rw [if_neg (by simp), if_neg (by omega), hl]
    by_cases h2 : pre.length + (var ss.length).length + ss.length ≤ k
    · rw [if_neg (by omega), if_pos h2]
      have e : ((pre ++ (var ss.length ++ (ss ++ rest))).take k).drop (pre.length + (var ss.length).length) = (ss ++ rest).take (k - (pre.length + (var ss.length).length)) := by
        have := drop_cut (pre ++ var ss.length) (ss ++ rest) k (by simpa using h1)
        simpa using this
      rw [e, List.take_take, Nat.min_eq_left (by omega), List.take_left' rfl]
    · rw [if_pos (by omega), if_neg h2]
  · rw [if_neg h1, if_neg (by omega)]
    simp

/-! ### What stands one behind the other -/
def pv (nl : List Nat) (i : Nat) : List UInt8 := if i < nl.length then var (nl.getD i 0) else []
def pb (sl : List (List UInt8)) (i : Nat) : List UInt8 := if i < sl.length then var (sl.getD i []).length ++ sl.getD i [] else []
def rowE (nl : List Nat) (sl : List (List UInt8)) : Nat → List UInt8
  | 0 => []
  | i + 1 => rowE nl sl i ++ pv nl i ++ pb sl i
def rowZ (nl : List Nat) (sl : List (List UInt8)) : Nat → List Nat
  | 0 => []
  | i + 1 => rowZ nl sl i ++ (if i < nl.length then [(rowE nl sl i ++ pv nl i).length] else []) ++ (if i < sl.length then [(rowE nl sl i ++ pv nl i ++ pb sl i).length] else [])
theorem rowE_split (nl : List Nat) (sl : List (List UInt8)) : ∀ (M i : Nat), i ≤ M → ∃ r, rowE nl sl M = rowE nl sl i ++ r
  | 0, i, h => by
    obtain rfl : i = 0 := by omega
    exact ⟨[], by simp⟩
  | M + 1, i, h => by
    by_cases e : i = M + 1
    · subst e
      exact ⟨[], by simp⟩
    obtain ⟨r, hr⟩ := rowE_split nl sl M i (by omega)
    exact ⟨r ++ pv nl M ++ pb sl M, by rw [rowE, hr]; simp⟩
theorem rowZ_split (nl : List Nat) (sl : List (List UInt8)) : ∀ (M i : Nat), i ≤ M → ∃ r, rowZ nl sl M = rowZ nl sl i ++ r
  | 0, i, h => by
    obtain rfl : i = 0 := by omega
    exact ⟨[], by simp⟩
  | M + 1, i, h => by
    by_cases e : i = M + 1
    · subst e
      exact ⟨[], by simp⟩
    obtain ⟨r, hr⟩ := rowZ_split nl sl M i (by omega)
    exact ⟨_, by rw [rowZ, hr, List.append_assoc, List.append_assoc]⟩
theorem rowE_at (nl : List Nat) (sl : List (List UInt8)) (M i : Nat) (h : i < M) : ∃ r, rowE nl sl M = rowE nl sl i ++ (pv nl i ++ (pb sl i ++ r)) := by
  obtain ⟨r, hr⟩ := rowE_split nl sl M (i + 1) (by omega)
  exact ⟨r, by rw [hr, rowE]; simp⟩
theorem rowZ_at1 (nl : List Nat) (sl : List (List UInt8)) (M i : Nat) (h : i < M) (h0 : i < nl.length) : (rowZ nl sl M)[(rowZ nl sl i).length]? = some (rowE nl sl i ++ pv nl i).length := by
  obtain ⟨r, hr⟩ := rowZ_split nl sl M (i + 1) (by omega)
  rw [hr, rowZ, if_pos h0, List.append_assoc, List.append_assoc, List.getElem?_append_right (Nat.le_refl _), Nat.sub_self]
  rfl
theorem rowZ_at2 (nl : List Nat) (sl : List (List UInt8)) (M i : Nat) (h : i < M) (h1 : i < sl.length) : (rowZ nl sl M)[(rowZ nl sl i).length + (if i < nl.length then 1 else 0)]? = some (rowE nl sl i ++ pv nl i ++ pb sl i).length := by
  obtain ⟨r, hr⟩ := rowZ_split nl sl M (i + 1) (by omega)
  rw [hr, rowZ, if_pos h1, List.append_assoc, List.append_assoc, List.getElem?_append_right (by omega), Nat.add_sub_cancel_left]
  split <;> rfl
theorem rowZ_len (nl : List Nat) (sl : List (List UInt8)) : ∀ i, (rowZ nl sl i).length ≤ 2 * i
  | 0 => by simp [rowZ]
  | i + 1 => by
    have := rowZ_len nl sl i
    rw [rowZ]
    split <;> split <;> simp <;> omega
theorem rowZ_le (nl : List Nat) (sl : List (List UInt8)) : ∀ i, ∀ e ∈ rowZ nl sl i, e ≤ (rowE nl sl i).length
  | 0, e, h => by simp [rowZ] at h
  | i + 1, e, h => by
    have := rowZ_le nl sl i
    rw [rowZ] at h
    rw [rowE]
    simp only [List.mem_append] at h
    rcases h with (h | h) | h
    · have := this e h
      simp; omega
    · split at h
      · simp at h
        simp [h]
      · simp at h
    · split at h
      · simp at h
        simp [h]
      · simp at h
end Go.Proofs.Ytdoonjldnehbdaa
