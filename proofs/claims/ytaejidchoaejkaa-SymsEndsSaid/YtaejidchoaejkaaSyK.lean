/- Layer 4 (syms): the document's names of numbers may be, and are unlike. -/
import Derived.Test.YtaejidchoaejkaaSyN
set_option linter.unusedVariables false
namespace Go.Proofs.Ytaejidchoaejkaa
open Go Go.RowKit

def valL (l : List UInt8) : Nat := l.foldl (fun a c => 26 * a + (c.toNat - 97)) 0
theorem val_digs (n : Nat) : valL (digs n) = n := by
  induction n using Nat.strongRecOn with
  | ind n ih =>
    by_cases h : n = 0
    · subst h
      rw [digs_zero]
      rfl
    · rw [digs_step n h]
      unfold valL at ih ⊢
      rw [List.foldl_append, ih (n / 26) (by omega)]
      simp only [List.foldl_cons, List.foldl_nil, lett_nat]
      omega
theorem val_full (n : Nat) : valL (fullN n) = n := by
  unfold fullN
  split
  · rename_i h
    subst h
    rfl
  · exact val_digs n
theorem nthS_inj {a b : Nat} (h : nthS a = nthS b) : a = b := by
  have h1 : (nthS a).data = (nthS b).data := by rw [h]
  unfold nthS nthL at h1
  have h2 : ([110, 95] ++ fullN a : List UInt8) = [110, 95] ++ fullN b := by simpa using h1
  have h3 := List.append_cancel_left h2
  rw [← val_full a, ← val_full b, h3]
theorem ok_lett (n : Nat) : okB (lett n) = true := by
  unfold okB
  rw [lett_nat]
  have : n % 26 < 26 := Nat.mod_lt _ (by omega)
  simp
  omega
theorem ok_digs (n : Nat) : (digs n).all okB = true := by
  induction n using Nat.strongRecOn with
  | ind n ih =>
    by_cases h : n = 0
    · subst h
      rw [digs_zero]
      rfl
    · rw [digs_step n h, List.all_append, ih (n / 26) (by omega)]
      simp [ok_lett]
theorem digs_len3 (n : Nat) (h : n < 17576) : (digs n).length ≤ 3 := by
  have go : ∀ m, (digs m).length ≤ (digs (m / 26)).length + 1 := fun m => by
    by_cases h0 : m = 0
    · subst h0
      simp [digs_zero]
    · rw [digs_step m h0]
      simp
  have h1 := go n
  have h2 := go (n / 26)
  have h3 := go (n / 26 / 26)
  have h4 : n / 26 / 26 / 26 = 0 := by omega
  rw [h4, digs_zero] at h3
  simp at h3
  omega
theorem may_nth (n : Nat) (h : n < 17576) : mayB (nthS n) = true := by
  have hl : (fullN n).length ≤ 3 := by
    unfold fullN
    split
    · simp
    · exact digs_len3 n h
  have ha : (fullN n).all okB = true := by
    unfold fullN
    split
    · simp [ok_lett]
    · exact ok_digs n
  unfold mayB nthS nthL
  simp only [Bool.and_eq_true, decide_eq_true_eq]
  refine ⟨?_, ?_, ?_⟩
  · show List.all (([110, 95] : List UInt8) ++ fullN n) okB = true
    rw [List.all_append, ha]
    rfl
  · simp [ByteArray.size]
  · simp [ByteArray.size]
    omega
theorem nth_size (n : Nat) (h : n < 17576) : (nthS n).size ≤ 32 := by
  have := may_nth n h
  unfold mayB at this
  simp only [Bool.and_eq_true, decide_eq_true_eq] at this
  exact this.2.2
end Go.Proofs.Ytaejidchoaejkaa
