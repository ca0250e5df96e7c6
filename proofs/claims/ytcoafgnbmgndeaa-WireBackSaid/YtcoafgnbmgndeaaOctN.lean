/- Layer 1 (octet): what was put is taken; what is taken is put as it stood: the mathematics. -/
import Derived.Test.YtcoafgnbmgndeaaOctM
set_option linter.unusedVariables false
namespace Go.Proofs.Ytcoafgnbmgndeaa
open Go Go.RowKit

theorem tv_varF (rest : List UInt8) : ∀ (f n i a : Nat), i + f = 9 → n < 128 ^ (f + 1) → (i = 9 → n ≤ 1) → (n ≠ 0 ∨ i = 0) → (0 < f → n * 128 ^ i < 18446744073709551616) →
    tv (varF f n ++ rest) i a = some (a + n * 128 ^ i, i + (varF f n).length)
  | 0, n, i, a, h9, hn, h1, h0, hb => by
    have hn1 : n ≤ 1 := h1 (by omega)
    have e : (UInt8.ofNat n).toNat = n := UInt8.toNat_ofNat_of_lt' (by show n < 256; omega)
    simp only [varF, List.cons_append, List.nil_append, tv, e, List.length_cons, List.length_nil]
    rw [if_neg (by omega), if_pos (by omega)]
  | f + 1, n, i, a, h9, hn, h1, h0, hb => by
    by_cases hlt : n < 128
    · have e : (UInt8.ofNat n).toNat = n := UInt8.toNat_ofNat_of_lt' (by show n < 256; omega)
      simp only [varF, if_pos hlt, List.cons_append, List.nil_append, tv, e, List.length_cons, List.length_nil]
      rw [if_neg (by omega)]
    · have e : (UInt8.ofNat (n % 128 + 128)).toNat = n % 128 + 128 := UInt8.toNat_ofNat_of_lt' (by show n % 128 + 128 < 256; omega)
      have hb' := hb (by omega)
      have hdiv : n / 128 * 128 ^ (i + 1) ≤ n * 128 ^ i := by
        rw [Nat.pow_succ, Nat.mul_comm (128 ^ i) 128, ← Nat.mul_assoc]
        exact Nat.mul_le_mul_right _ (Nat.div_mul_le_self n 128)
      simp only [varF, if_neg hlt, List.cons_append, tv, e, List.length_cons]
      rw [if_neg (by omega), if_neg (by omega), tv_varF rest f (n / 128) (i + 1) _ (by omega) (by rw [Nat.pow_succ] at hn; omega) ?_ (.inl (by omega)) (fun _ => by omega)]
      · have e2 : a + (n % 128 + 128 - 128) * 128 ^ i + n / 128 * 128 ^ (i + 1) = a + n * 128 ^ i := by
          rw [Nat.pow_succ, Nat.mul_comm (128 ^ i) 128, ← Nat.mul_assoc, Nat.add_sub_cancel, Nat.add_assoc, ← Nat.add_mul]
          congr 2
          omega
        rw [e2]
        congr 2
        omega
      · intro hi9
        have : i = 8 := by omega
        subst this
        omega
theorem tv_var (n : Nat) (rest : List UInt8) (h : n < 18446744073709551616) : tv (var n ++ rest) 0 0 = some (n, (var n).length) := by
  have := tv_varF rest 9 n 0 0 (by omega) (by omega) (by omega) (.inr rfl) (fun _ => by omega)
  simpa [var] using this
theorem tvAns_var (pre rest : List UInt8) (n : Nat) (h : n < 18446744073709551616) : tvAns (pre ++ (var n ++ rest)) (pre.length : Nat) = (n, pre.length + (var n).length, 0) := by
  unfold tvAns
  rw [if_neg (by simp; omega), Int.toNat_natCast, List.drop_left, tv_var n rest h]
theorem tbAns_put (pre ss rest : List UInt8) (h : ss.length < 9223372036854775808) : tbAns (pre ++ (var ss.length ++ (ss ++ rest))) (pre.length : Nat) (ss.length : Nat) = (ss, pre.length + (var ss.length).length + ss.length, 0) := by
  unfold tbAns
  rw [tvAns_var pre (ss ++ rest) ss.length (by omega)]
  dsimp only
  rw [if_neg (by simp), if_neg (by omega), if_neg (by simp; omega)]
  have e : pre ++ (var ss.length ++ (ss ++ rest)) = (pre ++ var ss.length) ++ (ss ++ rest) := by simp
  have e2 : pre.length + (var ss.length).length = (pre ++ var ss.length).length := by simp
  rw [e, e2, List.drop_left, List.take_left]

theorem tv_back : ∀ (l pre : List UInt8) (a v k : Nat), (∀ b ∈ pre, 128 ≤ b.toNat) → pre.length ≤ 9 → a = vl pre → tv l pre.length a = some (v, k) →
    var v = pre ++ l.take (k - pre.length) ∧ pre.length < k ∧ k ≤ pre.length + l.length
  | [], pre, a, v, k, _, _, _, h => by simp [tv] at h
  | c :: r, pre, a, v, k, hp, h9, ha, h => by
    have hc := u8_lt c
    unfold tv at h
    split at h
    · cases h
    · rename_i hn
      split at h
      · rename_i hlt
        simp only [Option.some.injEq, Prod.mk.injEq] at h
        obtain ⟨rfl, rfl⟩ := h
        refine ⟨?_, by omega, by simp only [List.length_cons]; omega⟩
        rw [show pre.length + 1 - pre.length = 1 from by omega, ha]
        simp only [List.take_succ_cons, List.take_zero]
        refine var_pre pre 9 c hp h9 hlt ?_
        rcases pre with _ | ⟨x, y⟩
        · exact .inl rfl
        · right
          simp at hn
          exact hn.2
      · rename_i hge
        have h3 := tv_back r (pre ++ [c]) (a + (c.toNat - 128) * 128 ^ pre.length) v k (by
          intro b hb
          rw [List.mem_append, List.mem_singleton] at hb
          rcases hb with hb | rfl
          · exact hp b hb
          · omega) (by simp; omega) (by rw [vl_snoc, ha, show c.toNat % 128 = c.toNat - 128 from by omega]) (by simpa using h)
        simp only [List.length_append, List.length_cons, List.length_nil] at h3 ⊢
        refine ⟨?_, by omega, by omega⟩
        rw [h3.1, show k - pre.length = (k - (pre.length + (0 + 1))) + 1 from by omega, List.take_succ_cons]
        simp
theorem tvAns_back {bs : List UInt8} {v x : Nat} (h : tvAns bs 0 = (v, x, 0)) : var v = bs.take x ∧ 1 ≤ x ∧ x ≤ bs.length := by
  unfold tvAns at h
  rw [if_neg (by omega)] at h
  simp only [Int.toNat_zero, List.drop_zero] at h
  split at h
  · simp at h
  · rename_i a k e
    simp only [Prod.mk.injEq] at h
    have h2 := tv_back bs [] 0 a k (by simp) (by simp) rfl e
    simp only [List.length_nil, Nat.sub_zero, List.nil_append, Nat.zero_add] at h2
    obtain ⟨rfl, h3, _⟩ := h
    have : x = k := by omega
    subst this
    exact ⟨h2.1, by omega, by omega⟩
theorem tbAns_back {bs ss : List UInt8} {x : Nat} {most : Int} (h : tbAns bs 0 most = (ss, x, 0)) : var ss.length ++ ss = bs.take x ∧ 1 ≤ x ∧ x ≤ bs.length := by
  unfold tbAns at h
  rcases hv : tvAns bs 0 with ⟨v, y, z⟩
  rw [hv] at h
  dsimp only at h
  split at h
  · rename_i hz
    simp only [Prod.mk.injEq] at h
    omega
  · rename_i hz
    obtain rfl : z = 0 := by omega
    split at h
    · simp at h
    · split at h
      · simp at h
      · rename_i hs
        simp only [Prod.mk.injEq] at h
        obtain ⟨rfl, rfl, _⟩ := h
        obtain ⟨h1, h2, h3⟩ := tvAns_back hv
        have hl : ((bs.drop y).take v).length = v := by rw [List.length_take, List.length_drop]; omega
        rw [hl, h1]
        refine ⟨?_, by omega, by omega⟩
        rw [List.take_add]
theorem tvAns_zero {bs : List UInt8} {v x z : Nat} (h : tvAns bs 0 = (v, x, z)) (hz : z ≠ 0) : v = 0 ∧ x = 0 := by
  have := tvAns_bd h
  omega
theorem beN_take (pre rest : List UInt8) (n k : Nat) : beN (((pre ++ (beB n k ++ rest)).drop pre.length).take k) = n % 256 ^ k := by
  rw [List.drop_left]
  have : (beB n k ++ rest).take k = beB n k := by
    have := beB_len n k
    rw [List.take_append_of_le_length (by omega), List.take_of_length_le (by omega)]
  rw [this, beN_beB]
end Go.Proofs.Ytcoafgnbmgndeaa
