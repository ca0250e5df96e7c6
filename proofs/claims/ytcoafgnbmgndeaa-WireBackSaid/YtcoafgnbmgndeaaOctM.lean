/- Layer 1 (octet): the plain mathematics of vars, fixed numbers and byte strings; no program. -/
import Derived.Test.YtcoafgnbmgndeaaAid
set_option linter.unusedVariables false
namespace Go.Proofs.Ytcoafgnbmgndeaa
open Go Go.RowKit

/-! ### vars -/
def varF : Nat → Nat → List UInt8
  | 0, n => [UInt8.ofNat n]
  | f + 1, n => if n < 128 then [UInt8.ofNat n] else UInt8.ofNat (n % 128 + 128) :: varF f (n / 128)
/-- The bytes of n's var (n below 2^64). -/
def var (n : Nat) : List UInt8 := varF 9 n
theorem varF_len : ∀ f n, 1 ≤ (varF f n).length ∧ (varF f n).length ≤ f + 1
  | 0, n => by simp [varF]
  | f + 1, n => by
    have := varF_len f (n / 128)
    unfold varF
    split <;> simp <;> omega
theorem var_len (n : Nat) : 1 ≤ (var n).length ∧ (var n).length ≤ 10 := varF_len 9 n
/-- The byte that goes on, as the walk spells it. -/
theorem or128 (n : Nat) : bits .or .u8 ((n : Int) % 256) 128 = ((UInt8.ofNat (n % 128 + 128)).toNat : Int) := by
  have e : (n : Int) % 256 = ((n % 256 : Nat) : Int) := by omega
  have h1 : n % 256 < 256 := Nat.mod_lt _ (by omega)
  have h2 : n % 128 < 128 := Nat.mod_lt _ (by omega)
  rw [e, show (128 : Int) = ((128 : Nat) : Int) from rfl, u8_or_nat _ _ h1 (by omega), UInt8.toNat_ofNat_of_lt' (by show _ < 256; omega)]
  congr 1
  have h3 : n % 256 = n % 128 + (n / 128 % 2) * 128 := by omega
  have key : ∀ x < 256, x ||| 128 = x % 128 + 128 := by decide +kernel
  rw [key _ h1]
  omega
theorem byteV (n : Nat) (h : n < 256) : Value.int .u8 (n : Int) = bv (UInt8.ofNat n) := by
  unfold bv
  rw [UInt8.toNat_ofNat_of_lt' (by show n < 256; omega)]
theorem sevenBits (n : Nat) (h : n < 18446744073709551616) : n / 128 < 18446744073709551616 := by omega

/-- What stands as a var at the head of bytes: the number, and how many bytes it takes; i bytes have been read, which make a. -/
def tv : List UInt8 → Nat → Nat → Option (Nat × Nat)
  | [], _, _ => none
  | c :: r, i, a =>
    if (i = 9 ∧ 1 < c.toNat) ∨ (0 < i ∧ c.toNat = 0) then none
    else if c.toNat < 128 then some (a + c.toNat * 128 ^ i, i + 1)
    else tv r (i + 1) (a + (c.toNat - 128) * 128 ^ i)
/-- The answer of TakeVar: number, place behind, error. -/
def tvAns (bs : List UInt8) (t : Int) : Nat × Nat × Nat :=
  if t < 0 ∨ (bs.length : Int) < t then (0, 0, 1)
  else match tv (bs.drop t.toNat) 0 0 with
    | none => (0, 0, 5)
    | some (v, k) => (v, t.toNat + k, 0)
theorem tv_bd : ∀ (l : List UInt8) (i a : Nat) (v k : Nat), i ≤ 9 → a < 128 ^ i → tv l i a = some (v, k) → v < 18446744073709551616 ∧ i < k ∧ k ≤ i + l.length ∧ k ≤ 10
  | [], _, _, _, _, _, _, h => by simp [tv] at h
  | c :: r, i, a, v, k, hi, ha, h => by
    unfold tv at h
    split at h
    · cases h
    · rename_i hn
      have hc := u8_lt c
      split at h
      · rename_i hlt
        simp only [Option.some.injEq, Prod.mk.injEq] at h
        obtain ⟨rfl, rfl⟩ := h
        refine ⟨?_, by omega, by simp only [List.length_cons]; omega, by omega⟩
        have hcases : i = 0 ∨ i = 1 ∨ i = 2 ∨ i = 3 ∨ i = 4 ∨ i = 5 ∨ i = 6 ∨ i = 7 ∨ i = 8 ∨ i = 9 := by omega
        rcases hcases with rfl | rfl | rfl | rfl | rfl | rfl | rfl | rfl | rfl | rfl <;> omega
      · rename_i hge
        have hi9 : i ≤ 8 := by omega
        have h2 := tv_bd r (i + 1) (a + (c.toNat - 128) * 128 ^ i) v k (by omega) (by
          rw [Nat.pow_succ]
          have : (c.toNat - 128) * 128 ^ i ≤ 127 * 128 ^ i := Nat.mul_le_mul_right _ (by omega)
          omega) h
        simp only [List.length_cons]
        omega

theorem u8and127 (c : UInt8) : bits .andNot .u8 (c.toNat : Int) 128 = ((c.toNat % 128 : Nat) : Int) := by
  have h := u8_andNot_nat c.toNat 128 (u8_lt c) (by omega)
  rw [show (128 : Int) = ((128 : Nat) : Int) from rfl, h]
  congr 1
  have key : ∀ x < 256, x &&& (255 - 128) = x % 128 := by decide +kernel
  exact key _ (u8_lt c)
theorem u8and128 (c : UInt8) : bits .and .u8 (c.toNat : Int) 128 = ((c.toNat / 128 * 128 : Nat) : Int) := by
  rw [show (128 : Int) = ((128 : Nat) : Int) from rfl, u8_and_nat c.toNat 128 (u8_lt c) (by omega)]
  congr 1
  have key : ∀ x < 256, x &&& 128 = x / 128 * 128 := by decide +kernel
  exact key _ (u8_lt c)

theorem tvStep (bs : List UInt8) (t k acc : Nat) (x : UInt8) (hlb : t + k < bs.length) (hx : x = bs[t + k]) :
    tv (bs.drop (t + k)) k acc = if (k = 9 ∧ 1 < x.toNat) ∨ (0 < k ∧ x.toNat = 0) then none else if x.toNat < 128 then some (acc + x.toNat * 128 ^ k, k + 1) else tv (bs.drop (t + (k + 1))) (k + 1) (acc + (x.toNat - 128) * 128 ^ k) := by
  rw [List.drop_eq_getElem_cons hlb, ← hx]
  rfl
theorem tvEnd_none {bs : List UInt8} {t v x z : Nat} (hans : tvAns bs t = (v, x, z)) (ht : t ≤ bs.length) (h : tv (bs.drop t) 0 0 = none) : v = 0 ∧ x = 0 ∧ z = 5 := by
  unfold tvAns at hans
  rw [if_neg (by omega), Int.toNat_natCast, h] at hans
  simp only [Prod.mk.injEq] at hans
  omega
theorem tvEnd_some {bs : List UInt8} {t v x z a k : Nat} (hans : tvAns bs t = (v, x, z)) (ht : t ≤ bs.length) (h : tv (bs.drop t) 0 0 = some (a, k)) : v = a ∧ x = t + k ∧ z = 0 := by
  unfold tvAns at hans
  rw [if_neg (by omega), Int.toNat_natCast, h] at hans
  simp only [Prod.mk.injEq] at hans
  omega
theorem pow7 (k : Nat) : (2 : Nat) ^ (7 * k) = 128 ^ k := by rw [Nat.pow_mul]
theorem orStep (acc c k : Nat) (hk : k ≤ 9) (hacc : acc < 128 ^ k) (hc : c < 256) (h9 : k = 9 → c ≤ 1) :
    bits .or .u64 (acc : Int) (IntKind.u64.wrap ((c : Int) % 128 * 2 ^ (7 * k))) = ((acc + c % 128 * 128 ^ k : Nat) : Int) := by
  have e : (c : Int) % 128 * 2 ^ (7 * k) = ((c % 128 * 128 ^ k : Nat) : Int) := by
    rw [← pow7 k]
    simp
  have hb : c % 128 * 128 ^ k + acc < 18446744073709551616 := by
    have hcases : k = 0 ∨ k = 1 ∨ k = 2 ∨ k = 3 ∨ k = 4 ∨ k = 5 ∨ k = 6 ∨ k = 7 ∨ k = 8 ∨ k = 9 := by omega
    rcases hcases with rfl | rfl | rfl | rfl | rfl | rfl | rfl | rfl | rfl | rfl <;> omega
  rw [e, IntKind.wrap_u64]
  have e2 : ((c % 128 * 128 ^ k : Nat) : Int) % 18446744073709551616 = ((c % 128 * 128 ^ k : Nat) : Int) := by omega
  rw [e2, u64_or_nat _ _ (by omega) (by omega), Nat.or_comm, nat_join (7 * k) _ _ (by rw [pow7]; exact Nat.mul_mod_left _ _) (by rw [pow7]; exact hacc)]
  congr 1
  omega
theorem orStep9 (acc c : Nat) (hacc : acc < 128 ^ 9) (hc : c ≤ 1) :
    bits .or .u64 (acc : Int) ((c : Int) % 128 * 9223372036854775808) = ((acc + c * 128 ^ 9 : Nat) : Int) := by
  have h := orStep acc c 9 (by omega) hacc (by omega) (fun _ => hc)
  have e4 : c % 128 = c := by omega
  rw [e4] at h
  rw [← h, IntKind.wrap_u64]
  congr 1
  have e5 : (2 : Int) ^ (7 * 9) = 9223372036854775808 := by decide
  rw [e5]
  omega

/-! ### byte strings -/
/-- The answer of TakeBytes: the bytes, the place behind, the error. -/
def tbAns (bs : List UInt8) (t most : Int) : List UInt8 × Nat × Nat :=
  match tvAns bs t with
  | (v, x, z) =>
    if z ≠ 0 then ([], 0, z)
    else if most < 0 ∨ most < (v : Int) then ([], 0, 6)
    else if bs.length < x + v then ([], 0, 5)
    else ((bs.drop x).take v, x + v, 0)
theorem tvAns_bd {bs : List UInt8} {t : Int} {v x z : Nat} (h : tvAns bs t = (v, x, z)) : v < 18446744073709551616 ∧ x ≤ bs.length ∧ (z ≠ 0 → v = 0 ∧ x = 0) ∧ (z = 0 → 0 ≤ t ∧ t < x) ∧ z < 256 := by
  unfold tvAns at h
  split at h
  · simp only [Prod.mk.injEq] at h; omega
  · split at h
    · simp only [Prod.mk.injEq] at h; omega
    · rename_i hn _ a k e
      have hb := tv_bd _ 0 0 a k (by omega) (by simp) e
      simp only [Prod.mk.injEq, List.length_drop] at h hb
      omega

/-! ### fixed numbers -/
/-- The lowest k bytes of n, the highest first. -/
def beB (n : Nat) : Nat → List UInt8
  | 0 => []
  | k + 1 => UInt8.ofNat (n / 256 ^ k % 256) :: beB n k
theorem beB_len (n : Nat) : ∀ k, (beB n k).length = k
  | 0 => rfl
  | k + 1 => by simp [beB, beB_len n k]
theorem pow8 (k : Nat) : (2 : Nat) ^ (8 * k) = 256 ^ k := by rw [Nat.pow_mul]
/-- The number of bytes, the highest first. -/
def beN (l : List UInt8) : Nat := l.foldl (fun a b => a * 256 + b.toNat) 0
theorem beN_snoc (l : List UInt8) (b : UInt8) : beN (l ++ [b]) = beN l * 256 + b.toNat := by simp [beN]
theorem beN_lt (l : List UInt8) : beN l < 256 ^ l.length := by
  rw [← List.reverse_reverse l]
  induction l.reverse with
  | nil => simp [beN]
  | cons b r ih =>
    rw [List.reverse_cons, beN_snoc, List.length_append, List.length_singleton, Nat.pow_succ]
    have := u8_lt b
    omega
theorem beN_beB_aux (n : Nat) : ∀ k a, (beB n k).foldl (fun a b => a * 256 + b.toNat) a = a * 256 ^ k + n % 256 ^ k
  | 0, a => by simp [beB, Nat.mod_one]
  | k + 1, a => by
    simp only [beB, List.foldl_cons]
    rw [beN_beB_aux n k, UInt8.toNat_ofNat_of_lt' (by show _ < 256; omega), Nat.pow_succ, Nat.mod_mul, Nat.add_mul, Nat.mul_assoc, Nat.mul_comm 256 (256 ^ k), Nat.mul_comm (n / 256 ^ k % 256)]
    omega
theorem beN_beB (n k : Nat) : beN (beB n k) = n % 256 ^ k := by
  have := beN_beB_aux n k 0
  simpa [beN] using this
theorem or256 (a b : Nat) (ha : a < 72057594037927936) (hb : b < 256) : bits .or .u64 ((a : Int) * 256) (b : Int) = ((a * 256 + b : Nat) : Int) := by
  rw [show (a : Int) * 256 = ((a * 256 : Nat) : Int) from by omega, u64_or_nat _ _ (by omega) (by omega), nat_join 8 _ _ (by omega) (by omega)]

/-! ### the reference's reading of a var: up to the first byte below 128, whose var must be just that -/
def vl : List UInt8 → Nat
  | [] => 0
  | b :: r => b.toNat % 128 + 128 * vl r
theorem vl_snoc : ∀ (l : List UInt8) (b : UInt8), vl (l ++ [b]) = vl l + b.toNat % 128 * 128 ^ l.length
  | [], b => by simp [vl]
  | c :: r, b => by
    simp only [List.cons_append, vl, vl_snoc r b, List.length_cons, Nat.pow_succ, Nat.mul_add]
    rw [Nat.mul_comm (128 ^ r.length) 128, Nat.mul_left_comm (b.toNat % 128)]
    omega
theorem vl_lt : ∀ (l : List UInt8), vl l < 128 ^ l.length
  | [] => by simp [vl]
  | c :: r => by
    have := vl_lt r
    simp only [vl, List.length_cons, Nat.pow_succ]
    omega
theorem var_pre : ∀ (pre : List UInt8) (f : Nat) (c : UInt8), (∀ b ∈ pre, 128 ≤ b.toNat) → pre.length ≤ f → c.toNat < 128 → (pre = [] ∨ c.toNat ≠ 0) →
    varF f (vl pre + c.toNat * 128 ^ pre.length) = pre ++ [c]
  | [], f, c, _, _, hc, _ => by
    cases f <;> simp [varF, vl, hc]
  | b :: r, f, c, hb, hf, hc, h0 => by
    obtain ⟨g, rfl⟩ : ∃ g, f = g + 1 := ⟨f - 1, by simp at hf; omega⟩
    have h0' : c.toNat ≠ 0 := by simpa using h0
    have hb0 : 128 ≤ b.toNat := hb b (by simp)
    have hb1 := u8_lt b
    have hp : 1 ≤ c.toNat * 128 ^ r.length := Nat.mul_pos (by omega) (Nat.pow_pos (by omega))
    have e : vl (b :: r) + c.toNat * 128 ^ (b :: r).length = b.toNat % 128 + 128 * (vl r + c.toNat * 128 ^ r.length) := by
      simp only [vl, List.length_cons, Nat.pow_succ]
      rw [Nat.mul_comm (128 ^ r.length) 128, Nat.mul_left_comm]
      omega
    have e2 : (b.toNat % 128 + 128 * (vl r + c.toNat * 128 ^ r.length)) / 128 = vl r + c.toNat * 128 ^ r.length := by omega
    have e3 : (b.toNat % 128 + 128 * (vl r + c.toNat * 128 ^ r.length)) % 128 + 128 = b.toNat := by omega
    rw [e, varF, if_neg (by omega), e2, e3, var_pre r g c (fun x hx => hb x (by simp [hx])) (by simp at hf; omega) hc (.inr h0')]
    simp
theorem varF_last : ∀ (f n : Nat) (l : List UInt8) (c : UInt8), n < 128 ^ (f + 1) → varF f n = l ++ [c] → c.toNat = n / 128 ^ l.length ∧ (l = [] ∨ c.toNat ≠ 0)
  | 0, n, l, c, hn, h => by
    have hl : l = [] := by
      have := congrArg List.length h
      simp [varF] at this
      exact this
    subst hl
    simp [varF] at h hn
    subst h
    refine ⟨?_, .inl rfl⟩
    rw [UInt8.toNat_ofNat_of_lt' (by show n < 256; omega)]
    simp
  | f + 1, n, l, c, hn, h => by
    unfold varF at h
    split at h
    · rename_i hlt
      have hl : l = [] := by
        have := congrArg List.length h
        simp at this
        exact this
      subst hl
      simp at h
      subst h
      refine ⟨?_, .inl rfl⟩
      rw [UInt8.toNat_ofNat_of_lt' (by show n < 256; omega)]
      simp
    · rename_i hge
      rcases l with _ | ⟨x, r⟩
      · have := congrArg List.length h
        have h2 := varF_len f (n / 128)
        simp at this
        rw [this] at h2
        simp at h2
      · simp only [List.cons_append, List.cons.injEq] at h
        obtain ⟨e1, e2⟩ := varF_last f (n / 128) r c (by rw [Nat.pow_succ] at hn; omega) h.2
        have e3 : c.toNat = n / 128 ^ (x :: r).length := by
          rw [e1, Nat.div_div_eq_div_mul, List.length_cons, Nat.pow_succ, Nat.mul_comm]
        refine ⟨e3, .inr ?_⟩
        rcases e2 with rfl | e2
        · rw [e1]
          simp
          omega
        · exact e2
/-- What the reference's test says at a byte below 128. -/
theorem var_test (pre : List UInt8) (c : UInt8) (m : Nat) (hb : ∀ b ∈ pre, 128 ≤ b.toNat) (hl : pre.length ≤ 9) (hc : c.toNat < 128) (hm : m < 18446744073709551616)
    (hmv : ¬ (pre.length = 9 ∧ 1 < c.toNat) → m = vl pre + c.toNat * 128 ^ pre.length) :
    (var m = pre ++ [c]) ↔ ¬ ((pre.length = 9 ∧ 1 < c.toNat) ∨ (0 < pre.length ∧ c.toNat = 0)) := by
  constructor
  · intro h hbad
    obtain ⟨e1, e2⟩ := varF_last 9 m pre c (by omega) h
    rcases hbad with ⟨h9, h1⟩ | ⟨h0, hz⟩
    · rw [h9] at e1
      omega
    · rcases e2 with rfl | e2
      · simp at h0
      · exact e2 hz
  · intro hok
    rw [hmv (by omega)]
    refine var_pre pre 9 c hb hl hc ?_
    rcases pre with _ | ⟨x, r⟩
    · exact .inl rfl
    · right
      simp at hok
      exact hok.2

/-- The reference's loop, k bytes on. -/
def RV (bs : List UInt8) (t k acc : Nat) : Prop :=
  t + k ≤ bs.length ∧ k ≤ 10 ∧ acc < 18446744073709551616 ∧ (∀ b ∈ (bs.drop t).take k, 128 ≤ b.toNat) ∧
    (k ≤ 9 → acc = vl ((bs.drop t).take k) ∧ tv (bs.drop (t + k)) k acc = tv (bs.drop t) 0 0) ∧ (9 < k → tv (bs.drop t) 0 0 = none)
theorem RV.start {bs : List UInt8} {t : Nat} (ht : t ≤ bs.length) : RV bs t 0 0 := ⟨by omega, by omega, by omega, by simp, fun _ => ⟨by simp [vl], rfl⟩, by omega⟩
theorem RV.out_ {bs : List UInt8} {t k acc : Nat} (h : RV bs t k acc) (he : k = 10 ∨ t + k = bs.length) : tv (bs.drop t) 0 0 = none := by
  obtain ⟨h1, h2, _, _, h4, h5⟩ := h
  by_cases hk : k ≤ 9
  · rw [← (h4 hk).2, List.drop_eq_nil_of_le (by omega)]
    rfl
  · exact h5 (by omega)
theorem take_snoc {bs : List UInt8} {t k : Nat} (h : t + k < bs.length) : (bs.drop t).take (k + 1) = (bs.drop t).take k ++ [bs[t + k]] := by
  rw [List.take_succ_eq_append_getElem (by rw [List.length_drop]; omega), List.getElem_drop]
theorem take_len {bs : List UInt8} {t k : Nat} (h : t + k ≤ bs.length) : ((bs.drop t).take k).length = k := by rw [List.length_take, List.length_drop]; omega
/-- The number with one byte more, as the walk spells it. -/
def nxt (acc c k : Nat) : Nat := acc ||| (c % 128 * 128 ^ k % 18446744073709551616)
theorem nxt_eq (acc c k : Nat) (hacc : acc < 18446744073709551616) : bits .or .u64 (acc : Int) (IntKind.u64.wrap ((c : Int) % 128 * 2 ^ (7 * k))) = ((nxt acc c k : Nat) : Int) := by
  have e : (c : Int) % 128 * 2 ^ (7 * k) = ((c % 128 * 128 ^ k : Nat) : Int) := by
    rw [← pow7 k]
    simp
  rw [e, IntKind.wrap_u64]
  have e2 : ((c % 128 * 128 ^ k : Nat) : Int) % 18446744073709551616 = ((c % 128 * 128 ^ k % 18446744073709551616 : Nat) : Int) := by omega
  rw [e2, u64_or_nat _ _ hacc (Nat.mod_lt _ (by omega))]
  rfl
theorem nxt_lt (acc c k : Nat) (hacc : acc < 18446744073709551616) : nxt acc c k < 18446744073709551616 :=
  Nat.or_lt_two_pow (n := 64) hacc (Nat.mod_lt _ (by omega))
theorem nxt_add (acc c k : Nat) (hk : k ≤ 9) (hacc : acc < 128 ^ k) (hc : c < 256) (h9 : k = 9 → c % 128 ≤ 1) : nxt acc c k = acc + c % 128 * 128 ^ k := by
  have hb : c % 128 * 128 ^ k < 18446744073709551616 := by
    have hcases : k = 0 ∨ k = 1 ∨ k = 2 ∨ k = 3 ∨ k = 4 ∨ k = 5 ∨ k = 6 ∨ k = 7 ∨ k = 8 ∨ k = 9 := by omega
    rcases hcases with rfl | rfl | rfl | rfl | rfl | rfl | rfl | rfl | rfl | rfl <;> omega
  unfold nxt
  rw [Nat.mod_eq_of_lt hb, Nat.or_comm, nat_join (7 * k) _ _ (by rw [pow7]; exact Nat.mul_mod_left _ _) (by rw [pow7]; exact hacc)]
  omega
theorem RV.acc_lt {bs : List UInt8} {t k acc : Nat} (h : RV bs t k acc) (hk : k ≤ 9) : acc < 128 ^ k := by
  have := vl_lt ((bs.drop t).take k)
  rw [take_len h.1] at this
  rw [(h.2.2.2.2.1 hk).1]
  exact this
theorem RV.step {bs : List UInt8} {t k acc : Nat} (h : RV bs t k acc) (hk : k ≤ 9) (hlb : t + k < bs.length) (x : UInt8) (hx : x = bs[t + k]) (hge : 128 ≤ x.toNat) : RV bs t (k + 1) (nxt acc x.toNat k) := by
  have hacc := h.acc_lt hk
  obtain ⟨h1, h2, h3, h4, h5, h6⟩ := h
  refine ⟨by omega, by omega, nxt_lt _ _ _ h3, ?_, ?_, ?_⟩
  · intro b hb
    rw [take_snoc hlb, List.mem_append, List.mem_singleton] at hb
    rcases hb with hb | hb
    · exact h4 b hb
    · rw [hb, ← hx]; exact hge
  · intro hk9
    have hx8 := u8_lt x
    have e := nxt_add acc x.toNat k hk hacc hx8 (by omega)
    refine ⟨?_, ?_⟩
    · rw [e, take_snoc hlb, vl_snoc, take_len h1, ← hx, ← (h5 hk).1]
    · rw [e, ← (h5 hk).2, tvStep bs t k acc x hlb hx, if_neg (by omega), if_neg (by omega), show x.toNat % 128 = x.toNat - 128 from by omega]
  · intro hk9
    rw [← (h5 hk).2, tvStep bs t k acc x hlb hx, if_pos (by omega)]
/-- The test at a byte below 128, and the answer. -/
theorem RV.test {bs : List UInt8} {t k acc : Nat} (h : RV bs t k acc) (hk : k ≤ 9) (hlb : t + k < bs.length) (x : UInt8) (hx : x = bs[t + k]) (hlt : x.toNat < 128) :
    (var (nxt acc x.toNat k) = (bs.drop t).take (k + 1) ∧ tv (bs.drop t) 0 0 = some (nxt acc x.toNat k, k + 1)) ∨ (var (nxt acc x.toNat k) ≠ (bs.drop t).take (k + 1) ∧ tv (bs.drop t) 0 0 = none) := by
  have hacc := h.acc_lt hk
  obtain ⟨h1, h2, h3, h4, h5, h6⟩ := h
  have hx8 := u8_lt x
  have hm := nxt_lt acc x.toNat k h3
  have hv := var_test ((bs.drop t).take k) x (nxt acc x.toNat k) h4 (by rw [take_len h1]; exact hk) hlt hm (fun hn => by
    rw [take_len h1] at hn ⊢
    rw [nxt_add acc x.toNat k hk hacc hx8 (by omega), ← (h5 hk).1, Nat.mod_eq_of_lt hlt])
  rw [take_len h1] at hv
  rw [take_snoc hlb, ← hx, ← (h5 hk).2, tvStep bs t k acc x hlb hx]
  by_cases hbad : (k = 9 ∧ 1 < x.toNat) ∨ (0 < k ∧ x.toNat = 0)
  · right
    exact ⟨fun e => (hv.1 e) hbad, by rw [if_pos hbad]⟩
  · left
    refine ⟨hv.2 hbad, ?_⟩
    rw [if_neg hbad, if_pos hlt, nxt_add acc x.toNat k hk hacc hx8 (by omega), Nat.mod_eq_of_lt hlt]

/-! ### groups of seven bits -/
def cnt : Nat → Nat → Nat
  | 0, _ => 0
  | f + 1, r => if r = 0 then 0 else 1 + cnt f (r / 128)
theorem varF_cnt : ∀ f n, n < 128 ^ (f + 1) → (varF f n).length = 1 + cnt f (n / 128)
  | 0, n, h => by simp [varF, cnt]
  | f + 1, n, h => by
    unfold varF
    split
    · rename_i hlt
      have : n / 128 = 0 := by omega
      simp [cnt, this]
    · rename_i hge
      have : n / 128 ≠ 0 := by omega
      rw [List.length_cons, varF_cnt f (n / 128) (by rw [Nat.pow_succ] at h; omega), cnt, if_neg this]
      omega
theorem var_cnt (n : Nat) (h : n < 18446744073709551616) : (var n).length = 1 + cnt 9 (n / 128) := varF_cnt 9 n (by omega)
end Go.Proofs.Ytcoafgnbmgndeaa
