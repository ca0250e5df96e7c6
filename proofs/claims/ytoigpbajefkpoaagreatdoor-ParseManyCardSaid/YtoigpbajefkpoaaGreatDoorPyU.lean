/- Texts, packed: QaB QaC QaE QbA -/
import Derived.Test.YtoigpbajefkpoaaGreatDoorPyT
set_option linter.unusedVariables false
set_option linter.unusedSimpArgs false
namespace Go.Proofs.YtoigpbajefkpoaaGreatDoor
open Go Go.RowKit

/-- The first k variables, as printed. -/
def Vk (k : Nat) : List ByteArray := (List.range k).map fun i => ⟨(88 :: digitsL i).toArray⟩
theorem Vk_len (k : Nat) : (Vk k).length = k := by simp [Vk]
theorem Vk_succ (k : Nat) : Vk (k + 1) = Vk k ++ [⟨(88 :: digitsL k).toArray⟩] := by simp [Vk, List.range_succ]
theorem Vk_at {k i : Nat} (h : i < k) : (Vk k)[i]? = some ⟨(88 :: digitsL i).toArray⟩ := by
 unfold Vk
 rw [List.getElem?_map, List.getElem?_range h]
 rfl
theorem digits16 : ∀ i, i < 16 → digitsL i = if i < 10 then [UInt8.ofNat (48 + i)] else [49, UInt8.ofNat (38 + i)] := by
 intro i hi
 by_cases h : i < 10
 ·
  rw [digitsL_small h, if_pos h]
 ·
  rw [digitsL_big h, if_neg h, show i / 10 = 1 by omega, digitsL_small (n := 1) (by omega), digitsL_small (n := i % 10) (by omega), show i % 10 = i - 10 by omega]
  have : 48 + (i - 10) = 38 + i := by omega
  rw [this]
  rfl
theorem digits_inj {i j : Nat} (hi : i < 16) (hj : j < 16) (h : digitsL i = digitsL j) : i = j := by
 rw [digits16 i hi, digits16 j hj] at h
 have key : ∀ i, i < 16 → ∀ j, j < 16 → ((if i < 10 then [UInt8.ofNat (48 + i)] else [49, UInt8.ofNat (38 + i)] : List UInt8) = (if j < 10 then [UInt8.ofNat (48 + j)] else [49, UInt8.ofNat (38 + j)])) → i = j := by decide
 exact key i hi j hj h
theorem var_inj {i j : Nat} (hi : i < 16) (hj : j < 16) (h : (⟨(88 :: digitsL i).toArray⟩ : ByteArray) = ⟨(88 :: digitsL j).toArray⟩) : i = j := by
 have h2 := congrArg tb h
 exact digits_inj hi hj (List.cons.inj h2).2
theorem find_var {k i : Nat} (hk : k ≤ 16) (h : i < k) : findO (Vk k) ⟨(88 :: digitsL i).toArray⟩ = some i :=
 findO_some (Vk_at h) fun j x hj hx e => by
  rw [Vk_at (by omega)] at hx
  simp only [Option.some.injEq] at hx
  have := var_inj (by omega) (by omega) (hx.trans e)
  omega
theorem find_novar {k : Nat} (hk : k < 16) : findO (Vk k) ⟨(88 :: digitsL k).toArray⟩ = none :=
 findO_none fun j x hx e => by
  have hj : j < k := by
   have := (List.getElem?_eq_some_iff.1 hx).1
   rwa [Vk_len] at this
  rw [Vk_at hj] at hx
  simp only [Option.some.injEq] at hx
  have := var_inj (by omega) (by omega) (hx.trans e)
  omega
theorem find_good {N : List ByteArray} (hN : Good 4096 N) {i : Nat} {x : ByteArray} (h : N[i]? = some x) : findO N x = some i :=
 findO_some h fun j y hj hy e => by
  obtain ⟨hi, h1⟩ := List.getElem?_eq_some_iff.1 h
  obtain ⟨hj2, h2⟩ := List.getElem?_eq_some_iff.1 hy
  exact (List.pairwise_iff_getElem.1 hN.nodup) j i hj2 hi hj (h2.trans (e.trans h1.symm))
theorem texts_cons {l : List Wd} {k : Nat} {x : List UInt8} {tk : List Tk} (h : texts l = (k, x) :: tk) : ∃ a l', l = (k, x, a) :: l' ∧ texts l' = tk := by
 cases l with
 | nil => cases h
 | cons w l' =>
  obtain ⟨k', x', a⟩ := w
  simp only [texts, List.map_cons, List.cons.injEq, Prod.mk.injEq] at h
  obtain ⟨⟨rfl, rfl⟩, h2⟩ := h
  exact ⟨a, l', rfl, h2⟩
theorem name_back {N : List ByteArray} (hN : Good 4096 N) {sz i : Nat} (hi : Nin N i) {V : List ByteArray} {l : List Wd} {tk : List Tk} (h : texts l = (1, namedL N i) :: tk) : ∃ l', texts l' = tk ∧ nameE sz (l, N, V) = .ok (i, (l', N, V)) := by
 obtain ⟨a, l', rfl, h2⟩ := texts_cons h
 obtain ⟨x, h3, h4⟩ := hi
 have hx : namedL N i = tb x := by unfold namedL; rw [h3]; dsimp only; rw [if_pos h4]
 refine ⟨l', h2, ?_⟩
 have hf := find_good hN h3
 have ht : txE ((1, namedL N i, a) :: l') = x := by rw [hx]; rfl
 unfold nameE
 dsimp only
 rw [if_pos (show kindE ((1, namedL N i, a) :: l') = 1 from rfl), ht, hf]
 rfl
theorem of_toNat (u : UInt32) : UInt32.ofNat u.toNat = u := by simp
theorem term_back {N : List ByteArray} (hN : Good 4096 N) {sz v k k' : Nat} {t : Tm} (ht : Tin N v t) (hc : comeG k [t] = some k') (hk : k' ≤ 16) {l : List Wd} {tk : List Tk} (h : texts l = tokT N t :: tk) :
  ∃ l', texts l' = tk ∧ termE sz (l, N, Vk k) = .ok (t, (l', N, Vk k')) := by
 obtain ⟨b, i⟩ := t
 cases b with
 | false =>
  unfold Tin at ht
  rw [if_neg (by simp)] at ht
  have h0 : texts l = (1, namedL N i.toNat) :: tk := h
  obtain ⟨l', h1, h2⟩ := name_back hN (sz := sz) ht (V := Vk k) h0
  simp only [comeG, if_neg, Bool.false_eq_true, if_false, Option.some.injEq] at hc
  subst hc
  refine ⟨l', h1, ?_⟩
  unfold termE
  have hk2 : kindE l ≠ 2 := by
   obtain ⟨a, l2, rfl, _⟩ := texts_cons h0
   show (1 : Nat) ≠ 2
   omega
  rw [if_neg hk2, bindE_of h2, of_toNat]
 | true =>
  have h0 : texts l = (2, 88 :: digitsL i.toNat) :: tk := h
  obtain ⟨a, l', rfl, h2⟩ := texts_cons h0
  have htx : txE ((2, 88 :: digitsL i.toNat, a) :: l') = ⟨(88 :: digitsL i.toNat).toArray⟩ := rfl
  refine ⟨l', h2, ?_⟩
  rw [comeG, if_pos rfl] at hc
  dsimp only at hc
  unfold termE
  dsimp only
  rw [if_pos (show kindE ((2, 88 :: digitsL i.toNat, a) :: l') = 2 from rfl), htx]
  by_cases hlt : k < i.toNat
  ·
   rw [if_pos hlt] at hc; cases hc
  ·
   rw [if_neg hlt] at hc
   by_cases he : i.toNat = k
   ·
    rw [if_pos he, comeG] at hc
    simp only [Option.some.injEq] at hc
    subst hc
    rw [he, find_novar (by omega)]
    dsimp only
    rw [Vk_len, if_neg (by omega), ← Vk_succ, ← he, of_toNat]
    rfl
   ·
    rw [if_neg he, comeG] at hc
    simp only [Option.some.injEq] at hc
    subst hc
    rw [find_var hk (by omega)]
    dsimp only
    rw [of_toNat]
    rfl
theorem comeG_le : ∀ (l : List Tm) (k k' : Nat), comeG k l = some k' → k ≤ k'
 | [], k, k', h => by simp [comeG] at h; omega
 | t :: l, k, k', h => by
  rw [comeG] at h
  split at h
  ·
   split at h
   ·
    cases h
   ·
    split at h
    ·
     have := comeG_le l _ _ h; omega
    ·
     exact comeG_le l _ _ h
  ·
   exact comeG_le l _ _ h
theorem come_cons {t : Tm} {l : List Tm} {k k' : Nat} (h : comeG k (t :: l) = some k') : ∃ j, comeG k [t] = some j ∧ comeG j l = some k' ∧ j ≤ k' := by
 have := comeG_app [t] l k
 rw [List.singleton_append, h] at this
 cases hj : comeG k [t] with
 | none => rw [hj] at this; cases this
 | some j =>
  rw [hj] at this
  exact ⟨j, rfl, this.symm, comeG_le _ _ _ this.symm⟩
theorem come_app {a b : List Tm} {k k' : Nat} (h : comeG k (a ++ b) = some k') : ∃ j, comeG k a = some j ∧ comeG j b = some k' ∧ j ≤ k' := by
 have := comeG_app a b k
 rw [h] at this
 cases hj : comeG k a with
 | none => rw [hj] at this; cases this
 | some j =>
  rw [hj] at this
  exact ⟨j, rfl, this.symm, comeG_le _ _ _ this.symm⟩
theorem kind_of {l : List Wd} {k : Nat} {x : List UInt8} {tk : List Tk} (h : texts l = (k, x) :: tk) : kindE l = k := by
 obtain ⟨a, l', rfl, _⟩ := texts_cons h
 rfl
theorem tail_of {l : List Wd} {k : Nat} {x : List UInt8} {tk : List Tk} (h : texts l = (k, x) :: tk) : texts l.tail = tk := by
 obtain ⟨a, l', rfl, h2⟩ := texts_cons h
 exact h2
theorem word_back {sz k : Nat} {x : List UInt8} {N V : List ByteArray} {l : List Wd} {tk : List Tk} (h : texts l = (k, x) :: tk) : ∃ y l', texts l' = tk ∧ wordE sz k (l, N, V) = .ok (y, (l', N, V)) := by
 refine ⟨txE l, l.tail, tail_of h, ?_⟩
 unfold wordE
 rw [if_pos (kind_of h)]
theorem more_back {N : List ByteArray} (hN : Good 4096 N) {sz v : Nat} : ∀ (as_ : List Tm) (t : Tm) (fuel : Nat) (acc : List Tm) (k k' : Nat), (∀ u ∈ t :: as_, Tin N v u) → comeG k (t :: as_) = some k' → k' ≤ 16 → acc.length + (t :: as_).length ≤ 6 → as_.length < fuel →
  ∀ {l : List Wd} {tk : List Tk}, texts l = tokT N t :: (as_.flatMap (fun u => [(7, [44]), tokT N u]) ++ (6, [41]) :: tk) → ∃ l', texts l' = tk ∧ argsE sz fuel acc (l, N, Vk k) = .ok (acc ++ t :: as_, (l', N, Vk k'))
 | [], t, fuel, acc, k, k', ht, hc, hk, ha, hf, l, tk, h => by
  obtain ⟨f, rfl⟩ : ∃ f, fuel = f + 1 := ⟨fuel - 1, by simp at hf; omega⟩
  obtain ⟨l1, h1, h2⟩ := term_back hN (sz := sz) (ht t (by simp)) hc hk h
  obtain ⟨y, l2, h3, h4⟩ := word_back (sz := sz) (N := N) (V := Vk k') h1
  refine ⟨l2, h3, ?_⟩
  simp only [List.length_cons, List.length_nil] at ha
  rw [argsE, if_neg (fun hh => by omega), bindE_of h2, if_neg (by dsimp only; rw [kind_of h1]; omega), bindE_of h4]
 | u :: as_, t, fuel, acc, k, k', ht, hc, hk, ha, hf, l, tk, h => by
  obtain ⟨f, rfl⟩ : ∃ f, fuel = f + 1 := ⟨fuel - 1, by simp at hf; omega⟩
  obtain ⟨j, c1, c2, c3⟩ := come_cons hc
  obtain ⟨l1, h1, h2⟩ := term_back hN (sz := sz) (ht t (by simp)) c1 (by omega) h
  rw [List.flatMap_cons] at h1
  have h1' : texts l1 = (7, [44]) :: (tokT N u :: (as_.flatMap (fun u => [(7, [44]), tokT N u]) ++ (6, [41]) :: tk)) := by simpa using h1
  simp only [List.length_cons] at ha hf
  obtain ⟨l2, h3, h4⟩ := more_back hN as_ u f (acc ++ [t]) j k' (fun x hx => ht x (List.mem_cons_of_mem _ hx)) c2 hk (by simp; omega) (by omega) (tail_of h1')
  refine ⟨l2, h3, ?_⟩
  rw [argsE, if_neg (fun hh => by omega), bindE_of h2, if_pos (by dsimp only; rw [kind_of h1'])]
  have : acc ++ t :: u :: as_ = acc ++ [t] ++ u :: as_ := by simp
  rw [this]
  exact h4
theorem atom_back {N : List ByteArray} (hN : Good 4096 N) {sz v k k' : Nat} {p : UInt32} {as_ : List Tm} (hp : Nin N p.toNat) (ht : ∀ u ∈ as_, Tin N v u) (hc : comeG k as_ = some k') (hk : k' ≤ 16) (ha : as_.length ≤ 6) {l : List Wd} {tk : List Tk}
  (h : texts l = (1, namedL N p.toNat) :: (toksA N as_ ++ tk)) (h5 : ∀ x tk', tk = (5, x) :: tk' → False) : ∃ l', texts l' = tk ∧ atomE sz (l, N, Vk k) = .ok ((p, as_), (l', N, Vk k')) := by
 obtain ⟨l1, h1, h2⟩ := name_back hN (sz := sz) hp (V := Vk k) h
 unfold atomE
 rw [bindE_of h2]
 cases as_ with
 | nil =>
  simp only [comeG, Option.some.injEq] at hc
  subst hc
  refine ⟨l1, h1, ?_⟩
  have hne : kindE l1 ≠ 5 := by
   intro e
   obtain ⟨w, t, rfl, hw⟩ := fkind_txE e (by omega)
   obtain ⟨k5, x5, a5⟩ := w
   dsimp only at hw
   subst hw
   exact h5 x5 (texts t) h1.symm
  dsimp only
  rw [if_neg hne, of_toNat]
 | cons t as_ =>
  have h3 : texts l1 = (5, [40]) :: (tokT N t :: (as_.flatMap (fun u => [(7, [44]), tokT N u]) ++ (6, [41]) :: tk)) := by simpa [toksA] using h1
  obtain ⟨l2, h4, h6⟩ := more_back hN (sz := sz) as_ t 7 [] k k' ht hc hk (by simpa using ha) (by simp at ha; omega) (tail_of h3)
  refine ⟨l2, h4, ?_⟩
  dsimp only
  rw [if_pos (kind_of h3), bindE_of h6, of_toNat]
  rfl
end Go.Proofs.YtoigpbajefkpoaaGreatDoor

set_option linter.unusedVariables false
set_option linter.unusedSimpArgs false
namespace Go.Proofs.YtoigpbajefkpoaaGreatDoor
open Go Go.RowKit

/-- What can stand behind a say. -/
def Fo (tk : List Tk) : Prop := ∃ k x tk', tk = (k, x) :: tk' ∧ (k = 7 ∨ k = 8 ∨ k = 9)
theorem Fo.five {tk : List Tk} (h : Fo tk) : ∀ x tk', tk = (5, x) :: tk' → False := by
 obtain ⟨k, x, t, rfl, hk⟩ := h
 intro x' t' e
 simp only [List.cons.injEq, Prod.mk.injEq] at e
 omega
theorem mayS_parts {y : Sy} (h : mayS y = true) : (y.1 = false → y.2.1 = (false, 0)) ∧ (y.2.1.1 = true → y.2.1.2.toNat < 16) ∧ y.2.2.2.length ≤ 6 ∧ ∀ t ∈ y.2.2.2, t.1 = true → t.2.toNat < 16 := by
 unfold mayS mayA at h
 simp only [Bool.and_eq_true, Bool.or_eq_true, decide_eq_true_eq, Bool.not_eq_true', List.all_eq_true] at h
 obtain ⟨⟨h1, h2⟩, h3, h4⟩ := h
 refine ⟨fun e => ?_, fun e => ?_, h4, fun t ht e => ?_⟩
 ·
  rcases h1 with h1 | h1
  ·
   rw [e] at h1; cases h1
  ·
   exact h1
 ·
  rcases h2 with h2 | h2
  ·
   rw [e] at h2; cases h2
  ·
   exact h2
 ·
  rcases h3 t ht with h5 | h5
  ·
   rw [e] at h5; cases h5
  ·
   exact h5
theorem say_back {N : List ByteArray} (hN : Good 4096 N) {sz v k k' : Nat} {y : Sy} (hm : mayS y = true) (hp : Nin N y.2.2.1.toNat) (ht : ∀ u ∈ termsS y, Tin N v u) (hc : comeG k (termsS y) = some k') (hk : k' ≤ 16) {l : List Wd} {tk : List Tk} (hfo : Fo tk)
  (h : texts l = toksS N y ++ tk) : ∃ l', texts l' = tk ∧ sayE sz (l, N, Vk k) = .ok (y, (l', N, Vk k')) := by
 obtain ⟨m1, m2, m3, m4⟩ := mayS_parts hm
 obtain ⟨s, t, p, as_⟩ := y
 dsimp only at m1 m2 m3 m4 hp
 cases s with
 | true =>
  have hts : termsS (true, t, (p, as_)) = t :: as_ := by simp [termsS]
  rw [hts] at hc ht
  obtain ⟨j, c1, c2, c3⟩ := come_cons hc
  have h0 : texts l = tokT N t :: ((4, [115, 97, 121, 115]) :: ((1, namedL N p.toNat) :: (toksA N as_ ++ tk))) := by simpa [toksS] using h
  obtain ⟨l1, h1, h2⟩ := term_back hN (sz := sz) (ht t (by simp)) c1 (by omega) h0
  obtain ⟨x, l2, h3, h4⟩ := word_back (sz := sz) (N := N) (V := Vk j) h1
  obtain ⟨l3, h5, h6⟩ := atom_back hN (sz := sz) (p := p) hp (fun u hu => ht u (List.mem_cons_of_mem _ hu)) c2 hk m3 h3 hfo.five
  refine ⟨l3, h5, ?_⟩
  unfold sayE
  rw [if_pos (.inr (kind_of (tail_of h0))), bindE_of h2, bindE_of h4, bindE_of h6]
 | false =>
  have hts : termsS (false, t, (p, as_)) = as_ := by simp [termsS]
  rw [hts] at hc ht
  have h0 : texts l = (1, namedL N p.toNat) :: (toksA N as_ ++ tk) := by simpa [toksS] using h
  obtain ⟨l3, h5, h6⟩ := atom_back hN (sz := sz) (p := p) hp ht hc hk m3 h0 hfo.five
  refine ⟨l3, h5, ?_⟩
  have hneg : ¬ (kindE l = 2 ∨ kindE l.tail = 4) := by
   rintro (e | e)
   ·
    rw [kind_of h0] at e; omega
   ·
    have h1 := tail_of h0
    cases as_ with
    | nil =>
     obtain ⟨q, x, t', rfl, hq⟩ := hfo
     have h2 : texts l.tail = (q, x) :: t' := h1
     rw [kind_of h2] at e
     omega
    | cons u as_ =>
     have h2 : texts l.tail = (5, [40]) :: (tokT N u :: (as_.flatMap (fun u => [(7, [44]), tokT N u]) ++ [(6, [41])]) ++ tk) := by simpa [toksA] using h1
     rw [kind_of h2] at e
     omega
  have ht0 := m1 rfl
  subst ht0
  unfold sayE
  rw [if_neg hneg, bindE_of h6]
theorem come_le16 : ∀ (l : List Tm) (k k' : Nat), (∀ t ∈ l, t.1 = true → t.2.toNat < 16) → k ≤ 16 → comeG k l = some k' → k' ≤ 16
 | [], k, k', _, hk, h => by simp [comeG] at h; omega
 | t :: l, k, k', hl, hk, h => by
  have ih := fun j hj hh => come_le16 l j k' (fun x hx => hl x (List.mem_cons_of_mem _ hx)) hj hh
  rw [comeG] at h
  split at h
  ·
   rename_i ht
   have := hl t (List.mem_cons_self ..) ht
   split at h
   ·
    cases h
   ·
    split at h
    ·
     exact ih _ (by omega) h
    ·
     exact ih _ hk h
  ·
   exact ih _ hk h
theorem conds_back {N : List ByteArray} (hN : Good 4096 N) {sz v : Nat} : ∀ (M : List Co) (c : Co) (fuel : Nat) (acc : List Co) (k k' : Nat), (∀ d ∈ c :: M, mayS d.2 = true ∧ Nin N d.2.2.2.1.toNat ∧ ∀ u ∈ termsS d.2, Tin N v u) → comeG k ((c :: M).flatMap fun d => termsS d.2) = some k' → k' ≤ 16 →
  acc.length + (c :: M).length ≤ 8 → M.length < fuel → ∀ {l : List Wd} {x : List UInt8} {tk : List Tk}, texts l = toksC N c ++ (M.flatMap (fun d => (7, [44]) :: toksC N d) ++ (8, x) :: tk) → ∃ l', texts l' = (8, x) :: tk ∧ condsE sz fuel acc (l, N, Vk k) = .ok (acc ++ c :: M, (l', N, Vk k'))
 | M, c, fuel, acc, k, k', hM, hc, hk, ha, hf, l, x, tk, h => by
  obtain ⟨f, rfl⟩ : ∃ f, fuel = f + 1 := ⟨fuel - 1, by omega⟩
  rw [List.flatMap_cons] at hc
  obtain ⟨j, c1, c2, c3⟩ := come_app hc
  obtain ⟨m1, m2, m3⟩ := hM c (List.mem_cons_self ..)
  have hfo : Fo (M.flatMap (fun d => (7, [44]) :: toksC N d) ++ (8, x) :: tk) := by
   cases M with
   | nil => exact ⟨8, x, tk, rfl, by omega⟩
   | cons d M => exact ⟨7, [44], _, rfl, by omega⟩
  obtain ⟨g, y⟩ := c
  have hsay : ∃ l', texts l' = (M.flatMap (fun d => (7, [44]) :: toksC N d) ++ (8, x) :: tk) ∧ sayE sz (if kindE l = 3 then nextE (l, N, Vk k) else (l, N, Vk k)) = .ok (y, (l', N, Vk j)) ∧ decide (kindE l = 3) = g := by
   cases g with
   | true =>
    have h0 : texts l = (3, [110, 111, 116]) :: (toksS N y ++ (M.flatMap (fun d => (7, [44]) :: toksC N d) ++ (8, x) :: tk)) := by simpa [toksC] using h
    obtain ⟨l', h1, h2⟩ := say_back hN (sz := sz) m1 m2 m3 c1 (by omega) hfo (tail_of h0)
    refine ⟨l', h1, ?_, decide_eq_true (kind_of h0)⟩
    rw [if_pos (kind_of h0)]
    exact h2
   | false =>
    have h0 : texts l = toksS N y ++ (M.flatMap (fun d => (7, [44]) :: toksC N d) ++ (8, x) :: tk) := by simpa [toksC] using h
    have hk3 : kindE l ≠ 3 := by
     obtain ⟨s, t, p, as_⟩ := y
     cases s with
     | true =>
      have h1 : texts l = tokT N t :: ((4, [115, 97, 121, 115]) :: ((1, namedL N p.toNat) :: (toksA N as_ ++ (M.flatMap (fun d => (7, [44]) :: toksC N d) ++ (8, x) :: tk)))) := by simpa [toksS] using h0
      have h2 : kindE l = if t.1 then 2 else 1 := kind_of (x := termL N t) h1
      rw [h2]
      split <;> omega
     | false =>
      have h1 : texts l = (1, namedL N p.toNat) :: (toksA N as_ ++ (M.flatMap (fun d => (7, [44]) :: toksC N d) ++ (8, x) :: tk)) := by simpa [toksS] using h0
      rw [kind_of h1]
      omega
    obtain ⟨l', h1, h2⟩ := say_back hN (sz := sz) m1 m2 m3 c1 (by omega) hfo h0
    refine ⟨l', h1, ?_, decide_eq_false hk3⟩
    rw [if_neg hk3]
    exact h2
  obtain ⟨l1, h1, h2, h3⟩ := hsay
  simp only [List.length_cons] at ha
  rw [condsE, if_neg (fun hh => by omega), bindE_of h2, h3]
  cases M with
  | nil =>
   simp only [List.flatMap_nil, comeG, Option.some.injEq] at c2
   subst c2
   refine ⟨l1, h1, ?_⟩
   have h4 : texts l1 = (8, x) :: tk := h1
   rw [if_neg (by dsimp only; rw [kind_of h4]; omega)]
  | cons d M =>
   have h4 : texts l1 = (7, [44]) :: (toksC N d ++ (M.flatMap (fun d => (7, [44]) :: toksC N d) ++ (8, x) :: tk)) := by
    rw [h1, List.flatMap_cons, List.cons_append, List.cons_append, List.append_assoc]
   simp only [List.length_cons] at hf ha
   obtain ⟨l2, h5, h6⟩ := conds_back hN (sz := sz) (v := v) M d f (acc ++ [(g, y)]) j k' (fun e he => hM e (List.mem_cons_of_mem _ he)) c2 hk (by simp; omega) (by omega) (tail_of h4)
   refine ⟨l2, h5, ?_⟩
   rw [if_pos (by dsimp only; rw [kind_of h4])]
   have : acc ++ (g, y) :: d :: M = acc ++ [(g, y)] ++ d :: M := by simp
   rw [this]
   exact h6
theorem rule_back {N : List ByteArray} (hN : Good 4096 N) {sz : Nat} {r : Rl} (hf : Fine N r) {l : List Wd} {V : List ByteArray} {tk : List Tk} (h : texts l = toksR N r ++ tk) : ∃ l' V', texts l' = tk ∧ ruleE sz (l, N, V) = .ok (r, (l', N, V')) := by
 obtain ⟨hm, hc, v, h3, h4, h5⟩ := hf
 obtain ⟨y, M⟩ := r
 unfold mayR at hm
 rw [Bool.and_eq_true, Bool.and_eq_true] at hm
 obtain ⟨⟨hmM, hmy⟩, hlen⟩ := hm
 have hlen := of_decide_eq_true hlen
 rw [List.all_eq_true] at hmM
 dsimp only at hmM hmy hlen h4 h5
 unfold comeR at hc
 obtain ⟨k', hk'⟩ := Option.isSome_iff_exists.1 hc
 have hsay16 : ∀ z : Sy, mayS z = true → ∀ t ∈ termsS z, t.1 = true → t.2.toNat < 16 := by
  intro z hz t ht e
  obtain ⟨m1, m2, m3, m4⟩ := mayS_parts hz
  unfold termsS at ht
  rcases List.mem_append.1 ht with h | h
  ·
   split at h
   ·
    rw [List.mem_singleton] at h
    subst h
    exact m2 e
   ·
    cases h
  ·
   exact m4 t h e
 have h16 : k' ≤ 16 := come_le16 _ 0 k' (by
  intro t ht e
  unfold termsR at ht
  rcases List.mem_append.1 ht with h | h
  ·
   exact hsay16 _ hmy t h e
  ·
   obtain ⟨c, hc, h⟩ := List.mem_flatMap.1 h
   exact hsay16 _ (hmM c hc) t h e) (by omega) hk'
 unfold termsR at hk'
 obtain ⟨j, c1, c2, c3⟩ := come_app hk'
 have hy : ∀ t ∈ termsS y, Tin N v t := fun t ht => h3 t (by simp [termsR, ht])
 have hM : ∀ d ∈ M, mayS d.2 = true ∧ Nin N d.2.2.2.1.toNat ∧ ∀ u ∈ termsS d.2, Tin N v u := fun d hd => ⟨hmM d hd, h5 d hd, fun t ht => h3 t (by
  simp only [termsR, List.mem_append, List.mem_flatMap]
  exact .inr ⟨d, hd, ht⟩)⟩
 have h0 : texts l = toksS N y ++ (toksB N M ++ (8, [46]) :: tk) := by simpa [toksR] using h
 have hfo : Fo (toksB N M ++ (8, [46]) :: tk) := by
  cases M with
  | nil => exact ⟨8, [46], tk, rfl, by omega⟩
  | cons c M => exact ⟨9, [58, 45], _, rfl, by omega⟩
 obtain ⟨l1, e1, e2⟩ := say_back hN (sz := sz) (k := 0) hmy h4 hy c1 (by omega) hfo h0
 have hbody : ∃ l2, texts l2 = (8, [46]) :: tk ∧ bodyE sz (l1, N, Vk j) = .ok (M, (l2, N, Vk k')) := by
  cases M with
  | nil =>
   simp only [List.flatMap_nil, comeG, Option.some.injEq] at c2
   subst c2
   have e3 : texts l1 = (8, [46]) :: tk := e1
   refine ⟨l1, e3, ?_⟩
   unfold bodyE
   rw [if_neg (by dsimp only; rw [kind_of e3]; omega)]
  | cons c M =>
   have e3 : texts l1 = (9, [58, 45]) :: (toksC N c ++ (M.flatMap (fun d => (7, [44]) :: toksC N d) ++ (8, [46]) :: tk)) := by
    rw [e1]
    simp [toksB]
   obtain ⟨l2, e4, e5⟩ := conds_back hN (sz := sz) (v := v) M c 9 [] j k' hM c2 h16 (by simpa using hlen) (by simp at hlen; omega) (tail_of e3)
   refine ⟨l2, e4, ?_⟩
   unfold bodyE
   rw [if_pos (by dsimp only; rw [kind_of e3])]
   exact e5
 obtain ⟨l2, e3, e4⟩ := hbody
 obtain ⟨x, l3, e5, e6⟩ := word_back (sz := sz) (N := N) (V := Vk k') e3
 refine ⟨l3, Vk k', e5, ?_⟩
 unfold ruleE
 have e2' : sayE sz (l, N, []) = .ok (y, (l1, N, Vk j)) := e2
 dsimp only
 rw [bindE_of e2', bindE_of e4, bindE_of e6]
theorem toksR_ne (N : List ByteArray) (r : Rl) : toksR N r ≠ [] := by simp [toksR]
theorem rules_back {N : List ByteArray} (hN : Good 4096 N) {sz : Nat} : ∀ (rs : List Rl) (n : Nat) (acc : List Rl), (∀ r ∈ rs, Fine N r) → rs.length ≤ n → ∀ {l : List Wd} {V : List ByteArray}, texts l = rs.flatMap (toksR N) → ∃ V', rulesE sz n acc (l, N, V) = .ok (acc ++ rs, ([], N, V'))
 | [], n, acc, _, _, l, V, h => by
  have hl : l = [] := by
   cases l with
   | nil => rfl
   | cons w l => cases h
  subst hl
  refine ⟨V, ?_⟩
  cases n with
  | zero => simp [rulesE]
  | succ n => simp [rulesE]
 | r :: rs, n, acc, hf, hn, l, V, h => by
  obtain ⟨m, rfl⟩ : ∃ m, n = m + 1 := ⟨n - 1, by simp at hn; omega⟩
  rw [List.flatMap_cons] at h
  obtain ⟨l1, V1, h1, h2⟩ := rule_back hN (sz := sz) (hf r (List.mem_cons_self ..)) (V := V) h
  simp only [List.length_cons] at hn
  obtain ⟨V2, h3⟩ := rules_back hN (sz := sz) rs m (acc ++ [r]) (fun x hx => hf x (List.mem_cons_of_mem _ hx)) (by omega) (V := V1) h1
  refine ⟨V2, ?_⟩
  have hne : l ≠ [] := by
   rintro rfl
   have := congrArg List.length h
   have h4 : 1 ≤ (toksR N r).length := by
    cases ht : toksR N r with
    | nil => exact absurd ht (toksR_ne N r)
    | cons a b => simp
   simp [texts] at this
   omega
  rw [rulesE, if_neg hne, bindE_of h2, h3]
  simp
/-- What was printed is parsed, the same. -/
theorem print_back {N : List ByteArray} (hN : Good 4096 N) {rs : List Rl} (hf : ∀ r ∈ rs, Fine N r) (hlen : (rs.flatMap (ruleL N)).length ≤ 65536) : parseL N (rs.flatMap (ruleL N)) = (rs, N, 0, 0) := by
 obtain ⟨h1, h2⟩ := lx_rules hN rs hf 0
 have hw : wordsL (rs.flatMap (ruleL N)) = ((lexG 0 (rs.flatMap (ruleL N))).1, 0, 0) := wordsL_ok hlen (by rw [← h1])
 have hcount : rs.length ≤ (lexG 0 (rs.flatMap (ruleL N))).1.length := by
  have h3 := congrArg List.length h2
  unfold texts at h3
  rw [List.length_map] at h3
  rw [h3]
  clear h1 h2 h3 hw hlen hf
  induction rs with
  | nil => simp
  | cons r rs ih =>
   rw [List.flatMap_cons, List.length_append, List.length_cons]
   have h4 : 1 ≤ (toksR N r).length := by
    cases ht : toksR N r with
    | nil => exact absurd ht (toksR_ne N r)
    | cons a b => simp
   omega
 obtain ⟨V', h4⟩ := rules_back hN (sz := (rs.flatMap (ruleL N)).length) rs _ [] hf hcount (V := []) h2
 unfold parseL
 rw [hw]
 dsimp only
 rw [if_neg (by simp), h4]
 rfl
end Go.Proofs.YtoigpbajefkpoaaGreatDoor

set_option linter.unusedVariables false
set_option linter.unusedSimpArgs false
namespace Go.Proofs.YtoigpbajefkpoaaGreatDoor
open Go Go.RowKit

/-- How many bytes words have. -/
def wl (l : List Wd) : Nat := (l.map fun w => w.2.1.length).sum
theorem wl_cons (w : Wd) (l : List Wd) : wl (w :: l) = w.2.1.length + wl l := by simp [wl]
/-- No word is empty. -/
def Wn (l : List Wd) : Prop := ∀ w ∈ l, 1 ≤ w.2.1.length
theorem Wn.tail {l : List Wd} (h : Wn l) : Wn l.tail := fun w hw => h w (List.mem_of_mem_tail hw)
theorem wl_tail {l : List Wd} (h : Wn l) (hl : l ≠ []) : wl l.tail + 1 ≤ wl l := by
 cases l with
 | nil => exact absurd rfl hl
 | cons w l =>
  have := h w (List.mem_cons_self ..)
  rw [wl_cons]
  show wl l + 1 ≤ _
  omega
/-- From one state to another: what is printed of it, by any table that goes on. -/
structure Ln (s s' : PS) (f : List ByteArray → Nat) : Prop where
 gs : Gs s'
 wn : Wn s'.1
 names : ∃ Y, s'.2.1 = s.2.1 ++ Y
 le : ∀ X, f (s'.2.1 ++ X) + 6 * wl s'.1 ≤ 6 * wl s.1
theorem Ln.mono {s s' : PS} {f g : List ByteArray → Nat} (h : Ln s s' f) (hg : ∀ N, g N ≤ f N) : Ln s s' g :=
 ⟨h.gs, h.wn, h.names, fun X => by have := h.le X; have := hg (s'.2.1 ++ X); omega⟩
theorem Ln.trans {s s1 s2 : PS} {f g : List ByteArray → Nat} (h : Ln s s1 f) (k : Ln s1 s2 g) : Ln s s2 (fun N => f N + g N) := by
 obtain ⟨X, hX⟩ := h.names
 obtain ⟨Y, hY⟩ := k.names
 refine ⟨k.gs, k.wn, ⟨X ++ Y, by rw [hY, hX, List.append_assoc]⟩, fun Z => ?_⟩
 have h1 := h.le (Y ++ Z)
 have h2 := k.le Z
 rw [← List.append_assoc, ← hY] at h1
 try dsimp only
 omega
theorem ln_next {s : PS} (h : Gs s) (hw : Wn s.1) (hl : s.1 ≠ []) : Ln s (nextE s) (fun _ => 6) :=
 ⟨(gs_next h).gs, hw.tail, ⟨[], by simp⟩, fun X => by have := wl_tail hw hl; show 6 + 6 * wl s.1.tail ≤ _; omega⟩
theorem ln_word {sz k : Nat} {s s' : PS} {x : ByteArray} (h : Gs s) (hw : Wn s.1) (hk : k ≠ 0) (hf : wordE sz k s = .ok (x, s')) : Ln s s' (fun _ => 6) := by
 unfold wordE at hf
 split at hf
 ·
  rename_i hh
  simp only [Except.ok.injEq, Prod.mk.injEq] at hf
  rw [← hf.2]
  exact ln_next h hw (kindE_ne hh hk)
 ·
  cases hf
theorem named_at {N X : List ByteArray} {i : Nat} {x : ByteArray} (h : N[i]? = some x) : (namedL (N ++ X) i).length ≤ (tb x).length := by
 unfold namedL
 rw [List.getElem?_append_left (List.getElem?_eq_some_iff.1 h).1, h]
 dsimp only
 split
 ·
  exact Nat.le_refl _
 ·
  simp
theorem ln_name {sz i : Nat} {s s' : PS} (h : Gs s) (hw : Wn s.1) (hf : nameE sz s = .ok (i, s')) : Ln s s' (fun N => (namedL N i).length) := by
 have hg := (gs_name h hf).1
 obtain ⟨l, N, V⟩ := s
 unfold nameE at hf
 split at hf
 ·
  rename_i hk
  obtain ⟨w, t, hl, hk2⟩ := fkind_txE hk (by omega)
  dsimp only at hl
  subst hl
  have htx : txE (w :: t) = ⟨w.2.1.toArray⟩ := rfl
  have h1 : 1 ≤ w.2.1.length := hw w (List.mem_cons_self ..)
  have key : ∀ (M : List ByteArray), M[i]? = some (⟨w.2.1.toArray⟩ : ByteArray) → ∀ X, (namedL (M ++ X) i).length + 6 * wl t ≤ 6 * wl (w :: t) := by
   intro M hM X
   have h2 : (namedL (M ++ X) i).length ≤ w.2.1.length := named_at hM
   rw [wl_cons]
   omega
  dsimp only at hf
  rw [htx] at hf
  split at hf
  ·
   rename_i j hj
   simp only [Except.ok.injEq, Prod.mk.injEq] at hf
   obtain ⟨rfl, rfl⟩ := hf
   exact ⟨hg.gs, hw.tail, ⟨[], by simp⟩, key N (findO_get hj)⟩
  ·
   split at hf
   ·
    cases hf
   ·
    simp only [Except.ok.injEq, Prod.mk.injEq] at hf
    obtain ⟨rfl, rfl⟩ := hf
    exact ⟨hg.gs, hw.tail, ⟨_, rfl⟩, key _ (by simp)⟩
 ·
  cases hf
theorem ln_term {sz : Nat} {t : Tm} {s s' : PS} (h : Gs s) (hw : Wn s.1) (hf : termE sz s = .ok (t, s')) : Ln s s' (fun N => (termL N t).length) := by
 obtain ⟨hg, h16⟩ := gs_term h hf
 have hf0 := hf
 unfold termE at hf
 split at hf
 ·
  rename_i hk
  have hne := kindE_ne hk (by omega)
  have hv : t.1 = true ∧ s'.1 = s.1.tail := by
   split at hf
   ·
    simp only [Except.ok.injEq, Prod.mk.injEq] at hf
    obtain ⟨rfl, rfl⟩ := hf
    exact ⟨rfl, rfl⟩
   ·
    split at hf
    ·
     cases hf
    ·
     simp only [Except.ok.injEq, Prod.mk.injEq] at hf
     obtain ⟨rfl, rfl⟩ := hf
     exact ⟨rfl, rfl⟩
  refine ⟨hg.gs, by rw [hv.2]; exact hw.tail, hg.names, fun X => ?_⟩
  have h1 := wl_tail hw hne
  have h2 : (termL (s'.2.1 ++ X) t).length ≤ 3 := by
   unfold termL
   rw [if_pos hv.1]
   have := digitsL_len 1 t.2.toNat (by have := h16 hv.1; omega)
   simp
   omega
  rw [hv.2]
  try dsimp only
  omega
 ·
  obtain ⟨i, s1, h1, h2⟩ := bindE_ok hf
  simp only [Except.ok.injEq, Prod.mk.injEq] at h2
  obtain ⟨rfl, rfl⟩ := h2
  have hn := ln_name h hw h1
  have h3 := (gs_name h h1).2.2
  refine hn.mono fun N => ?_
  unfold termL
  rw [if_neg (by simp)]
  dsimp only
  rw [ftoNat_of h3]
  exact Nat.le_refl _
def szA (N : List ByteArray) (l : List Tm) : Nat := (l.map fun u => 2 + (termL N u).length).sum
theorem szA_args (N : List ByteArray) : ∀ l : List Tm, (argsL N l).length ≤ szA N l
 | [] => by simp [argsL]
 | t :: l => by
  have key : ∀ l : List Tm, (l.flatMap (fun u => [44, 32] ++ termL N u)).length = szA N l := by
   intro l
   induction l with
   | nil => rfl
   | cons u l ih => rw [List.flatMap_cons, List.length_append, ih]; simp [szA]; omega
  have := key l
  simp only [argsL, List.length_append, List.length_cons, List.length_nil]
  rw [this]
  simp [szA]
  omega
theorem ln_args {sz : Nat} : ∀ (n : Nat) (acc : List Tm) {l : List Tm} {s s' : PS}, Gs s → Wn s.1 → argsE sz n acc s = .ok (l, s') → ∃ m, l = acc ++ m ∧ Ln s s' (fun N => szA N m)
 | 0, acc, l, s, s', h, hw, hf => by simp [argsE] at hf
 | n + 1, acc, l, s, s', h, hw, hf => by
  rw [argsE] at hf
  split at hf
  ·
   cases hf
  ·
   obtain ⟨t, s1, h1, h2⟩ := bindE_ok hf
   have a1 := ln_term h hw h1
   split at h2
   ·
    rename_i h7
    have a2 := ln_next a1.gs a1.wn (kindE_ne h7 (by omega))
    obtain ⟨m, rfl, b1⟩ := ln_args n (acc ++ [t]) a2.gs a2.wn h2
    refine ⟨t :: m, by simp, ((a1.trans a2).trans b1).mono fun N => ?_⟩
    simp only [szA, List.map_cons, List.sum_cons]
    omega
   ·
    obtain ⟨y, s2, h3, h4⟩ := bindE_ok h2
    simp only [Except.ok.injEq, Prod.mk.injEq] at h4
    obtain ⟨rfl, rfl⟩ := h4
    refine ⟨[t], rfl, (a1.trans (ln_word a1.gs a1.wn (by omega) h3)).mono fun N => ?_⟩
    simp only [szA, List.map_cons, List.map_nil, List.sum_cons, List.sum_nil]
    omega
theorem ln_atom {sz : Nat} {a : AtL} {s s' : PS} (h : Gs s) (hw : Wn s.1) (hf : atomE sz s = .ok (a, s')) : Ln s s' (fun N => (namedL N a.1.toNat).length + (argsL N a.2).length) := by
 unfold atomE at hf
 obtain ⟨p, s1, h1, h2⟩ := bindE_ok hf
 have a1 := ln_name h hw h1
 have a3 := (gs_name h h1).2.2
 split at h2
 ·
  rename_i h5
  obtain ⟨l, s2, h3, h4⟩ := bindE_ok h2
  simp only [Except.ok.injEq, Prod.mk.injEq] at h4
  obtain ⟨rfl, rfl⟩ := h4
  have a2 := ln_next a1.gs a1.wn (kindE_ne h5 (by omega))
  obtain ⟨m, hm, b1⟩ := ln_args 7 [] a2.gs a2.wn h3
  rw [List.nil_append] at hm
  rw [← hm] at b1
  refine ((a1.trans a2).trans b1).mono fun N => ?_
  have := szA_args N l
  dsimp only
  rw [ftoNat_of a3]
  omega
 ·
  simp only [Except.ok.injEq, Prod.mk.injEq] at h2
  obtain ⟨rfl, rfl⟩ := h2
  refine a1.mono fun N => ?_
  dsimp only
  rw [ftoNat_of a3]
  simp [argsL]
theorem ln_say {sz : Nat} {y : Sy} {s s' : PS} (h : Gs s) (hw : Wn s.1) (hf : sayE sz s = .ok (y, s')) : Ln s s' (fun N => (sayL N y).length) := by
 unfold sayE at hf
 split at hf
 ·
  obtain ⟨t, s1, h1, h2⟩ := bindE_ok hf
  obtain ⟨x, s2, h3, h4⟩ := bindE_ok h2
  obtain ⟨a, s3, h5, h6⟩ := bindE_ok h4
  simp only [Except.ok.injEq, Prod.mk.injEq] at h6
  obtain ⟨rfl, rfl⟩ := h6
  have a1 := ln_term h hw h1
  have b1 := ln_word a1.gs a1.wn (by omega) h3
  have c1 := ln_atom b1.gs b1.wn h5
  refine ((a1.trans b1).trans c1).mono fun N => ?_
  simp [sayL]
  omega
 ·
  obtain ⟨a, s1, h1, h2⟩ := bindE_ok hf
  simp only [Except.ok.injEq, Prod.mk.injEq] at h2
  obtain ⟨rfl, rfl⟩ := h2
  refine (ln_atom h hw h1).mono fun N => ?_
  simp [sayL]
def szB (N : List ByteArray) (l : List Co) : Nat := (l.map fun d => 2 + (condL N d).length).sum
theorem szB_body (N : List ByteArray) : ∀ l : List Co, (bodyL N l).length ≤ szB N l + 2
 | [] => by simp [bodyL]
 | c :: l => by
  have key : ∀ l : List Co, (l.flatMap (fun d => [44, 32] ++ condL N d)).length = szB N l := by
   intro l
   induction l with
   | nil => rfl
   | cons u l ih => rw [List.flatMap_cons, List.length_append, ih]; simp [szB]; omega
  have := key l
  simp only [bodyL, List.length_append, List.length_cons, List.length_nil]
  rw [this]
  simp [szB]
  omega
/-- As Ln, with two bytes beyond. -/
structure Ln2 (s s' : PS) (f : List ByteArray → Nat) : Prop where
 gs : Gs s'
 wn : Wn s'.1
 names : ∃ Y, s'.2.1 = s.2.1 ++ Y
 le : ∀ X, f (s'.2.1 ++ X) + 6 * wl s'.1 ≤ 6 * wl s.1 + 2
theorem ln_conds {sz : Nat} : ∀ (n : Nat) (acc : List Co) {l : List Co} {s s' : PS}, Gs s → Wn s.1 → condsE sz n acc s = .ok (l, s') → ∃ m, l = acc ++ m ∧ Ln2 s s' (fun N => szB N m)
 | 0, acc, l, s, s', h, hw, hf => by simp [condsE] at hf
 | n + 1, acc, l, s, s', h, hw, hf => by
  rw [condsE] at hf
  split at hf
  ·
   cases hf
  ·
   obtain ⟨y, s1, h1, h2⟩ := bindE_ok hf
   have a0 : Ln s s1 (fun N => (condL N (decide (kindE s.1 = 3), y)).length) := by
    by_cases h3 : kindE s.1 = 3
    ·
     rw [if_pos h3] at h1
     have a2 := ln_next h hw (kindE_ne h3 (by omega))
     refine (a2.trans (ln_say a2.gs a2.wn h1)).mono fun N => ?_
     simp [condL, h3]
     omega
    ·
     rw [if_neg h3] at h1
     refine (ln_say h hw h1).mono fun N => ?_
     simp [condL, h3]
   split at h2
   ·
    rename_i h7
    have a2 := ln_next a0.gs a0.wn (kindE_ne h7 (by omega))
    obtain ⟨m, rfl, b1⟩ := ln_conds n _ a2.gs a2.wn h2
    obtain ⟨Y, hY⟩ := b1.names
    obtain ⟨Y0, hY0⟩ := (a0.trans a2).names
    refine ⟨(decide (kindE s.1 = 3), y) :: m, by simp, b1.gs, b1.wn, ⟨Y0 ++ Y, by rw [hY, hY0, List.append_assoc]⟩, fun X => ?_⟩
    have e1 := (a0.trans a2).le (Y ++ X)
    have e2 := b1.le X
    rw [← List.append_assoc, ← hY] at e1
    simp only [szB, List.map_cons, List.sum_cons] at e1 e2 ⊢
    omega
   ·
    simp only [Except.ok.injEq, Prod.mk.injEq] at h2
    obtain ⟨rfl, rfl⟩ := h2
    refine ⟨[(decide (kindE s.1 = 3), y)], rfl, a0.gs, a0.wn, a0.names, fun X => ?_⟩
    have := a0.le X
    simp only [szB, List.map_cons, List.map_nil, List.sum_cons, List.sum_nil]
    omega
theorem ln_body {sz : Nat} {l : List Co} {s s' : PS} (h : Gs s) (hw : Wn s.1) (hf : bodyE sz s = .ok (l, s')) : Ln s s' (fun N => (bodyL N l).length) := by
 unfold bodyE at hf
 split at hf
 ·
  rename_i h9
  have a2 := ln_next h hw (kindE_ne h9 (by omega))
  obtain ⟨m, hm, b1⟩ := ln_conds 9 [] a2.gs a2.wn hf
  rw [List.nil_append] at hm
  rw [← hm] at b1
  obtain ⟨Y, hY⟩ := b1.names
  refine ⟨b1.gs, b1.wn, ⟨Y, hY⟩, fun X => ?_⟩
  have e1 : 6 + 6 * wl s.1.tail ≤ 6 * wl s.1 := a2.le (Y ++ X)
  have e2 : szB (s'.2.1 ++ X) l + 6 * wl s'.1 ≤ 6 * wl s.1.tail + 2 := b1.le X
  have e3 := szB_body (s'.2.1 ++ X) l
  omega
 ·
  simp only [Except.ok.injEq, Prod.mk.injEq] at hf
  obtain ⟨rfl, rfl⟩ := hf
  exact ⟨h, hw, ⟨[], by simp⟩, fun X => by simp [bodyL]⟩
theorem ln_rule {sz : Nat} {r : Rl} {s s' : PS} (h : Gs s) (hw : Wn s.1) (hf : ruleE sz s = .ok (r, s')) : Ln s s' (fun N => (ruleL N r).length) := by
 unfold ruleE at hf
 obtain ⟨y, s1, h1, h2⟩ := bindE_ok hf
 obtain ⟨b, s2, h3, h4⟩ := bindE_ok h2
 obtain ⟨x, s3, h5, h6⟩ := bindE_ok h4
 simp only [Except.ok.injEq, Prod.mk.injEq] at h6
 obtain ⟨rfl, rfl⟩ := h6
 have a1 := ln_say (s := (s.1, s.2.1, [])) ⟨h.ws, h.good, List.nodup_nil, by simp⟩ hw h1
 have b1 := ln_body a1.gs a1.wn h3
 have c1 := ln_word b1.gs b1.wn (by omega) h5
 have hall := ((a1.trans b1).trans c1).mono (g := fun N => (ruleL N (y, b)).length) fun N => by
  simp [ruleL]
  omega
 exact ⟨hall.gs, hall.wn, hall.names, hall.le⟩
theorem ln_rules {sz : Nat} : ∀ (n : Nat) (acc : List Rl) {l : List Rl} {s s' : PS}, Gs s → Wn s.1 → rulesE sz n acc s = .ok (l, s') → ∃ m, l = acc ++ m ∧ Ln s s' (fun N => (m.flatMap (ruleL N)).length)
 | 0, acc, l, s, s', h, hw, hf => by
  rw [rulesE] at hf
  simp only [Except.ok.injEq, Prod.mk.injEq] at hf
  obtain ⟨rfl, rfl⟩ := hf
  exact ⟨[], by simp, h, hw, ⟨[], by simp⟩, fun X => by simp⟩
 | n + 1, acc, l, s, s', h, hw, hf => by
  rw [rulesE] at hf
  split at hf
  ·
   simp only [Except.ok.injEq, Prod.mk.injEq] at hf
   obtain ⟨rfl, rfl⟩ := hf
   exact ⟨[], by simp, h, hw, ⟨[], by simp⟩, fun X => by simp⟩
  ·
   obtain ⟨r, s1, h1, h2⟩ := bindE_ok hf
   have a1 := ln_rule h hw h1
   obtain ⟨m, rfl, b1⟩ := ln_rules n _ a1.gs a1.wn h2
   refine ⟨r :: m, by simp, (a1.trans b1).mono fun N => ?_⟩
   simp
theorem wl_join : ∀ ws : List Wd, wl ws ≤ (joinL ws).length
 | [] => by simp [wl]
 | [w] => by simp [wl, joinL]
 | w :: v :: r => by
  have := wl_join (v :: r)
  rw [wl_cons, joinL, List.length_append, List.length_cons]
  omega
/-- What is printed of what was parsed. -/
theorem parse_len {N : List ByteArray} {text : List UInt8} (hN : Good 4096 N) {rs : List Rl} {ns : List ByteArray} {y z : Nat} (h : (rs, ns, y, z) = parseL N text) : (rs.flatMap (ruleL ns)).length ≤ 12 * text.length := by
 unfold parseL at h
 cases hw : wordsL text with
 | mk ws yz =>
  obtain ⟨y0, z0⟩ := yz
  rw [hw] at h
  dsimp only at h
  by_cases hz : z0 ≠ 0
  ·
   rw [if_pos hz] at h
   simp only [Prod.mk.injEq] at h
   obtain ⟨rfl, rfl, rfl, rfl⟩ := h
   simp
  ·
   rw [if_neg hz] at h
   have hfacts : Ws ws ∧ Wn ws ∧ wl ws ≤ 2 * text.length := by
    have hnil : Ws [] ∧ Wn [] ∧ wl [] ≤ 2 * text.length := ⟨(fun w hw => by cases hw), (fun w hw => by cases hw), by simp [wl]⟩
    unfold wordsL at hw
    split at hw
    ·
     simp only [Prod.mk.injEq] at hw
     obtain ⟨rfl, rfl, rfl⟩ := hw
     exact hnil
    ·
     have ha := lexG_alone 0 text
     have hst := lexG_stand [] text
     split at hw
     ·
      rename_i he
      simp only [Prod.mk.injEq] at hw
      obtain ⟨rfl, rfl, rfl⟩ := hw
      rw [he] at ha
      have hst' : Stand text 0 (lexG 0 text).1 := by simpa using hst
      rw [he] at hst'
      have h1 := joinL_len _ 0 hst' (by omega)
      have h2 := wl_join (lexG 0 text).1
      rw [he] at h2
      dsimp only at h1 h2
      exact ⟨ws_alone ha, fun w hw => List.length_pos_iff.2 (ha w hw).2.1, by omega⟩
     ·
      simp only [Prod.mk.injEq] at hw
      obtain ⟨rfl, rfl, rfl⟩ := hw
      exact hnil
   obtain ⟨hws, hwn, hwl⟩ := hfacts
   split at h
   ·
    rename_i rs' s' he
    simp only [Prod.mk.injEq] at h
    obtain ⟨rfl, rfl, rfl, rfl⟩ := h
    obtain ⟨m, hm, hl⟩ := ln_rules _ [] ⟨hws, hN, List.nodup_nil, by simp⟩ hwn he
    rw [List.nil_append] at hm
    subst hm
    have := hl.le []
    rw [List.append_nil] at this
    dsimp only at this
    omega
   ·
    simp only [Prod.mk.injEq] at h
    obtain ⟨rfl, rfl, rfl, rfl⟩ := h
    simp
/-- Of a text of no more than 4096 bytes: what was parsed is printed, and that is parsed, the same. -/
theorem parse_print {N : List ByteArray} {text : List UInt8} (hN : Good 4096 N) (ht : text.length ≤ 4096) {rs : List Rl} {ns : List ByteArray} {y : Nat} (h : (rs, ns, y, 0) = parseL N text) :
  printL ns rs = (rs.flatMap (ruleL ns), 0) ∧ (rs.flatMap (ruleL ns)).length ≤ 65536 ∧ parseL ns (rs.flatMap (ruleL ns)) = (rs, ns, 0, 0) := by
 obtain ⟨h1, h2, h3, h4⟩ := parseL_fine hN h
 have h5 := parse_len hN h
 have h6 : (rs.flatMap (ruleL ns)).length ≤ 65536 := by omega
 refine ⟨printL_all ?_, h6, print_back h1 h3 h6⟩
 rw [List.all_eq_true]
 intro r hr
 unfold fineR
 rw [(h3 r hr).1, (h3 r hr).known h1]
 rfl
end Go.Proofs.YtoigpbajefkpoaaGreatDoor

set_option linter.unusedVariables false
set_option linter.unusedSimpArgs false
namespace Go.Proofs.YtoigpbajefkpoaaGreatDoor
open Go Go.RowKit

def syC (z : Sy × SlA) : List Value := [.bool z.1.1, .bool z.1.2.1.1, nv z.1.2.1.2, nv z.1.2.2.1, z.2.val]
theorem syC_one (z : Sy × SlA) : ∀ u ∈ syC z, u.oneCell' = true := by
  intro u hu
  simp only [syC, List.mem_cons, List.not_mem_nil, or_false] at hu
  rcases hu with rfl | rfl | rfl | rfl | rfl <;> rfl
/-- An own row of says, whose terms are read in another world. -/
structure OwY (w : World) (base : Nat) (A : Option Addr) (c n : Nat) (w0 : World) (R : List SlA) (L : List Sy) : Prop where
  lenR : R.length = n
  lenL : L.length = n
  top : w.ownsRow base 51 5 (.slice A n c) n ((L.zip R).flatMap syC)
  row : ∀ (i : Nat) (r : SlA) (x : Sy), R[i]? = some r → L[i]? = some x → RdT w0 w0.heap.size r.1 r.2.1 x.2.2.2
theorem OwY.later {w w' w0 : World} {base c n : Nat} {A : Option Addr} {R : List SlA} {L : List Sy} (h : OwY w base A c n w0 R L) (hb : Below w.heap.size w w') : OwY w' base A c n w0 R L := ⟨h.lenR, h.lenL, ownBelow h.top hb (Nat.le_refl _), h.row⟩
theorem syInfo : (Tryz.prog.info? 51).map (fun i => (i.zero, i.size, i.bytes)) = some (some (.agg #[.bool false, .bool false, .int .u32 0, .int .u32 0, .slice none 0 0]), 5, 48) := by kernel_rfl
theorem appSy {ops : Array Oper} {rest : List Oper} {o : Oper} {a : Act} {Q' : Exit → Act → World → Prop} (w : World) (hgd : o.guard = none) (p x : Operand)
    (ho : o.op = .call { callee := .builtin .append, args := #[p, x], argTypes := #[136, 136] })
    (base : Nat) (A0 : Option Addr) (c0 n : Nat) (w0 : World) (R : List SlA) (L : List Sy) (hv : a.eval p = .slice A0 n c0) (hown : OwY w base A0 c0 n w0 R L)
    (B : Nat) (A : Option Addr) (c : Nat) (y : Sy) (q : SlA) (hx : a.eval x = .slice A 1 c) (hr : Rd w B 5 A 1 (syC (y, q))) (hb : n + 1 ≤ 1000000000) (hbase : base ≤ w.heap.size)
    (h1 : RdT w0 w0.heap.size q.1 q.2.1 y.2.2.2)
    (h : ∀ A' c' w', OwY w' base A' c' (n + 1) w0 (R ++ [q]) (L ++ [y]) → w.grownBy w' (Value.slice A0 n c0).ownBlock → wpList Tryz.prog ops Q' rest (a.put o.dst (.slice A' (n + 1) c')) w') : wpList Tryz.prog ops Q' (o :: rest) a w := by
  obtain ⟨i0, hi, hz0, hz1, hz2⟩ := info_parts syInfo
  refine wpList_app w hgd p x 136 ho base 51 i0 _ 5 48 Tryz.underlying136 hi hz0 hz1 hz2 rfl (by decide) _ n _ hv hown.top B A 1 c _ hx hr (syC_one (y, q)) (by simp only [maxLen]; omega) (by omega) hbase ?_
  intro A' c' w' e1 e2 e3
  refine h A' c' w' ⟨by simp [hown.lenR], by simp [hown.lenL], ?_, ?_⟩ e2
  · rw [List.zip_append (by rw [hown.lenL, hown.lenR]), List.flatMap_append]
    simpa using e1
  · intro i r x g1 g2
    by_cases hin : i < n
    · rw [List.getElem?_append_left (by rw [hown.lenR]; exact hin)] at g1
      rw [List.getElem?_append_left (by rw [hown.lenL]; exact hin)] at g2
      exact hown.row i r x g1 g2
    · have hil : i = n := by
        have := (List.getElem?_eq_some_iff.1 g1).1
        simp only [List.length_append, List.length_cons, List.length_nil, hown.lenR] at this
        omega
      subst hil
      rw [List.getElem?_append_right (by rw [hown.lenR]; omega), hown.lenR, Nat.sub_self] at g1
      rw [List.getElem?_append_right (by rw [hown.lenL]; omega), hown.lenL, Nat.sub_self] at g2
      cases g1
      cases g2
      exact h1
theorem run_litY (b1 b2 : Bool) (x y : UInt32) (A : Option Addr) (n c : Nat) (w : World) : (Instr.buildSlice 136 1 #[(0, .agg #[.bool b1, .bool b2, nv x, nv y, .slice A n c])]).run Tryz.prog w = .ok (.slice (some ⟨w.heap.size, 0, none⟩) 1 1) (w.alloc (.cells #[.bool b1, .bool b2, nv x, nv y, .slice A n c] 51)) := by
  obtain ⟨i0, hi, hz0, hz1, hz2⟩ := info_parts syInfo
  simp [Instr.buildSlice, run_underlying Tryz.underlying136, sizeOf, typeInfo, zeroValue, hi, hz0, hz1, newRow, Instr.fill]
  kernel_rfl
theorem OwY.lit (w w0 : World) (base : Nat) (hb : base ≤ w.heap.size) (s : Bool) (t : Tm) (p : UInt32) (A : Option Addr) (n c : Nat) (l : List Tm) (h : RdT w0 w0.heap.size A n l) :
    OwY (w.alloc (.cells #[.bool s, .bool t.1, nv t.2, nv p, .slice A n c] 51)) base (some ⟨w.heap.size, 0, none⟩) 1 1 w0 [(A, n, c)] [(s, t, (p, l))] :=
  ⟨rfl, rfl, World.ownsRow_lit (base := base) w #[.bool s, .bool t.1, nv t.2, nv p, .slice A n c] 1 hb (by simp [maxLen]) (by simp), fun i r x h1 h2 => by
    cases i with
    | zero =>
      simp only [List.getElem?_cons_zero, Option.some.injEq] at h1 h2
      subst h1 h2
      exact h
    | succ i => simp at h1⟩
theorem OwY.at_ {w w' w0 : World} {base c n : Nat} {A : Option Addr} {R : List SlA} {L : List Sy} (h : OwY w base A c n w0 R L) (hb : Below w.heap.size w w') {i : Nat} (hi : i < n) :
    ∃ b o s t p l Ai ni ci, A = some ⟨b, o, none⟩ ∧ b < w.heap.size ∧ L[i]? = some (s, t, (p, l)) ∧ w'.cell? ⟨b, o + i * 5, none⟩ = some (.bool s) ∧ w'.cell? ⟨b, o + i * 5 + 1, none⟩ = some (.bool t.1) ∧ w'.cell? ⟨b, o + i * 5 + 2, none⟩ = some (nv t.2) ∧ w'.cell? ⟨b, o + i * 5 + 3, none⟩ = some (nv p) ∧ w'.cell? ⟨b, o + i * 5 + 4, none⟩ = some (.slice Ai ni ci) ∧ RdT w0 w0.heap.size Ai ni l := by
  obtain ⟨b, o, e, hlt, hc⟩ := (Rd.ofOwn h.top).2 (by omega)
  have h1 : R[i]? = some (R[i]'(by rw [h.lenR]; exact hi)) := List.getElem?_eq_getElem _
  have h2 : L[i]? = some (L[i]'(by rw [h.lenL]; exact hi)) := List.getElem?_eq_getElem _
  generalize R[i]'(by rw [h.lenR]; exact hi) = r at h1
  generalize L[i]'(by rw [h.lenL]; exact hi) = x at h2
  obtain ⟨Ai, ni, ci⟩ := r
  obtain ⟨s, t, p, l⟩ := x
  have hz : (L.zip R)[i]? = some ((s, t, (p, l)), (Ai, ni, ci)) := by
    rw [List.getElem?_zip_eq_some]
    exact ⟨h2, h1⟩
  have hl : ∀ x : Sy × SlA, (syC x).length = 5 := fun _ => rfl
  have f := fun j (hj : j < 5) => flat_at syC 5 hl hz j hj
  have g := fun (j : Nat) (u : Value) (hu : ((L.zip R).flatMap syC)[j]? = some u) => (hb.cell (p := ⟨b, o + j, none⟩) hlt).trans (hc j u hu)
  exact ⟨b, o, s, t, p, l, Ai, ni, ci, e, hlt, h2, g _ _ (f 0 (by omega)), g _ _ (f 1 (by omega)), g _ _ (f 2 (by omega)), g _ _ (f 3 (by omega)), g _ _ (f 4 (by omega)), h.row i _ _ h1 h2⟩
theorem termsS_len {y : Sy} (h : y.2.2.2.length ≤ 1000) : (termsS y).length ≤ 1001 := by
  unfold termsS
  rw [List.length_append]
  split <;> simp <;> omega
theorem termsSs_len : ∀ L : List Sy, (∀ y ∈ L, y.2.2.2.length ≤ 1000) → (L.flatMap termsS).length ≤ 1001 * L.length
  | [], _ => by simp
  | y :: L, h => by
    have h1 := termsSs_len L fun x hx => h x (List.mem_cons_of_mem _ hx)
    have h2 := termsS_len (h y (List.mem_cons_self ..))
    rw [List.flatMap_cons, List.length_append, List.length_cons]
    omega
set_option maxRecDepth 100000 in
set_option maxHeartbeats 16000000 in
theorem rTerms_any (sd : Bool) (tm : Tm) (p : UInt32) (Ai : Option Addr) (ni ci : Nat) (as_ : List Tm) (Bi : Option Addr) (mi di : Nat) (Ri : List SlA) (M : List Co) (w : World) (hta : RdT w w.heap.size Ai ni as_) (hka : RdK w w.heap.size Bi mi Ri M) (hni : ni ≤ 1000) (hmi : mi ≤ 1000) (hMM : ∀ x ∈ M, x.2.2.2.2.length ≤ 1000) :
    Calls Tryz.prog 42 #[.agg #[.bool sd, .bool tm.1, nv tm.2, nv p, .slice Ai ni ci, .slice Bi mi di]] w fun e w' => ∃ (A' : Option Addr) (n' c' : Nat), e = .returned (.slice A' n' c') ∧ RdT w' w'.heap.size A' n' (termsR ((sd, tm, (p, as_)), M)) ∧ n' ≤ 2000000 ∧ Below w.heap.size w w' := by
  obtain ⟨W, hW, hb, hbw⟩ := box6 w [.bool sd, .bool tm.1, nv tm.2, nv p, .slice Ai ni ci, .slice Bi mi di] 54
  have HW := Lib.hid hW
  have HBk := Lib.hid hb
  have k0 := hb.read (Below.refl _ _) 0 rfl
  have k1 := hb.read (Below.refl _ _) 1 rfl
  have k2 := hb.read (Below.refl _ _) 2 rfl
  have k3 := hb.read (Below.refl _ _) 3 rfl
  have k4 := hb.read (Below.refl _ _) 4 rfl
  have HB := Lib.hid hbw
  have HTA := Lib.hid hta
  have HKA := Lib.hid hka
  have HMM := Lib.hid hMM
  have hlit := run_litY sd tm.1 tm.2 p Ai ni ci W
  clear hW hb hta hka hMM
  have hws := hbw.size
  clear hbw
  go_enter Tryz.func42, Tryz.ntmps42
  go_upto_region 1 with (fail)
  rw [← HW.out]
  repeat (first | go_skip | go_guarded | go_step)
  go_loopw [3, 4] (fun pp q wr => ∃ (i : Nat) (A' : Option Addr) (c' : Nat) (R' : List SlA), i ≤ mi ∧ pp = .slice A' (i + 1 : Nat) c' ∧ q = .int .i64 (i : Int) ∧ OwY wr W.heap.size A' c' (i + 1) w R' ((sd, tm, (p, as_)) :: (M.take i).map (·.2)) ∧ Below W.heap.size W wr) (fun _ q _ => mi - (intOf q).toNat)
  case atStart => exact ⟨0, _, 1, _, by omega, rfl, rfl, OwY.lit W w W.heap.size (Nat.le_refl _) sd tm p Ai ni ci as_ HTA.out, (Below.refl _ _).alloc (Nat.le_refl _) _⟩
  case round =>
    rename World => wr
    obtain ⟨i, A', c', R', hi, rfl, rfl, hoy, hbr⟩ := hrel
    have HOY := Lib.hid hoy
    have HBR := Lib.hid hbr
    have HWR := Lib.hid (HB.out.trans (hbr.mono hws))
    have i5 := HBk.out.read hbr 5 rfl
    have hrs := hbr.size
    clear hoy hbr k0 k1 k2 k3 k4 hlit
    by_cases hlt : i < mi
    · have hci : (i : Int) < (mi : Int) := by omega
      obtain ⟨b2, o2, ng, s2, x2, q2, l2, Ai2, ni2, ci2, hA2, hbb2, hx2, hc0, hc1, hc2, hc3, hc4, hc5, hrow⟩ := HKA.out.at_ hlt
      subst hA2
      have e1 := (HWR.out.cell hbb2).trans hc1
      have e2 := (HWR.out.cell hbb2).trans hc2
      have e3 := (HWR.out.cell hbb2).trans hc3
      have e4 := (HWR.out.cell hbb2).trans hc4
      have e5 := (HWR.out.cell hbb2).trans hc5
      have HX := Lib.hid hx2
      have HROW := Lib.hid hrow
      have hlit2 := run_litY s2 x2.1 x2.2 q2 Ai2 ni2 ci2 wr
      have hbZ : Below wr.heap.size wr (wr.alloc (.cells #[.bool s2, .bool x2.1, nv x2.2, nv q2, .slice Ai2 ni2 ci2] 51)) := (Below.refl _ _).alloc (Nat.le_refl _) _
      have HOZ := Lib.hid (HOY.out.later hbZ)
      have HKZ := Lib.hid (HBR.out.trans (hbZ.mono hrs))
      have HRZ := Lib.hid (show Rd (wr.alloc (.cells #[.bool s2, .bool x2.1, nv x2.2, nv q2, .slice Ai2 ni2 ci2] 51)) (wr.alloc (.cells #[.bool s2, .bool x2.1, nv x2.2, nv q2, .slice Ai2 ni2 ci2] 51)).heap.size 5 (some ⟨wr.heap.size, 0, none⟩) 1 (syC ((s2, x2, (q2, l2)), (Ai2, ni2, ci2))) from
        ⟨rfl, fun _ => ⟨_, 0, rfl, (Bk.new wr 51 [.bool s2, .bool x2.1, nv x2.2, nv q2, .slice Ai2 ni2 ci2]).lt, fun j u hu => by rw [Nat.zero_add, (Bk.new wr 51 [.bool s2, .bool x2.1, nv x2.2, nv q2, .slice Ai2 ni2 ci2]).cell]; exact hu⟩⟩)
      have hZs : W.heap.size ≤ (wr.alloc (.cells #[.bool s2, .bool x2.1, nv x2.2, nv q2, .slice Ai2 ni2 ci2] 51)).heap.size := HKZ.out.size
      clear hx2 hrow hc0 hc1 hc2 hc3 hc4 hc5 hbZ
      repeat (first
        | (at_builtin; refine appSy _ rfl (.tmp 17) (.tmp 24) rfl W.heap.size A' c' (i + 1) w R' _ rfl HOZ.out _ _ 1 (s2, x2, (q2, l2)) (Ai2, ni2, ci2) rfl HRZ.out (by omega) hZs HROW.out ?_
           intro A3 c3 Z hoZ hgZ
           have HK5 := Lib.hid (show Below W.heap.size W Z from HKZ.out.grown hgZ hZs (fun k hk => (HOZ.out.top.lt k hk).1))
           have HO5 := Lib.hid hoZ
           clear hoZ hgZ hlit2)
        | go_skip | go_guarded | go_step)
      go_roundw
      case rel => exact ⟨i + 1, A3, c3, _, by omega, rfl, by go_num, by
        have h := HO5.out
        rw [List.take_add_one, HX.out, List.map_append]
        exact h, HK5.out⟩
      case measure => simp [intOf]; omega
    · obtain rfl : i = mi := by omega
      have hci : ¬ (i : Int) < (i : Int) := by omega
      have HML := Lib.hid (show M.take i = M from List.take_of_length_le (by rw [HKA.out.lenL]; exact Nat.le_refl _))
      have HOY2 := Lib.hid (show OwY wr W.heap.size A' c' (i + 1) w R' ((sd, tm, (p, as_)) :: M.map (·.2)) by have h := HOY.out; rw [HML.out] at h; exact h)
      obtain ⟨L, hL⟩ : ∃ L : List Sy, L = (sd, tm, (p, as_)) :: M.map (·.2) := ⟨_, rfl⟩
      have HLl := Lib.hid (show (∀ y ∈ L, y.2.2.2.length ≤ 1000) by
        intro y hy
        rw [hL] at hy
        rcases List.mem_cons.1 hy with rfl | hy
        · show as_.length ≤ 1000
          rw [rdT_len HTA.out]; exact hni
        · obtain ⟨x, hx, rfl⟩ := List.mem_map.1 hy
          exact HMM.out x hx)
      have HLT := Lib.hid (show L.flatMap termsS = termsR ((sd, tm, (p, as_)), M) by
        rw [hL, List.flatMap_cons, List.flatMap_map]
        rfl)
      rw [← hL] at HOY2
      clear hL HOY HML
      obtain ⟨n0, hn0⟩ : ∃ n0, n0 = i + 1 := ⟨_, rfl⟩
      have hn01 : n0 ≤ 1001 := by omega
      rw [← hn0] at HOY2 ⊢
      clear hn0
      repeat (first | go_skip | go_guarded | go_step)
      go_loopw [5, 6] (fun pp q wr2 => ∃ (k : Nat) (A2 : Option Addr) (m c2 : Nat), k ≤ n0 ∧ pp = .slice A2 m c2 ∧ q = .int .i64 (k : Int) ∧ OwT wr2 wr.heap.size A2 c2 m ((L.take k).flatMap termsS) ∧ Below wr.heap.size wr wr2) (fun _ q _ => n0 - (intOf q).toNat)
      case atStart => exact ⟨0, none, 0, 0, by omega, rfl, rfl, World.ownsRow_nil _ _ _ _, Below.refl _ _⟩
      case round =>
        rename World => wr2
        obtain ⟨k, A2, m, c2, hk, rfl, rfl, hot, hbr2⟩ := hrel
        have hmlen := rdT_len (OwT.rd hot)
        have hm : m ≤ 1001 * k := by
          have h1 := termsSs_len (L.take k) (fun y hy => HLl.out y (List.mem_of_mem_take hy))
          have h2 : (L.take k).length ≤ k := by simp; omega
          have h3 : 1001 * (L.take k).length ≤ 1001 * k := Nat.mul_le_mul_left _ h2
          omega
        have HOT := Lib.hid hot
        have HB2 := Lib.hid hbr2
        have hrs2 := hbr2.size
        clear hot hmlen
        by_cases hltk : k < n0
        · have hck : (k : Int) < (n0 : Int) := by omega
          obtain ⟨b, o, s2, t2, q2, l2, Ak, nk, ck, hA2, hblt, hx2, f0, f1, f2, f3, f4, hrow⟩ := HOY2.out.at_ (Below.refl _ _) hltk
          subst hA2
          have g0 := (HB2.out.cell hblt).trans f0
          have g1 := (HB2.out.cell hblt).trans f1
          have g2 := (HB2.out.cell hblt).trans f2
          have g4 := (HB2.out.cell hblt).trans f4
          have HF4 := Lib.hid f4
          have HX := Lib.hid hx2
          have hnk : nk ≤ 1000 := by
            have h1 := HLl.out _ (List.mem_of_getElem? hx2)
            have h2 := rdT_len hrow
            dsimp only at h1
            omega
          have HROW := Lib.hid hrow
          have HWR2 := Lib.hid (HWR.out.trans (hbr2.mono HWR.out.size))
          clear hx2 hrow hbr2 f0 f1 f2 f3 f4
          cases s2 with
          | true =>
            have hlit3 := run_litTm (.bool t2.1) (nv t2.2) wr2
            have hbZ : Below wr2.heap.size wr2 (wr2.alloc (.cells #[.bool t2.1, nv t2.2] 46)) := (Below.refl _ _).alloc (Nat.le_refl _) _
            have HOZ := Lib.hid (show OwT (wr2.alloc (.cells #[.bool t2.1, nv t2.2] 46)) wr.heap.size A2 c2 m ((L.take k).flatMap termsS) from ownBelow HOT.out hbZ (Nat.le_refl _))
            have HKZ := Lib.hid (HB2.out.trans (hbZ.mono hrs2))
            have HRZ := Lib.hid (tmBk_rd (tm := t2) (Bk.new wr2 46 [.bool t2.1, nv t2.2]))
            have hZs : wr.heap.size ≤ (wr2.alloc (.cells #[.bool t2.1, nv t2.2] 46)).heap.size := HKZ.out.size
            clear hbZ
            go_upto_region 11 with (fail)
            repeat (first
              | (at_builtin; refine appTt _ rfl (.tmp 37) (.tmp 43) rfl wr.heap.size A2 c2 m _ rfl HOZ.out _ _ 1 1 [t2] rfl HRZ.out (by omega) hZs ?_
                 intro A3 c3 Z hoZ hgZ
                 have HK5 := Lib.hid (show Below wr.heap.size wr Z from HKZ.out.grown hgZ hZs (fun j hj => (HOZ.out.lt j hj).1))
                 have HO5 := Lib.hid hoZ
                 have y4 := (HK5.out.cell hblt).trans HF4.out
                 have HWZ := Lib.hid (HWR.out.trans (HK5.out.mono HWR.out.size))
                 have HRR := Lib.hid ((HROW.out.below HWZ.out).more HWZ.out.size)
                 have hZs2 : wr.heap.size ≤ Z.heap.size := HK5.out.size
                 clear hoZ hgZ hlit3 g0 g1 g2 g4)
              | (at_builtin; refine appTt _ rfl (.tmp 45) (.tmp 51) rfl wr.heap.size A3 c3 (m + 1) _ rfl HO5.out _ _ nk ck l2 rfl HRR.out (by omega) hZs2 ?_
                 intro A4 c4 Z2 hoZ2 hgZ2
                 have HK6 := Lib.hid (show Below wr.heap.size wr Z2 from HK5.out.grown hgZ2 hZs2 (fun j hj => (HO5.out.lt j hj).1))
                 have HO6 := Lib.hid hoZ2
                 clear hoZ2 hgZ2)
              | go_skip | go_guarded | go_step)
            go_roundw
            case rel => exact ⟨k + 1, A4, m + 1 + nk, c4, by omega, rfl, by go_num, by
              have h := HO6.out
              rw [List.take_add_one, HX.out, List.flatMap_append]
              simpa [termsS] using h, HK6.out⟩
            case measure => simp [intOf]; omega
          | false =>
            have HRR := Lib.hid ((HROW.out.below HWR2.out).more HWR2.out.size)
            repeat (first
              | (at_builtin; refine appTt _ rfl (.tmp 45) (.tmp 51) rfl wr.heap.size A2 c2 m _ rfl HOT.out _ _ nk ck l2 rfl HRR.out (by omega) hrs2 ?_
                 intro A4 c4 Z2 hoZ2 hgZ2
                 have HK6 := Lib.hid (show Below wr.heap.size wr Z2 from HB2.out.grown hgZ2 hrs2 (fun j hj => (HOT.out.lt j hj).1))
                 have HO6 := Lib.hid hoZ2
                 clear hoZ2 hgZ2)
              | go_skip | go_guarded | go_step)
            go_roundw
            case rel => exact ⟨k + 1, A4, m + nk, c4, by omega, rfl, by go_num, by
              have h := HO6.out
              rw [List.take_add_one, HX.out, List.flatMap_append]
              simpa [termsS] using h, HK6.out⟩
            case measure => simp [intOf]; omega
        · obtain rfl : k = n0 := by omega
          have hck : ¬ (k : Int) < (k : Int) := by omega
          clear hbr2
          have hfull : L.take k = L := List.take_of_length_le (by rw [HOY2.out.lenL]; exact Nat.le_refl _)
          have HOF := Lib.hid (show RdT wr2 wr2.heap.size A2 m (termsR ((sd, tm, (p, as_)), M)) by have h := OwT.rd HOT.out; rw [hfull, HLT.out] at h; exact h)
          clear hfull
          repeat (first | go_skip | go_guarded | go_step)
          go_ret
          exact ⟨A2, m, c2, rfl, HOF.out, by omega, HWR.out.trans (HB2.out.mono HWR.out.size)⟩
end Go.Proofs.YtoigpbajefkpoaaGreatDoor

