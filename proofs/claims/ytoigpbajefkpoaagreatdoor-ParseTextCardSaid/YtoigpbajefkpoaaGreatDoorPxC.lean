/- Texts, packed: PaN SyC SyP SyV -/
import Derived.Test.YtoigpbajefkpoaaGreatDoorPxB
import Derived.Orders
import Derived.RegionTactic
import Derived.Maps.OwnSet
import Derived.Maps.OwnOps
import Derived.StringKeys
import Derived.Test.YtoigpbajefkpoaaGreatDoorPxA
import Derived.Lib.Strings
import Derived.Lib.Walk
import Derived.Lib.BufferWrite
import Derived.Lib.UnsafeStr
import Derived.Laws.MakeOwn
set_option linter.unusedVariables false
set_option linter.unusedSimpArgs false
namespace Go.Proofs.YtoigpbajefkpoaaGreatDoor
open Go Go.RowKit

theorem bindE_ok {α β : Type} {x : Except PE (α × PS)} {f : α → PS → Except PE (β × PS)} {y : β × PS} (h : bindE x f = .ok y) : ∃ a s, x = .ok (a, s) ∧ f a s = .ok y := by
 cases x with
 | error z => simp [bindE] at h
 | ok z => exact ⟨z.1, z.2, rfl, h⟩
theorem bindE_of {α β : Type} {x : Except PE (α × PS)} {f : α → PS → Except PE (β × PS)} {a : α} {s : PS} (h : x = .ok (a, s)) : bindE x f = f a s := by rw [h]; rfl
theorem kindE_app {l : List Wd} (h : l ≠ []) (l2 : List Wd) : kindE (l ++ l2) = kindE l := by
 cases l with
 | nil => exact absurd rfl h
 | cons w t => rfl
theorem tail_app {l : List Wd} (h : l ≠ []) (l2 : List Wd) : (l ++ l2).tail = l.tail ++ l2 := by
 cases l with
 | nil => exact absurd rfl h
 | cons w t => rfl
theorem kindE_ne {l : List Wd} {k : Nat} (h : kindE l = k) (hk : k ≠ 0) : l ≠ [] := by
 rintro rfl
 exact hk h.symm
/-- What one word is taken by. -/
def Took1 {α : Type} (f : Nat → PS → Except PE (α × PS)) : Prop :=
 ∀ sz l N V v r N' V', f sz (l, N, V) = .ok (v, (r, N', V')) → ∃ w, l = w :: r ∧ ∀ sz' l2, f sz' (l ++ l2, N, V) = .ok (v, (r ++ l2, N', V'))
/-- What words are taken by: with others behind them the same is taken, if one is left. -/
def Took {α : Type} (f : Nat → PS → Except PE (α × PS)) : Prop :=
 ∀ sz l N V v r N' V', f sz (l, N, V) = .ok (v, (r, N', V')) → (∃ w u, l = w :: (u ++ r)) ∧ (r ≠ [] → ∀ sz' l2, f sz' (l ++ l2, N, V) = .ok (v, (r ++ l2, N', V')))
theorem took_word (k : Nat) (hk : k ≠ 0) : Took1 (fun sz s => wordE sz k s) := by
 intro sz l N V v r N' V' h
 cases l with
 | nil =>
  have : ¬ ((0 : Nat) = k) := fun e => hk e.symm
  simp [wordE, kindE, this] at h
 | cons w t =>
  by_cases hw : w.1 = k
  ·
   simp [wordE, kindE, hw, nextE] at h
   obtain ⟨rfl, rfl, rfl, rfl⟩ := h
   exact ⟨w, rfl, fun sz' l2 => by simp [wordE, kindE, hw, nextE, txE]⟩
  ·
   simp [wordE, kindE, hw] at h
theorem took_name : Took1 nameE := by
 intro sz l N V v r N' V' h
 cases l with
 | nil => simp [nameE, kindE] at h
 | cons w t =>
  by_cases hw : w.1 = 1
  ·
   cases hf : findO N ⟨w.2.1.toArray⟩ with
   | some i =>
    simp [nameE, kindE, hw, nextE, txE, hf] at h
    obtain ⟨rfl, rfl, rfl, rfl⟩ := h
    exact ⟨w, rfl, fun sz' l2 => by simp [nameE, kindE, hw, nextE, txE, hf]⟩
   | none =>
    by_cases hl : 4096 ≤ N.length
    ·
     simp [nameE, kindE, hw, nextE, txE, hf, hl] at h
    ·
     simp [nameE, kindE, hw, nextE, txE, hf, hl] at h
     obtain ⟨rfl, rfl, rfl, rfl⟩ := h
     exact ⟨w, rfl, fun sz' l2 => by simp [nameE, kindE, hw, nextE, txE, hf, hl]⟩
  ·
   simp [nameE, kindE, hw] at h
theorem took_term : Took1 termE := by
 intro sz l N V v r N' V' h
 by_cases hw : kindE l = 2
 ·
  cases l with
  | nil => simp [kindE] at hw
  | cons w t =>
   have hw' : w.1 = 2 := hw
   cases hf : findO V ⟨w.2.1.toArray⟩ with
   | some i =>
    simp [termE, kindE, hw', nextE, txE, hf] at h
    obtain ⟨rfl, rfl, rfl, rfl⟩ := h
    exact ⟨w, rfl, fun sz' l2 => by simp [termE, kindE, hw', nextE, txE, hf]⟩
   | none =>
    by_cases hl : 16 ≤ V.length
    ·
     simp [termE, kindE, hw', nextE, txE, hf, hl] at h
    ·
     simp [termE, kindE, hw', nextE, txE, hf, hl] at h
     obtain ⟨rfl, rfl, rfl, rfl⟩ := h
     exact ⟨w, rfl, fun sz' l2 => by simp [termE, kindE, hw', nextE, txE, hf, hl]⟩
 ·
  unfold termE at h
  rw [if_neg hw] at h
  obtain ⟨i, s1, h1, h2⟩ := bindE_ok h
  obtain ⟨r1, N1, V1⟩ := s1
  obtain ⟨w, rfl, hq⟩ := took_name _ _ _ _ _ _ _ _ h1
  simp only [Except.ok.injEq, Prod.mk.injEq] at h2
  obtain ⟨rfl, rfl, rfl, rfl⟩ := h2
  refine ⟨w, rfl, fun sz' l2 => ?_⟩
  unfold termE
  rw [if_neg (by rw [kindE_app (by simp)]; exact hw), hq sz' l2]
  rfl
theorem took_args : ∀ (n : Nat) (acc : List Tm), Took (fun sz s => argsE sz n acc s)
 | 0, acc => by
  intro sz l N V v r N' V' h
  simp [argsE] at h
 | n + 1, acc => by
  intro sz l N V v r N' V' h
  dsimp only at h
  rw [argsE] at h
  by_cases h6 : acc.length = 6 ∧ (kindE l = 1 ∨ kindE l = 2)
  ·
   rw [if_pos h6] at h; cases h
  ·
   rw [if_neg h6] at h
   obtain ⟨t, ⟨r1, N1, V1⟩, h1, h2⟩ := bindE_ok h
   obtain ⟨w, rfl, hq⟩ := took_term _ _ _ _ _ _ _ _ h1
   dsimp only at h2
   by_cases h7 : kindE r1 = 7
   ·
    rw [if_pos h7] at h2
    have hr1 := kindE_ne h7 (by omega)
    obtain ⟨⟨w2, u2, he⟩, hk⟩ := took_args n (acc ++ [t]) _ _ _ _ _ _ _ _ h2
    dsimp only at he
    refine ⟨⟨w, r1.head hr1 :: w2 :: u2, ?_⟩, fun hr sz' l2 => ?_⟩
    ·
     congr 1
     show r1 = r1.head hr1 :: (w2 :: (u2 ++ r))
     rw [← he, List.cons_head_tail]
    ·
     dsimp only
     rw [argsE, if_neg (by rw [kindE_app (by simp)]; exact h6), hq sz' l2, bindE_of rfl, if_pos (by dsimp only; rw [kindE_app hr1]; exact h7)]
     have := hk hr sz' l2
     dsimp only [nextE] at this ⊢
     rw [tail_app hr1]
     exact this
   ·
    rw [if_neg h7] at h2
    obtain ⟨y, ⟨r2, N2, V2⟩, h3, h4⟩ := bindE_ok h2
    obtain ⟨w2, rfl, hq2⟩ := took_word 6 (by omega) _ _ _ _ _ _ _ _ h3
    simp only [Except.ok.injEq, Prod.mk.injEq] at h4
    obtain ⟨rfl, rfl, rfl, rfl⟩ := h4
    refine ⟨⟨w, [w2], rfl⟩, fun hr sz' l2 => ?_⟩
    dsimp only
    rw [argsE, if_neg (by rw [kindE_app (by simp)]; exact h6), hq sz' l2, bindE_of rfl, if_neg (by dsimp only; rw [kindE_app (by simp)]; exact h7)]
    have := hq2 sz' l2
    dsimp only at this
    rw [bindE_of this]
theorem took_atom : Took atomE := by
 intro sz l N V v r N' V' h
 unfold atomE at h
 obtain ⟨p, ⟨r1, N1, V1⟩, h1, h2⟩ := bindE_ok h
 obtain ⟨w, rfl, hq⟩ := took_name _ _ _ _ _ _ _ _ h1
 dsimp only at h2
 by_cases h5 : kindE r1 = 5
 ·
  rw [if_pos h5] at h2
  have hr1 := kindE_ne h5 (by omega)
  obtain ⟨y, ⟨r2, N2, V2⟩, h3, h4⟩ := bindE_ok h2
  obtain ⟨⟨w2, u2, he⟩, hk⟩ := took_args 7 [] _ _ _ _ _ _ _ _ h3
  simp only [Except.ok.injEq, Prod.mk.injEq] at h4
  obtain ⟨rfl, rfl, rfl, rfl⟩ := h4
  dsimp only at he
  refine ⟨⟨w, r1.head hr1 :: w2 :: u2, ?_⟩, fun hr sz' l2 => ?_⟩
  ·
   congr 1
   show r1 = r1.head hr1 :: (w2 :: (u2 ++ _))
   rw [← he, List.cons_head_tail]
  ·
   unfold atomE
   rw [hq sz' l2, bindE_of rfl, if_pos (by dsimp only; rw [kindE_app hr1]; exact h5)]
   have := hk hr sz' l2
   dsimp only [nextE] at this ⊢
   rw [tail_app hr1, bindE_of this]
 ·
  rw [if_neg h5] at h2
  simp only [Except.ok.injEq, Prod.mk.injEq] at h2
  obtain ⟨rfl, rfl, rfl, rfl⟩ := h2
  refine ⟨⟨w, [], rfl⟩, fun hr sz' l2 => ?_⟩
  unfold atomE
  rw [hq sz' l2, bindE_of rfl, if_neg (by dsimp only; rw [kindE_app hr]; exact h5)]
theorem took_say : Took sayE := by
 intro sz l N V v r N' V' h
 unfold sayE at h
 dsimp only at h
 by_cases hc : kindE l = 2 ∨ kindE l.tail = 4
 ·
  rw [if_pos hc] at h
  obtain ⟨t, ⟨r1, N1, V1⟩, h1, h2⟩ := bindE_ok h
  obtain ⟨w, rfl, hq⟩ := took_term _ _ _ _ _ _ _ _ h1
  obtain ⟨y, ⟨r2, N2, V2⟩, h3, h4⟩ := bindE_ok h2
  obtain ⟨w2, rfl, hq2⟩ := took_word 4 (by omega) _ _ _ _ _ _ _ _ h3
  obtain ⟨a, ⟨r3, N3, V3⟩, h5, h6⟩ := bindE_ok h4
  obtain ⟨⟨w3, u3, rfl⟩, hk⟩ := took_atom _ _ _ _ _ _ _ _ h5
  simp only [Except.ok.injEq, Prod.mk.injEq] at h6
  obtain ⟨rfl, rfl, rfl, rfl⟩ := h6
  refine ⟨⟨w, w2 :: w3 :: u3, rfl⟩, fun hr sz' l2 => ?_⟩
  unfold sayE
  dsimp only
  rw [if_pos (by rw [kindE_app (by simp), tail_app (by simp), kindE_app (by simp)]; exact hc), hq sz' l2, bindE_of rfl]
  have := hq2 sz' l2
  dsimp only at this
  rw [bindE_of this, bindE_of (hk hr sz' l2)]
 ·
  rw [if_neg hc] at h
  obtain ⟨a, ⟨r1, N1, V1⟩, h1, h2⟩ := bindE_ok h
  obtain ⟨⟨w, u, rfl⟩, hk⟩ := took_atom _ _ _ _ _ _ _ _ h1
  simp only [Except.ok.injEq, Prod.mk.injEq] at h2
  obtain ⟨rfl, rfl, rfl, rfl⟩ := h2
  refine ⟨⟨w, u, rfl⟩, fun hr sz' l2 => ?_⟩
  unfold sayE
  dsimp only
  rw [if_neg (by rw [kindE_app (by simp), tail_app (by simp), kindE_app (by simp [hr])]; exact hc), bindE_of (hk hr sz' l2)]
theorem took_conds : ∀ (n : Nat) (acc : List Co), Took (fun sz s => condsE sz n acc s)
 | 0, acc => by
  intro sz l N V v r N' V' h
  simp [condsE] at h
 | n + 1, acc => by
  intro sz l N V v r N' V' h
  dsimp only at h
  rw [condsE] at h
  by_cases h8 : acc.length = 8 ∧ (kindE l = 3 ∨ kindE l = 1 ∨ kindE l = 2)
  ·
   rw [if_pos h8] at h; cases h
  ·
   rw [if_neg h8] at h
   obtain ⟨y, ⟨r1, N1, V1⟩, h1, h2⟩ := bindE_ok h
   dsimp only at h1 h2
   -- what comes behind a Not
   have hsay : (∃ w u, l = w :: (u ++ r1)) ∧ (r1 ≠ [] → ∀ sz' l2, sayE sz' (if kindE (l ++ l2) = 3 then ((l ++ l2).tail, N, V) else (l ++ l2, N, V)) = .ok (y, (r1 ++ l2, N1, V1)) ∧ kindE (l ++ l2) = kindE l) := by
    by_cases h3 : kindE l = 3
    ·
     rw [if_pos h3] at h1
     have hl := kindE_ne h3 (by omega)
     obtain ⟨⟨w, u, he⟩, hk⟩ := took_say _ _ _ _ _ _ _ _ h1
     refine ⟨⟨l.head hl, w :: u, ?_⟩, fun hr sz' l2 => ⟨?_, kindE_app hl _⟩⟩
     ·
      have : l = l.head hl :: l.tail := (List.cons_head_tail hl).symm
      rw [show l.tail = w :: (u ++ r1) from he] at this
      exact this
     ·
      rw [if_pos (by rw [kindE_app hl]; exact h3), tail_app hl]
      exact hk hr sz' l2
    ·
     rw [if_neg h3] at h1
     obtain ⟨⟨w, u, he⟩, hk⟩ := took_say _ _ _ _ _ _ _ _ h1
     have hl : l ≠ [] := by rw [he]; simp
     refine ⟨⟨w, u, he⟩, fun hr sz' l2 => ⟨?_, kindE_app hl _⟩⟩
     rw [if_neg (by rw [kindE_app hl]; exact h3)]
     exact hk hr sz' l2
   obtain ⟨⟨w, u, he⟩, hsy⟩ := hsay
   by_cases h7 : kindE r1 = 7
   ·
    rw [if_pos h7] at h2
    have hr1 := kindE_ne h7 (by omega)
    obtain ⟨⟨w2, u2, he2⟩, hk⟩ := took_conds n _ _ _ _ _ _ _ _ _ h2
    dsimp only at he2
    refine ⟨⟨w, u ++ r1.head hr1 :: w2 :: u2, ?_⟩, fun hr sz' l2 => ?_⟩
    ·
     rw [he]
     congr 1
     rw [List.append_assoc]
     congr 1
     show r1 = r1.head hr1 :: (w2 :: (u2 ++ r))
     rw [← he2, List.cons_head_tail]
    ·
     dsimp only
     obtain ⟨h10, h11⟩ := hsy hr1 sz' l2
     rw [condsE]
     dsimp only [nextE] at h10 ⊢
     rw [h11] at h10 ⊢
     rw [if_neg h8, h10, bindE_of rfl, if_pos (by dsimp only; rw [kindE_app hr1]; exact h7)]
     have := hk hr sz' l2
     dsimp only [nextE] at this ⊢
     rw [tail_app hr1]
     exact this
   ·
    rw [if_neg h7] at h2
    simp only [Except.ok.injEq, Prod.mk.injEq] at h2
    obtain ⟨rfl, rfl, rfl, rfl⟩ := h2
    refine ⟨⟨w, u, he⟩, fun hr sz' l2 => ?_⟩
    dsimp only
    obtain ⟨h10, h11⟩ := hsy hr sz' l2
    rw [condsE]
    dsimp only [nextE] at h10 ⊢
    rw [h11] at h10 ⊢
    rw [if_neg h8, h10, bindE_of rfl, if_neg (by dsimp only; rw [kindE_app hr]; exact h7)]
theorem took_rule : ∀ sz l N V v r N' V', ruleE sz (l, N, V) = .ok (v, (r, N', V')) → (∃ w u, l = w :: (u ++ r)) ∧ ∀ sz' l2 V2, ruleE sz' (l ++ l2, N, V2) = .ok (v, (r ++ l2, N', V')) := by
 intro sz l N V v r N' V' h
 unfold ruleE at h
 obtain ⟨hd, ⟨r1, N1, V1⟩, h1, h2⟩ := bindE_ok h
 obtain ⟨b, ⟨r2, N2, V2⟩, h3, h4⟩ := bindE_ok h2
 obtain ⟨y, ⟨r3, N3, V3⟩, h5, h6⟩ := bindE_ok h4
 simp only [Except.ok.injEq, Prod.mk.injEq] at h6
 obtain ⟨rfl, rfl, rfl, rfl⟩ := h6
 obtain ⟨⟨w, u, he⟩, hk1⟩ := took_say _ _ _ _ _ _ _ _ h1
 obtain ⟨w5, rfl, hk5⟩ := took_word 8 (by omega) _ _ _ _ _ _ _ _ h5
 unfold bodyE at h3
 dsimp only at h3
 by_cases h9 : kindE r1 = 9
 ·
  rw [if_pos h9] at h3
  have hr1 := kindE_ne h9 (by omega)
  obtain ⟨⟨w3, u3, he3⟩, hk3⟩ := took_conds 9 [] _ _ _ _ _ _ _ _ h3
  dsimp only at he3
  refine ⟨⟨w, u ++ r1.head hr1 :: w3 :: (u3 ++ [w5]), ?_⟩, fun sz' l2 V2 => ?_⟩
  ·
   dsimp only at he
   rw [he]
   congr 1
   rw [List.append_assoc]
   congr 1
   have h0 : r1 = r1.head hr1 :: r1.tail := (List.cons_head_tail hr1).symm
   rw [he3] at h0
   refine h0.trans ?_
   simp
  ·
   unfold ruleE
   have e1 := hk1 hr1 sz' l2
   dsimp only at e1 ⊢
   rw [bindE_of e1]
   have e3 := hk3 (by simp) sz' l2
   unfold bodyE
   dsimp only [nextE] at e3 ⊢
   rw [if_pos (by rw [kindE_app hr1]; exact h9), tail_app hr1, bindE_of e3]
   have e5 := hk5 sz' l2
   dsimp only at e5
   rw [bindE_of e5]
 ·
  rw [if_neg h9] at h3
  simp only [Except.ok.injEq, Prod.mk.injEq] at h3
  obtain ⟨rfl, rfl, rfl, rfl⟩ := h3
  refine ⟨⟨w, u ++ [w5], by dsimp only at he; rw [he]; simp⟩, fun sz' l2 V2 => ?_⟩
  unfold ruleE
  have e1 := hk1 (by simp) sz' l2
  dsimp only at e1 ⊢
  rw [bindE_of e1]
  unfold bodyE
  dsimp only
  rw [if_neg (by rw [kindE_app (by simp)]; exact h9), bindE_of rfl]
  have e5 := hk5 sz' l2
  dsimp only at e5
  rw [bindE_of e5]
end Go.Proofs.YtoigpbajefkpoaaGreatDoor

set_option linter.unusedVariables false
set_option linter.unusedSimpArgs false
namespace Go.Proofs.YtoigpbajefkpoaaGreatDoor
open Go Go.RowKit

/-- All orders of a drawn region end in one act and in worlds of which S is so; there the walk goes on, once. -/
theorem wpAny_meet {P : Program} {md : Region.Mode} {ops : Array Oper} {Q : Exit → Act → World → Prop} {fuel : Nat} {listed : Array Bool} {a : Act} {w : World} {b : Act} (S : World → Prop) (hc : ∀ V, S V → Q .normal b V)
  (h : (∀ V, S V → Q .normal b V) → wpAny P md ops Q fuel listed a w) : wpAny P md ops Q fuel listed a w := h hc
theorem anyd_loadStr {ops : Array Oper} {E : Prop} {o : Oper} {a : Act} {K : Act → World → Prop} {Q : Exit → Act → World → Prop} {w : World} (hwant : Region.wanted o (yielded ops a.tmps) = true) (x : Operand)
  (ho : o.op = .load 9 x) (b i : Nat) (v : Value) (hx : a.eval x = .pointer (some ⟨b, i, none⟩)) (hc : w.cell? ⟨b, i, none⟩ = some v)
  (h : K (a.put o.dst v) w) : if Region.wanted o (yielded ops a.tmps) = true then Oper.wp Tryz.prog o a w K Q else E := by
 rw [if_pos hwant]
 unfold Oper.wp execOp
 simp only [ho, hx]
 go_simp
 exact h
theorem rdS_at {w : World} {B n : Nat} {A : Option Addr} {l : List ByteArray} (h : Rd w B 1 A n (l.map sv)) {i : Nat} (hi : i < n) :
  ∃ b o s, A = some ⟨b, o, none⟩ ∧ b < B ∧ l[i]? = some s ∧ w.cell? ⟨b, o + i, none⟩ = some (sv s) := by
 have hl : l.length = n := by simpa using h.len1
 obtain ⟨b, o, u, hA, hb, hu, hc⟩ := h.at1 hi
 have hx : l[i]? = some (l[i]'(by omega)) := List.getElem?_eq_getElem _
 rw [List.getElem?_map, hx] at hu
 simp only [Option.map_some, Option.some.injEq] at hu
 subst hu
 exact ⟨b, o, _, hA, hb, hx, hc⟩
theorem take_same {a b : List ByteArray} {i : Nat} {x y : ByteArray} (h1 : a[i]? = some x) (h2 : b[i]? = some y) (h : a.take i = b.take i) (he : x = y) : a.take (i + 1) = b.take (i + 1) := by
 rw [List.take_add_one, List.take_add_one, h1, h2, h, he]

set_option maxRecDepth 100000 in
set_option maxHeartbeats 1000000 in
theorem rSame_any (A0 A1 : Option Addr) (n0 c0 n1 c1 : Nat) (B0 B1 : Nat) (l0 l1 : List ByteArray) (w : World) (h0 : Rd w B0 1 A0 n0 (l0.map sv)) (h1 : Rd w B1 1 A1 n1 (l1.map sv)) (hn0 : n0 ≤ 1000000) :
  Calls Tryz.prog 14 #[.slice A0 n0 c0, .slice A1 n1 c1] w fun e w' => e = .returned (.bool (decide (l0 = l1))) ∧ ∃ q, w' = w.drewN q := by
 have HL0 := Lib.hid (show l0.length = n0 by simpa using h0.len1)
 have HL1 := Lib.hid (show l1.length = n1 by simpa using h1.len1)
 have H0 := Lib.hid h0
 have H1 := Lib.hid h1
 clear h0 h1
 by_cases hn : n0 = n1
 ·
  subst hn
  have hd : ((n0 : Int) != (n0 : Int)) = false := by simp
  go_enter Tryz.func14, Tryz.ntmps14
  repeat go_step
  go_loopw [5] (fun p wr => ∃ i : Nat, i ≤ n0 ∧ p = .int .i64 (i : Int) ∧ l0.take i = l1.take i ∧ ∃ q, wr = w.drewN q) (fun p _ => n0 - (intOf p).toNat)
  case atStart => exact ⟨0, by omega, rfl, rfl, 0, rfl⟩
  case round =>
   obtain ⟨i, hi, rfl, htk, q, rfl⟩ := hrel
   by_cases hlt : i < n0
   ·
    have hci : (i : Int) < (n0 : Int) := by omega
    obtain ⟨b, o, s, hA, hb, hx, hc⟩ := rdS_at H0.out hlt
    obtain ⟨b', o', s', hA', hb', hx', hc'⟩ := rdS_at H1.out hlt
    subst hA hA'
    have HX := Lib.hid hx
    have HX' := Lib.hid hx'
    have HTK := Lib.hid htk
    obtain ⟨W, hW, hcw, hcw'⟩ : ∃ W, W = w.drewN q ∧ W.drew.cell? ⟨b, o + i, none⟩ = some (sv s) ∧ W.drew.cell? ⟨b', o' + i, none⟩ = some (sv s') := ⟨_, rfl, hc, hc'⟩
    have HWq := Lib.hid hW
    rw [← hW]
    have HC := Lib.hid hcw
    have HC' := Lib.hid hcw'
    clear hx hx' htk hc hc' hW hcw hcw'
    by_cases he : s = s'
    ·
     subst he
     repeat go_step
     refine wp_region_any (by kernel_rfl) ?_
     try (change wpAny _ _ _ _ _ _ _ (World.drew _))
     refine wpAny_meet (b := ?ad1) (fun V => V = World.drew W) ?cd1 ?rd1
     case rd1 =>
      intro hEnd
      have hf0 : World.drew W = World.drew W := rfl
      refine wpAny_take (i := 0) (oi := ?p2) (v := ?v2) ?a2 (by kernel_rfl) ?b2 ?c2 ?q2 ?y2 ?z2
      case a2 => (simp only [List.getElem?_toArray, List.getElem?_cons_succ, List.getElem?_cons_zero]; exact rfl)
      case b2 => kernel_rfl
      case c2 => kernel_rfl
      case q2 => exact fun _ _ _ h => h
      case y2 =>
       refine Or.inl ⟨by rfl, ?_⟩
       intro w
       go_simp
       (try with_reducible rfl)
      try simp only [Act.put, List.setIfInBounds_toArray, List.set_cons_zero, List.set_cons_succ]
      refine wpAny_take (i := 1) (oi := ?p3) (v := ?v3) ?a3 (by kernel_rfl) ?b3 ?c3 ?q3 ?y3 ?z3
      case a3 => (simp only [List.getElem?_toArray, List.getElem?_cons_succ, List.getElem?_cons_zero]; exact rfl)
      case b3 => kernel_rfl
      case c3 => kernel_rfl
      case q3 => exact fun _ _ _ h => h
      case y3 =>
       refine Or.inl ⟨by rfl, ?_⟩
       intro w
       go_simp
       (try with_reducible rfl)
      try simp only [Act.put, List.setIfInBounds_toArray, List.set_cons_zero, List.set_cons_succ]
      refine wpAny_take (i := 2) (oi := ?p4) (v := ?v4) ?a4 (by kernel_rfl) ?b4 ?c4 ?q4 ?y4 ?z4
      case a4 => (simp only [List.getElem?_toArray, List.getElem?_cons_succ, List.getElem?_cons_zero]; exact rfl)
      case b4 => kernel_rfl
      case c4 => kernel_rfl
      case q4 => exact fun _ _ _ h => h
      case y4 =>
       refine Or.inl ⟨by rfl, ?_⟩
       intro w
       go_simp
       (try with_reducible rfl)
      try simp only [Act.put, List.setIfInBounds_toArray, List.set_cons_zero, List.set_cons_succ]
      refine wpAny_take (i := 4) (oi := ?p5) (v := ?v5) ?a5 (by kernel_rfl) ?b5 ?c5 ?q5 ?y5 ?z5
      case a5 => (simp only [List.getElem?_toArray, List.getElem?_cons_succ, List.getElem?_cons_zero]; exact rfl)
      case b5 => kernel_rfl
      case c5 => kernel_rfl
      case q5 => exact fun _ _ _ h => h
      case y5 =>
       refine Or.inl ⟨by rfl, ?_⟩
       intro w
       go_simp
       (try with_reducible rfl)
      try simp only [Act.put, List.setIfInBounds_toArray, List.set_cons_zero, List.set_cons_succ]
      refine wpAny_take (i := 5) (oi := ?p6) (v := ?v6) ?a6 (by kernel_rfl) ?b6 ?c6 ?q6 ?y6 ?z6
      case a6 => (simp only [List.getElem?_toArray, List.getElem?_cons_succ, List.getElem?_cons_zero]; exact rfl)
      case b6 => kernel_rfl
      case c6 => kernel_rfl
      case q6 => exact fun _ _ _ h => h
      case y6 =>
       refine Or.inl ⟨by rfl, ?_⟩
       intro w
       go_simp
       (try with_reducible rfl)
      try simp only [Act.put, List.setIfInBounds_toArray, List.set_cons_zero, List.set_cons_succ]
      refine wpAny_take (i := 6) (oi := ?p7) (v := ?v7) ?a7 (by kernel_rfl) ?b7 ?c7 ?q7 ?y7 ?z7
      case a7 => (simp only [List.getElem?_toArray, List.getElem?_cons_succ, List.getElem?_cons_zero]; exact rfl)
      case b7 => kernel_rfl
      case c7 => kernel_rfl
      case q7 => exact fun _ _ _ h => h
      case y7 =>
       refine Or.inl ⟨by rfl, ?_⟩
       intro w
       go_simp
       (try with_reducible rfl)
      try simp only [Act.put, List.setIfInBounds_toArray, List.set_cons_zero, List.set_cons_succ]
      refine wpAny_ready (rs := [3, 7]) (by kernel_rfl) (by simp) ?_
      refine AllReady.cons (o := ?od8) ?hod8 (fun K hK => ?kd8) ?md8
      case hod8 => (simp only [List.getElem?_toArray, List.getElem?_cons_succ, List.getElem?_cons_zero]; exact rfl)
      case kd8 =>
       refine anyd_loadStr (by rfl) (.tmp 19) rfl b (o + i) _ (by rfl) HC.out ?_
       refine hK _ _ ?_
       clear hK K
       try simp only [Act.put, List.setIfInBounds_toArray, List.set_cons_zero, List.set_cons_succ]
       refine wpAny_ready (rs := [7]) (by kernel_rfl) (by simp) ?_
       refine AllReady.cons (o := ?od9) ?hod9 (fun K hK => ?kd9) ?md9
       case hod9 => (simp only [List.getElem?_toArray, List.getElem?_cons_succ, List.getElem?_cons_zero]; exact rfl)
       case kd9 =>
        refine anyd_loadStr (by rfl) (.tmp 23) rfl b' (o' + i) _ (by rfl) HC'.out ?_
        refine hK _ _ ?_
        clear hK K
        try simp only [Act.put, List.setIfInBounds_toArray, List.set_cons_zero, List.set_cons_succ]
        refine wpAny_take (i := 8) (oi := ?p10) (v := ?v10) ?a10 (by kernel_rfl) ?b10 ?c10 ?q10 ?y10 ?z10
        case a10 => (simp only [List.getElem?_toArray, List.getElem?_cons_succ, List.getElem?_cons_zero]; exact rfl)
        case b10 => kernel_rfl
        case c10 => kernel_rfl
        case q10 => exact fun _ _ _ h => h
        case y10 =>
         refine Or.inl ⟨by rfl, ?_⟩
         intro w
         go_simp
         (try with_reducible rfl)
        try simp only [Act.put, List.setIfInBounds_toArray, List.set_cons_zero, List.set_cons_succ]
        exact wpAny_done (by kernel_rfl) (hEnd _ hf0) _
       exact AllReady.nil
      refine AllReady.cons (o := ?od11) ?hod11 (fun K hK => ?kd11) ?md11
      case hod11 => (simp only [List.getElem?_toArray, List.getElem?_cons_succ, List.getElem?_cons_zero]; exact rfl)
      case kd11 =>
       refine anyd_loadStr (by rfl) (.tmp 23) rfl b' (o' + i) _ (by rfl) HC'.out ?_
       refine hK _ _ ?_
       clear hK K
       try simp only [Act.put, List.setIfInBounds_toArray, List.set_cons_zero, List.set_cons_succ]
       refine wpAny_ready (rs := [3]) (by kernel_rfl) (by simp) ?_
       refine AllReady.cons (o := ?od12) ?hod12 (fun K hK => ?kd12) ?md12
       case hod12 => (simp only [List.getElem?_toArray, List.getElem?_cons_succ, List.getElem?_cons_zero]; exact rfl)
       case kd12 =>
        refine anyd_loadStr (by rfl) (.tmp 19) rfl b (o + i) _ (by rfl) HC.out ?_
        refine hK _ _ ?_
        clear hK K
        try simp only [Act.put, List.setIfInBounds_toArray, List.set_cons_zero, List.set_cons_succ]
        refine wpAny_take (i := 8) (oi := ?p13) (v := ?v13) ?a13 (by kernel_rfl) ?b13 ?c13 ?q13 ?y13 ?z13
        case a13 => (simp only [List.getElem?_toArray, List.getElem?_cons_succ, List.getElem?_cons_zero]; exact rfl)
        case b13 => kernel_rfl
        case c13 => kernel_rfl
        case q13 => exact fun _ _ _ h => h
        case y13 =>
         refine Or.inl ⟨by rfl, ?_⟩
         intro w
         go_simp
         (try with_reducible rfl)
        try simp only [Act.put, List.setIfInBounds_toArray, List.set_cons_zero, List.set_cons_succ]
        exact wpAny_done (by kernel_rfl) (hEnd _ hf0) _
       exact AllReady.nil
      exact AllReady.nil
     case cd1 =>
      rintro V rfl
      repeat go_step
      go_roundw
      case rel => exact ⟨i + 1, by omega, by go_num, take_same HX.out HX'.out HTK.out rfl, q + 1, by rw [HWq.out]; rfl⟩
      case measure => simp [intOf]; omega
    ·
     have hq := neS he
     have HE := Lib.hid he
     clear he
     repeat go_step
     refine wp_region_any (by kernel_rfl) ?_
     try (change wpAny _ _ _ _ _ _ _ (World.drew _))
     refine wpAny_meet (b := ?ad14) (fun V => V = World.drew W) ?cd14 ?rd14
     case rd14 =>
      intro hEnd
      have hf0 : World.drew W = World.drew W := rfl
      refine wpAny_take (i := 0) (oi := ?p15) (v := ?v15) ?a15 (by kernel_rfl) ?b15 ?c15 ?q15 ?y15 ?z15
      case a15 => (simp only [List.getElem?_toArray, List.getElem?_cons_succ, List.getElem?_cons_zero]; exact rfl)
      case b15 => kernel_rfl
      case c15 => kernel_rfl
      case q15 => exact fun _ _ _ h => h
      case y15 =>
       refine Or.inl ⟨by rfl, ?_⟩
       intro w
       go_simp
       (try with_reducible rfl)
      try simp only [Act.put, List.setIfInBounds_toArray, List.set_cons_zero, List.set_cons_succ]
      refine wpAny_take (i := 1) (oi := ?p16) (v := ?v16) ?a16 (by kernel_rfl) ?b16 ?c16 ?q16 ?y16 ?z16
      case a16 => (simp only [List.getElem?_toArray, List.getElem?_cons_succ, List.getElem?_cons_zero]; exact rfl)
      case b16 => kernel_rfl
      case c16 => kernel_rfl
      case q16 => exact fun _ _ _ h => h
      case y16 =>
       refine Or.inl ⟨by rfl, ?_⟩
       intro w
       go_simp
       (try with_reducible rfl)
      try simp only [Act.put, List.setIfInBounds_toArray, List.set_cons_zero, List.set_cons_succ]
      refine wpAny_take (i := 2) (oi := ?p17) (v := ?v17) ?a17 (by kernel_rfl) ?b17 ?c17 ?q17 ?y17 ?z17
      case a17 => (simp only [List.getElem?_toArray, List.getElem?_cons_succ, List.getElem?_cons_zero]; exact rfl)
      case b17 => kernel_rfl
      case c17 => kernel_rfl
      case q17 => exact fun _ _ _ h => h
      case y17 =>
       refine Or.inl ⟨by rfl, ?_⟩
       intro w
       go_simp
       (try with_reducible rfl)
      try simp only [Act.put, List.setIfInBounds_toArray, List.set_cons_zero, List.set_cons_succ]
      refine wpAny_take (i := 4) (oi := ?p18) (v := ?v18) ?a18 (by kernel_rfl) ?b18 ?c18 ?q18 ?y18 ?z18
      case a18 => (simp only [List.getElem?_toArray, List.getElem?_cons_succ, List.getElem?_cons_zero]; exact rfl)
      case b18 => kernel_rfl
      case c18 => kernel_rfl
      case q18 => exact fun _ _ _ h => h
      case y18 =>
       refine Or.inl ⟨by rfl, ?_⟩
       intro w
       go_simp
       (try with_reducible rfl)
      try simp only [Act.put, List.setIfInBounds_toArray, List.set_cons_zero, List.set_cons_succ]
      refine wpAny_take (i := 5) (oi := ?p19) (v := ?v19) ?a19 (by kernel_rfl) ?b19 ?c19 ?q19 ?y19 ?z19
      case a19 => (simp only [List.getElem?_toArray, List.getElem?_cons_succ, List.getElem?_cons_zero]; exact rfl)
      case b19 => kernel_rfl
      case c19 => kernel_rfl
      case q19 => exact fun _ _ _ h => h
      case y19 =>
       refine Or.inl ⟨by rfl, ?_⟩
       intro w
       go_simp
       (try with_reducible rfl)
      try simp only [Act.put, List.setIfInBounds_toArray, List.set_cons_zero, List.set_cons_succ]
      refine wpAny_take (i := 6) (oi := ?p20) (v := ?v20) ?a20 (by kernel_rfl) ?b20 ?c20 ?q20 ?y20 ?z20
      case a20 => (simp only [List.getElem?_toArray, List.getElem?_cons_succ, List.getElem?_cons_zero]; exact rfl)
      case b20 => kernel_rfl
      case c20 => kernel_rfl
      case q20 => exact fun _ _ _ h => h
      case y20 =>
       refine Or.inl ⟨by rfl, ?_⟩
       intro w
       go_simp
       (try with_reducible rfl)
      try simp only [Act.put, List.setIfInBounds_toArray, List.set_cons_zero, List.set_cons_succ]
      refine wpAny_ready (rs := [3, 7]) (by kernel_rfl) (by simp) ?_
      refine AllReady.cons (o := ?od21) ?hod21 (fun K hK => ?kd21) ?md21
      case hod21 => (simp only [List.getElem?_toArray, List.getElem?_cons_succ, List.getElem?_cons_zero]; exact rfl)
      case kd21 =>
       refine anyd_loadStr (by rfl) (.tmp 19) rfl b (o + i) _ (by rfl) HC.out ?_
       refine hK _ _ ?_
       clear hK K
       try simp only [Act.put, List.setIfInBounds_toArray, List.set_cons_zero, List.set_cons_succ]
       refine wpAny_ready (rs := [7]) (by kernel_rfl) (by simp) ?_
       refine AllReady.cons (o := ?od22) ?hod22 (fun K hK => ?kd22) ?md22
       case hod22 => (simp only [List.getElem?_toArray, List.getElem?_cons_succ, List.getElem?_cons_zero]; exact rfl)
       case kd22 =>
        refine anyd_loadStr (by rfl) (.tmp 23) rfl b' (o' + i) _ (by rfl) HC'.out ?_
        refine hK _ _ ?_
        clear hK K
        try simp only [Act.put, List.setIfInBounds_toArray, List.set_cons_zero, List.set_cons_succ]
        refine wpAny_take (i := 8) (oi := ?p23) (v := ?v23) ?a23 (by kernel_rfl) ?b23 ?c23 ?q23 ?y23 ?z23
        case a23 => (simp only [List.getElem?_toArray, List.getElem?_cons_succ, List.getElem?_cons_zero]; exact rfl)
        case b23 => kernel_rfl
        case c23 => kernel_rfl
        case q23 => exact fun _ _ _ h => h
        case y23 =>
         refine Or.inl ⟨by rfl, ?_⟩
         intro w
         go_simp
         (try with_reducible rfl)
        try simp only [Act.put, List.setIfInBounds_toArray, List.set_cons_zero, List.set_cons_succ]
        exact wpAny_done (by kernel_rfl) (hEnd _ hf0) _
       exact AllReady.nil
      refine AllReady.cons (o := ?od24) ?hod24 (fun K hK => ?kd24) ?md24
      case hod24 => (simp only [List.getElem?_toArray, List.getElem?_cons_succ, List.getElem?_cons_zero]; exact rfl)
      case kd24 =>
       refine anyd_loadStr (by rfl) (.tmp 23) rfl b' (o' + i) _ (by rfl) HC'.out ?_
       refine hK _ _ ?_
       clear hK K
       try simp only [Act.put, List.setIfInBounds_toArray, List.set_cons_zero, List.set_cons_succ]
       refine wpAny_ready (rs := [3]) (by kernel_rfl) (by simp) ?_
       refine AllReady.cons (o := ?od25) ?hod25 (fun K hK => ?kd25) ?md25
       case hod25 => (simp only [List.getElem?_toArray, List.getElem?_cons_succ, List.getElem?_cons_zero]; exact rfl)
       case kd25 =>
        refine anyd_loadStr (by rfl) (.tmp 19) rfl b (o + i) _ (by rfl) HC.out ?_
        refine hK _ _ ?_
        clear hK K
        try simp only [Act.put, List.setIfInBounds_toArray, List.set_cons_zero, List.set_cons_succ]
        refine wpAny_take (i := 8) (oi := ?p26) (v := ?v26) ?a26 (by kernel_rfl) ?b26 ?c26 ?q26 ?y26 ?z26
        case a26 => (simp only [List.getElem?_toArray, List.getElem?_cons_succ, List.getElem?_cons_zero]; exact rfl)
        case b26 => kernel_rfl
        case c26 => kernel_rfl
        case q26 => exact fun _ _ _ h => h
        case y26 =>
         refine Or.inl ⟨by rfl, ?_⟩
         intro w
         go_simp
         (try with_reducible rfl)
        try simp only [Act.put, List.setIfInBounds_toArray, List.set_cons_zero, List.set_cons_succ]
        exact wpAny_done (by kernel_rfl) (hEnd _ hf0) _
       exact AllReady.nil
      exact AllReady.nil
     case cd14 =>
      rintro V rfl
      repeat go_step
      go_ret
      exact ⟨by rw [decide_eq_false (show ¬ l0 = l1 from fun e => HE.out (by have h1 := HX.out; rw [e, HX'.out] at h1; cases h1; rfl))]; rfl, q + 1, by rw [HWq.out]; rfl⟩
   ·
    obtain rfl : n0 = i := by omega
    rw [List.take_of_length_le (by have := HL0.out; omega), List.take_of_length_le (by have := HL1.out; omega)] at htk
    have HD := Lib.hid (decide_eq_true htk)
    clear htk
    go_wp2
    go_ret
    exact ⟨by rw [HD.out]; rfl, q, rfl⟩
 ·
  have hd : ((n0 : Int) != (n1 : Int)) = true := by simp; omega
  have HD := Lib.hid (decide_eq_false (show ¬ l0 = l1 from fun e => hn (by rw [← HL0.out, ← HL1.out, e])))
  go_enter Tryz.func14, Tryz.ntmps14
  go_wp2
  go_ret
  exact ⟨by rw [HD.out]; rfl, 0, rfl⟩

end Go.Proofs.YtoigpbajefkpoaaGreatDoor

set_option linter.unusedVariables false
set_option linter.unusedSimpArgs false
namespace Go.Proofs.YtoigpbajefkpoaaGreatDoor
open Go Go.RowKit Go.Maps

def keyL (s : ByteArray) : Lit := .string s.data.toList
theorem keyL_inj {a b : ByteArray} (h : keyL a = keyL b) : a = b := by
 cases a
 cases b
 simp only [keyL, Lit.string.injEq] at h
 congr 1
 exact Array.toList_inj.1 h
theorem key_law : Keyed Tryz.prog 9 := string_keyed Tryz.underlying9
theorem key_of {s : ByteArray} (hs : s.size ≤ maxLen) : keyOf Tryz.prog 9 (sv s) = some (keyL s) := Go.WideMaps.keyOf_string_mk Tryz.underlying9 hs
theorem zero_u32 (w : World) : (zeroValue 44).run Tryz.prog w = .ok (.int .u32 0) w := by kernel_rfl

/-- Block b is a map that tells of each name of l its place, and of no other one. -/
def MapIs (w : World) (b : Nat) (l : List ByteArray) : Prop :=
 ∃ D : DataW Unit, w.ownsMap Tryz.prog 9 (plainElem Tryz.prog 44) b l.length D ∧ ∀ s, has D (keyL s) = (findO l s).isSome ∧ ∀ k, findO l s = some k → ∀ z, D.atKey (keyL s) z = .lit (.int .u32 (k : Int))
theorem MapIs.lt {w : World} {b : Nat} {l : List ByteArray} (h : MapIs w b l) : b < w.heap.size := by
 obtain ⟨D, h1, _⟩ := h
 exact h1.lt
theorem MapIs.turn {G : Nat → Prop} {w w' : World} {b : Nat} {l : List ByteArray} (h : MapIs w b l) (ht : Turn G w w') (hn : ¬ G b) : MapIs w' b l := by
 obtain ⟨D, ⟨es, clock, hb, h1⟩, h2⟩ := h
 exact ⟨D, ⟨es, clock, (ht.block b (Array.getElem?_eq_some_iff.1 hb).1 hn).trans hb, h1⟩, h2⟩
theorem MapIs.made (w : World) : MapIs (w.alloc (.map #[] 0)) w.heap.size [] :=
 ⟨.map [], World.ownsMap_made w _ _ _, fun s => ⟨rfl, fun k hk => by simp [findO] at hk⟩⟩
theorem findO_append (l : List ByteArray) (s x : ByteArray) (hx : findO l x = none) : findO (l ++ [x]) s = if s = x then some l.length else findO l s := by
 unfold findO at hx ⊢
 rw [List.findIdx?_append]
 by_cases h : s = x
 ·
  subst h
  rw [hx]
  simp
 ·
  rw [if_neg h]
  have : List.findIdx? (fun y => decide (y = s)) [x] = none := by simp [Ne.symm h]
  rw [this]
  simp

/-- 'n, is := m[name]': a name that is there. -/
theorem look_is {ops : Array Oper} {rest : List Oper} {o : Oper} {a : Act} {Q : Exit → Act → World → Prop} (w : World) (hg : o.guard = none) (m x : Operand) (hop : o.op = Op.lookup 86 m x true)
  (b : Nat) (l : List ByteArray) (s : ByteArray) (k : Nat) (hm : a.eval m = .map (some b)) (hx : a.eval x = sv s) (hs : s.size ≤ maxLen) (h : MapIs w b l) (hf : findO l s = some k)
  (hK : wpList Tryz.prog ops Q rest (a.put o.dst (.tuple #[.int .u32 (k : Int), .bool true])) w) : wpList Tryz.prog ops Q (o :: rest) a w := by
 obtain ⟨D, h1, h2⟩ := h
 refine wpList_lookup_own_ok_int w hg m x _ hop 9 44 .u32 key_law Tryz.underlying86 Tryz.underlying44 (zero_u32 w) b _ D hm h1 (sv s) (keyL s) hx (key_of hs) ?_
 intro c hc _
 rw [(h2 s).2 k hf] at hc
 rw [(h2 s).1, hf]
 simp only [DataW.lit.injEq, Lit.int.injEq, true_and] at hc
 subst hc
 exact hK
/-- .. one that is not. -/
theorem look_not {ops : Array Oper} {rest : List Oper} {o : Oper} {a : Act} {Q : Exit → Act → World → Prop} (w : World) (hg : o.guard = none) (m x : Operand) (hop : o.op = Op.lookup 86 m x true)
  (b : Nat) (l : List ByteArray) (s : ByteArray) (hm : a.eval m = .map (some b)) (hx : a.eval x = sv s) (hs : s.size ≤ maxLen) (h : MapIs w b l) (hf : findO l s = none)
  (hK : wpList Tryz.prog ops Q rest (a.put o.dst (.tuple #[.int .u32 0, .bool false])) w) : wpList Tryz.prog ops Q (o :: rest) a w := by
 obtain ⟨D, h1, h2⟩ := h
 refine wpList_lookup_own_ok_int w hg m x _ hop 9 44 .u32 key_law Tryz.underlying86 Tryz.underlying44 (zero_u32 w) b _ D hm h1 (sv s) (keyL s) hx (key_of hs) ?_
 intro c hc _
 have hh := (h2 s).1
 rw [hf] at hh
 rw [atKey_of_not_has (by simpa using hh)] at hc
 rw [hh]
 simp only [DataW.lit.injEq, Lit.int.injEq, true_and] at hc
 subst hc
 exact hK
/-- 'm[name] = its number', of a new name. -/
theorem put_new {ops : Array Oper} {rest : List Oper} {o : Oper} {a : Act} {Q : Exit → Act → World → Prop} (w : World) (hg : o.guard = none) (m x v : Operand) (hop : o.op = Op.mapUpdate 86 m x v)
  (b : Nat) (l : List ByteArray) (s : ByteArray) (hm : a.eval m = .map (some b)) (hx : a.eval x = sv s) (hv : a.eval v = .int .u32 (l.length : Int)) (hs : s.size ≤ maxLen) (h : MapIs w b l) (hf : findO l s = none) (hl : l.length ≤ 1000000)
  (hK : ∀ w', MapIs w' b (l ++ [s]) → w.grownBy w' (some b) → wpList Tryz.prog ops Q rest (a.put o.dst undef) w') : wpList Tryz.prog ops Q (o :: rest) a w := by
 obtain ⟨D, h1, h2⟩ := h
 have hwf : (Lit.int .u32 (l.length : Int)).wf = true := by
  have e1 : IntKind.u32.min = 0 := rfl
  have e2 : IntKind.u32.max = 4294967295 := rfl
  simp only [Lit.wf, Bool.and_eq_true, decide_eq_true_eq]
  omega
 refine wpList_mapUpdate_own w hg m x v _ hop 9 44 key_law Tryz.underlying86 (plainElem Tryz.prog 44) b _ D hm h1 (by simp only [maxLen]; omega) (sv s) _ (keyL s) hx hv (key_of hs) (.lit (.int .u32 (l.length : Int))) [] (plainElem_int Tryz.underlying44 hwf) ?_
 intro w' h3 h4
 refine hK w' ⟨_, by simpa using h3, fun t => ?_⟩ h4
 rw [findO_append l t s hf]
 by_cases ht : t = s
 ·
  subst ht
  rw [if_pos rfl]
  refine ⟨has_put_same (World.ownsMap.isMap h1) (by trivial) _, fun k hk z => ?_⟩
  simp only [Option.some.injEq] at hk
  subst hk
  exact atKey_put_same (World.ownsMap.isMap h1) (by trivial) _ z
 ·
  have hne : keyL t ≠ keyL s := fun e => ht (keyL_inj e)
  rw [if_neg ht]
  refine ⟨by rw [has_put_other hne]; exact (h2 t).1, fun k hk z => ?_⟩
  rw [atKey_put_other hne]
  exact (h2 t).2 k hk z
end Go.Proofs.YtoigpbajefkpoaaGreatDoor

set_option linter.unusedVariables false
set_option linter.unusedSimpArgs false
namespace Go.Proofs.YtoigpbajefkpoaaGreatDoor
open Go Go.RowKit

theorem byteInfo : (Tryz.prog.info? 5).map (fun i => (i.zero, i.size, i.bytes)) = some (some (.int .u8 0), 1, 1) := by kernel_rfl

set_option maxHeartbeats 1000000 in
set_option maxRecDepth 100000 in
theorem lclone_any (s : ByteArray) (w : World) (hs : s.size ≤ 1099511627776) :
  Calls Tryz.prog 76 #[sv s] w fun e w' => e = .returned (sv s) ∧ Below w.heap.size w w' := by
 by_cases h0 : s.size = 0
 ·
  obtain rfl : s = ⟨#[]⟩ := ByteArray.ext (Array.eq_empty_of_size_eq_zero h0)
  go_enter Tryz.func76, Tryz.ntmps76
  go_wp2
  go_ret
  exact ⟨rfl, Below.refl _ _⟩
 ·
  obtain ⟨i0, hi, hz0, hz1, hz2⟩ := info_parts byteInfo
  have hi1 : (Tryz.prog.info? 5).map (·.size) = some 1 := by rw [hi]; simp [hz1]
  have hco : Tryz.prog.cellsOf 5 = 1 := by simp [Program.cellsOf, hi, hz1]
  obtain ⟨M, hM⟩ : ∃ M, M = madeCells (Value.int .u8 0).cells (((s.size : Nat) : Int).toNat * i0.size) := ⟨_, rfl⟩
  have hMs : M.size = s.size := by rw [hM, size_madeCells, hz1]; simp
  have hmk : ∀ W : World, (Instr.makeSlice 91 (.int .i64 (s.size : Int)) (.int .i64 (s.size : Int))).run Tryz.prog W = .ok (.slice (some ⟨W.heap.size, 0, none⟩) s.size s.size) (W.alloc (.cells M 5)) := fun W => by
   have h := run_make (P := Tryz.prog) W 91 5 i0 (.int .u8 0) Tryz.underlying91 hi hz0 .i64 .i64 (s.size : Int) (s.size : Int) (by omega) (by omega) (by rw [hz2]; omega) (by omega)
   rw [← hM] at h
   simpa using h
  clear hM
  have hcp := Lib.run_copy_row_string (P := Tryz.prog) (w.alloc (.cells M 5)) 91 9 3 5 w.heap.size 0 s.size s.size s M 5 Tryz.underlying91 hi1 (heap_alloc_new w _) (Nat.le_refl _) (by omega)
  obtain ⟨Y, hY⟩ : ∃ Y, Y = (M.toList.take 0 ++ Lib.byteCells s.data.toList ++ M.toList.drop (0 + s.size)).toArray := ⟨_, rfl⟩
  rw [← hY] at hcp
  have hYl : Y.toList = Lib.byteCells s.data.toList := by
   rw [hY, List.toList_toArray, List.take_zero, List.nil_append, List.drop_of_length_le (by rw [Array.length_toList]; omega), List.append_nil]
  have hYs : Y.size = s.size := by rw [← Array.length_toList, hYl, Lib.byteCells_length, ← Lib.size_eq]
  have hgY : ((w.alloc (.cells M 5)).setRow w.heap.size Y).heap[w.heap.size]? = some (.cells Y 5 (0, 0)) := setRow_heap _ _ M _ 5 (0, 0) (heap_alloc_new w _)
  have hne : s.data.toList ≠ [] := fun e => h0 (by rw [Lib.size_eq, e]; rfl)
  have hUS := Lib.run_unsafeString_row (P := Tryz.prog) ((w.alloc (.cells M 5)).setRow w.heap.size Y) 156 3 9 5 Tryz.underlying156 hco w.heap.size Y.size (by unfold World.shape?; rw [hgY]) s.data.toList hne (by rw [← Lib.size_eq]; omega) (by rw [← Lib.size_eq]; omega)
   (fun j x hx => Lib.cells_of_row hgY Y.size j _ (by rw [List.take_of_length_le (by rw [Array.length_toList]; exact Nat.le_refl _), hYl]; simp [Lib.byteCells, hx]))
  rw [← Lib.size_eq] at hUS
  clear hY
  go_enter Tryz.func76, Tryz.ntmps76
  go_wp2
  go_ret
  have hb1 : Below w.heap.size w (w.alloc (.cells M 5)) := (Below.refl _ w).alloc (Nat.le_refl _) _
  have hb2 : Below w.heap.size (w.alloc (.cells M 5)) ((w.alloc (.cells M 5)).setRow w.heap.size Y) := ⟨rfl, rfl, rfl, by simp, fun k hk => setRow_other _ _ _ _ (by omega)⟩
  exact ⟨rfl, Lib.below_freeze (hb1.trans hb2) (p := ⟨w.heap.size, 0, none⟩) (Nat.le_refl _) _⟩

set_option maxHeartbeats 1000000 in
set_option maxRecDepth 100000 in
theorem sclone_any (s : ByteArray) (w : World) (hs : s.size ≤ 1099511627776) :
  Calls Tryz.prog 49 #[sv s] w fun e w' => e = .returned (sv s) ∧ Below w.heap.size w w' := by
 go_enter Tryz.func49, Tryz.ntmps49
 repeat go_step
 refine (lclone_any s w hs).mono ?_
 rintro e w1 ⟨rfl, hb⟩
 dsimp only
 repeat go_step
 go_ret
 exact ⟨rfl, hb⟩
end Go.Proofs.YtoigpbajefkpoaaGreatDoor

