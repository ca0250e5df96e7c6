/- Layer 11 (safe), mathematics: when a program is right; parts of it. -/
import Derived.Test.YtggnhgfickkgdaaSaG
set_option linter.unusedVariables false
set_option linter.unusedSimpArgs false
namespace Go.Proofs.Ytggnhgfickkgdaa
open Go Go.RowKit

theorem rightFrom_zero (C r : List Cl) (i : Nat) : (rightFrom C r i).2 = 0 ↔ ∀ j x, r[j]? = some x → badAt C (i + j) x = 0 := by
  induction r generalizing i with
  | nil => simp [rightFrom]
  | cons x r ih =>
    by_cases h : badAt C i x = 0
    · rw [rightFrom_ok h, ih]
      constructor
      · intro H j y hy
        cases j with
        | zero => simp at hy; subst hy; exact h
        | succ j => rw [List.getElem?_cons_succ] at hy; have := H j y hy; rwa [show i + (j + 1) = i + 1 + j by omega]
      · intro H j y hy
        have := H (j + 1) y (by rw [List.getElem?_cons_succ]; exact hy)
        rwa [show i + (j + 1) = i + 1 + j by omega] at this
    · rw [rightFrom_bad h]
      constructor
      · intro H; exact absurd H h
      · intro H; exact absurd (H 0 x rfl) (by rw [Nat.add_zero]; exact h)
theorem badAt_zero (C : List Cl) (i : Nat) (x : Cl) : badAt C i x = 0 ↔ mayC x = true ∧ safeC x = true ∧ fitL ((C.take (i + 1)).flatMap keysC) = true := by
  unfold badAt
  split
  · rename_i h; constructor
    · intro e; omega
    · rintro ⟨e, _⟩; rw [h] at e; cases e
  · rename_i h1
    split
    · rename_i h; constructor
      · intro e; omega
      · rintro ⟨_, e, _⟩; rw [h] at e; cases e
    · rename_i h2
      split
      · rename_i h; constructor
        · intro e; omega
        · rintro ⟨_, _, e⟩; rw [h] at e; cases e
      · rename_i h3
        refine ⟨fun _ => ⟨by simpa using h1, by simpa using h2, by simpa using h3⟩, fun _ => rfl⟩
theorem fit_sub {K K' : List Key} (h : K.Sublist K') (hf : fitL K' = true) : fitL K = true := by
  unfold fitL at *
  rw [decide_eq_true_iff] at *
  exact hf.sublist h
theorem fit_perm {K K' : List Key} (h : K.Perm K') : fitL K = fitL K' := by
  unfold fitL
  exact decide_eq_decide.2 (h.pairwise_iff fun {a b} hab => Fit.symm hab)
/-- A program is right just if each clause is, and all lengths fit. -/
theorem right_zero (C : List Cl) : (rightM C).2 = 0 ↔ C.length ≤ 400 ∧ (∀ x ∈ C, mayC x = true ∧ safeC x = true) ∧ fitL (C.flatMap keysC) = true := by
  unfold rightM
  split
  · rename_i h; constructor
    · intro e; cases e
    · rintro ⟨e, _⟩; omega
  · rename_i h
    rw [rightFrom_zero]
    constructor
    · intro H
      refine ⟨by omega, fun x hx => ?_, ?_⟩
      · obtain ⟨j, hj, rfl⟩ := List.mem_iff_getElem.1 hx
        obtain ⟨a, b, _⟩ := (badAt_zero _ _ _).1 (H j _ (List.getElem?_eq_getElem hj))
        exact ⟨a, b⟩
      · rcases Nat.eq_zero_or_pos C.length with h0 | h0
        · rw [List.length_eq_zero_iff] at h0
          subst h0
          rfl
        · obtain ⟨_, _, c⟩ := (badAt_zero _ _ _).1 (H (C.length - 1) _ (List.getElem?_eq_getElem (by omega)))
          rwa [show 0 + (C.length - 1) + 1 = C.length by omega, List.take_length] at c
    · rintro ⟨_, H, hf⟩ j x hx
      refine (badAt_zero _ _ _).2 ⟨(H x (List.mem_of_getElem? hx)).1, (H x (List.mem_of_getElem? hx)).2, fit_sub ?_ hf⟩
      rw [Nat.zero_add]
      conv => rhs; rw [← List.take_append_drop (j + 1) C]
      rw [List.flatMap_append]
      exact List.sublist_append_left _ _
theorem rightFrom_lt {C r : List Cl} {i : Nat} (h : (rightFrom C r i).2 ≠ 0) : i ≤ (rightFrom C r i).1 ∧ (rightFrom C r i).1 < i + r.length := by
  induction r generalizing i with
  | nil => exact absurd rfl h
  | cons x r ih =>
    by_cases hb : badAt C i x = 0
    · rw [rightFrom_ok hb] at h ⊢
      have := ih h
      rw [List.length_cons]
      omega
    · rw [rightFrom_bad hb]
      rw [List.length_cons]
      dsimp only
      omega
/-- What is wrong is wrong at a place of it. -/
theorem right_place {C : List Cl} (h : (rightM C).2 ≠ 0) : (rightM C).1 < max C.length 1 := by
  unfold rightM at *
  split at h
  · rename_i hl; rw [if_pos hl]; dsimp only; omega
  · rename_i hl; rw [if_neg hl]; have := rightFrom_lt h; omega
theorem rightFrom_more {C D r : List Cl} {i : Nat} (hr : C.drop i = r) (h : (rightFrom C r i).2 ≠ 0) : rightFrom (C ++ D) (r ++ D) i = rightFrom C r i := by
  induction r generalizing i with
  | nil => exact absurd rfl h
  | cons x r ih =>
    have hi : i < C.length := by
      rcases Nat.lt_or_ge i C.length with h1 | h1
      · exact h1
      · rw [List.drop_of_length_le h1] at hr; cases hr
    have hsame : badAt (C ++ D) i x = badAt C i x := by
      unfold badAt
      rw [List.take_append_of_le_length (by omega)]
    have hr' : C.drop (i + 1) = r := by
      rw [List.drop_eq_getElem_cons hi] at hr
      exact (List.cons.inj hr).2
    rw [List.cons_append]
    by_cases hb : badAt C i x = 0
    · rw [rightFrom_ok hb] at h ⊢
      rw [rightFrom_ok (by rw [hsame]; exact hb)]
      exact ih hr' h
    · rw [rightFrom_bad hb, rightFrom_bad (by rw [hsame]; exact hb), hsame]
/-- What is wrong stays wrong, whatever stands behind it. -/
theorem right_more {C D : List Cl} (h : (rightM C).2 ≠ 0) (hl : C.length + D.length ≤ 400) : rightM (C ++ D) = rightM C := by
  unfold rightM at *
  have h1 : ¬ 400 < C.length := by omega
  have h2 : ¬ 400 < (C ++ D).length := by rw [List.length_append]; omega
  rw [if_neg h1] at h ⊢
  rw [if_neg h2]
  exact rightFrom_more rfl h
theorem flat_sub {A B : List Cl} (h : A.Sublist B) : (A.flatMap keysC).Sublist (B.flatMap keysC) := by
  induction h with
  | slnil => exact List.Sublist.slnil
  | cons x _ ih => rw [List.flatMap_cons]; exact ih.trans (List.sublist_append_right _ _)
  | cons_cons x _ ih => rw [List.flatMap_cons, List.flatMap_cons]; exact (List.Sublist.refl _).append ih
/-- A program less a clause. -/
def lessC (C : List Cl) (k : Nat) : List Cl := C.take k ++ C.drop (k + 1)
theorem less_sub (C : List Cl) (k : Nat) : (lessC C k).Sublist C := by
  unfold lessC
  conv => rhs; rw [← List.take_append_drop k C]
  refine (List.Sublist.refl _).append ?_
  rw [← List.drop_drop]
  exact List.drop_sublist _ _
/-- A part of a right program is right. -/
theorem right_less {C D : List Cl} (hs : D.Sublist C) (h : (rightM C).2 = 0) : (rightM D).2 = 0 := by
  obtain ⟨h1, h2, h3⟩ := (right_zero C).1 h
  exact (right_zero D).2 ⟨by have := hs.length_le; omega, fun x hx => h2 x (hs.subset hx), fit_sub (flat_sub hs) h3⟩
def trimC (x : Cl) : Cl := (x.1, x.2.dropLast)
theorem heldV_trim {L : List Li} {y : Li} (hy : y.1 = true) (v : UInt32) : heldV (L ++ [y]) v = heldV L v := by
  unfold heldV
  simp [hy]
theorem heldL_trim {L : List Li} {y : Li} (hy : y.1 = true) (l : List Tm) : heldL (L ++ [y]) l = heldL L l := by
  unfold heldL
  congr 1
  funext t
  rw [heldV_trim hy]
theorem trim_ok {x : Cl} {y : Li} (hy : x.2.getLast? = some y) (hn : y.1 = true) (hm : mayC x = true) (hs : safeC x = true) : mayC (trimC x) = true ∧ safeC (trimC x) = true := by
  obtain ⟨a, L⟩ := x
  dsimp only at hy
  obtain ⟨L', rfl⟩ : ∃ L', L = L' ++ [y] := List.getLast?_eq_some_iff.1 hy
  unfold trimC
  dsimp only
  rw [List.dropLast_concat]
  unfold mayC safeC at *
  dsimp only at *
  simp only [heldL_trim hn, List.all_append, Bool.and_eq_true, decide_eq_true_eq, List.length_append] at *
  exact ⟨⟨⟨hm.1.1.1, hm.1.2⟩, by omega⟩, hs.1, hs.2.1⟩
theorem keys_trim (x : Cl) : (keysC (trimC x)).Sublist (keysC x) := by
  unfold keysC trimC
  dsimp only
  exact ((List.dropLast_sublist x.2).map _).cons_cons _
/-- Nor does a literal less make it wrong, if it is Not. -/
theorem right_trim {C : List Cl} {k : Nat} {x : Cl} {y : Li} (hx : C[k]? = some x) (hy : x.2.getLast? = some y) (hn : y.1 = true) (h : (rightM C).2 = 0) : (rightM (lessC C k ++ [trimC x])).2 = 0 := by
  obtain ⟨h1, h2, h3⟩ := (right_zero C).1 h
  obtain ⟨hk, hxk⟩ := List.getElem?_eq_some_iff.1 hx
  have hmx := List.mem_of_getElem? hx
  have ht := trim_ok hy hn (h2 x hmx).1 (h2 x hmx).2
  refine (right_zero _).2 ⟨?_, fun z hz => ?_, ?_⟩
  · unfold lessC
    simp only [List.length_append, List.length_take, List.length_drop, List.length_cons, List.length_nil]
    omega
  · rcases List.mem_append.1 hz with hz | hz
    · exact h2 z ((less_sub C k).subset hz)
    · rw [List.mem_singleton] at hz
      subst hz
      exact ht
  · have hp : (lessC C k ++ [x]).Perm C := by
      unfold lessC
      conv => rhs; rw [← List.take_append_drop k C, List.drop_eq_getElem_cons hk, hxk]
      rw [List.append_assoc]
      exact (List.Perm.refl _).append (List.perm_append_comm (l₁ := C.drop (k + 1)) (l₂ := [x]))
    have h4 : fitL ((lessC C k ++ [x]).flatMap keysC) = true := by
      rw [fit_perm (hp.flatMap_right keysC)]
      exact h3
    refine fit_sub ?_ h4
    rw [List.flatMap_append, List.flatMap_append]
    refine (List.Sublist.refl _).append ?_
    simpa using keys_trim x
end Go.Proofs.Ytggnhgfickkgdaa
