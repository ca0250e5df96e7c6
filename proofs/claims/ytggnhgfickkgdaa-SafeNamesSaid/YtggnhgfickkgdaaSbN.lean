/- Layer 11 (safe), mathematics: what predicates and variables are called says nothing. -/
import Derived.Test.YtggnhgfickkgdaaSaH
set_option linter.unusedVariables false
set_option linter.unusedSimpArgs false
namespace Go.Proofs.Ytggnhgfickkgdaa
open Go Go.RowKit

theorem any_mem {α : Type} {l : List α} {f g : α → Bool} (h : ∀ x ∈ l, f x = g x) : l.any f = l.any g := by
  induction l with
  | nil => rfl
  | cons x l ih => rw [List.any_cons, List.any_cons, h x (by simp), ih fun y hy => h y (by simp [hy])]
theorem all_mem {α : Type} {l : List α} {f g : α → Bool} (h : ∀ x ∈ l, f x = g x) : l.all f = l.all g := by
  induction l with
  | nil => rfl
  | cons x l ih => rw [List.all_cons, List.all_cons, h x (by simp), ih fun y hy => h y (by simp [hy])]
/-- A term called otherwise. -/
def calledT (by_ : UInt8) (t : Tm) : Tm := if t.1 = true ∧ t.2.toNat < 16 then (true, (t.2 + by_.toUInt32) % 16) else t
def calledA (mv : UInt32) (by_ : UInt8) (a : AtL) : AtL := (a.1 + mv, a.2.map (calledT by_))
def calledI (mv : UInt32) (by_ : UInt8) (x : Li) : Li := (x.1, calledA mv by_ x.2)
def calledC (mv : UInt32) (by_ : UInt8) (x : Cl) : Cl := (calledA mv by_ x.1, x.2.map (calledI mv by_))
def movedK (mv : UInt32) (k : Key) : Key := (k.1 + mv, k.2)
section
variable {mv : UInt32} {by_ : UInt8}
theorem calledT_fst (t : Tm) : (calledT by_ t).1 = t.1 := by
  unfold calledT
  split
  · rename_i h; exact h.1.symm
  · rfl
theorem around_nat (x b : UInt32) (hx : x.toNat < 16) (hb : b.toNat < 256) : ((x + b) % 16).toNat = (x.toNat + b.toNat) % 16 := by
  rw [UInt32.toNat_mod, UInt32.toNat_add]
  have : (16 : UInt32).toNat = 16 := rfl
  rw [this]
  omega
theorem by_lt (b : UInt8) : b.toUInt32.toNat < 256 := by
  have := UInt8.toNat_lt b
  simpa using this
theorem calledT_lt (t : Tm) (h : t.1 = true) : (calledT by_ t).2.toNat < 16 ↔ t.2.toNat < 16 := by
  unfold calledT
  by_cases h2 : t.2.toNat < 16
  · rw [if_pos ⟨h, h2⟩]
    simp only [around_nat _ _ h2 (by_lt by_)]
    omega
  · rw [if_neg (by rintro ⟨_, h3⟩; exact h2 h3)]
theorem calledT_inj {s t : Tm} (hs : s.1 = true) (ht : t.1 = true) (h1 : s.2.toNat < 16) (h2 : t.2.toNat < 16) : (calledT by_ s).2 = (calledT by_ t).2 ↔ s.2 = t.2 := by
  unfold calledT
  rw [if_pos ⟨hs, h1⟩, if_pos ⟨ht, h2⟩]
  dsimp only
  constructor
  · intro e
    have e2 := congrArg UInt32.toNat e
    rw [around_nat _ _ h1 (by_lt by_), around_nat _ _ h2 (by_lt by_)] at e2
    exact UInt32.toNat_inj.1 (by omega)
  · intro e; rw [e]
theorem mayA_called (a : AtL) : mayA (calledA mv by_ a) = mayA a := by
  unfold mayA calledA
  dsimp only
  rw [List.all_map, List.length_map]
  congr 2
  funext t
  dsimp only [Function.comp]
  rw [calledT_fst]
  cases h : t.1 with
  | false => rfl
  | true => rw [decide_eq_decide.2 (calledT_lt t h)]
theorem mayC_called (x : Cl) : mayC (calledC mv by_ x) = mayC x := by
  unfold mayC calledC
  dsimp only
  rw [List.all_map, List.length_map, mayA_called]
  congr 3
  funext y
  dsimp only [Function.comp, calledI]
  rw [mayA_called]
/-- All variables have small numbers. -/
def lowL (l : List Tm) : Prop := ∀ t ∈ l, t.1 = true → t.2.toNat < 16
theorem mayA_low {a : AtL} (h : mayA a = true) : lowL a.2 := by
  unfold mayA at h
  simp only [Bool.and_eq_true, List.all_eq_true, decide_eq_true_eq, Bool.or_eq_true, Bool.not_eq_true'] at h
  intro t ht hv
  rcases h.1 t ht with h1 | h1
  · rw [hv] at h1; cases h1
  · exact h1
theorem inL_called {l : List Tm} (hl : lowL l) {t : Tm} (ht : t.1 = true) (h2 : t.2.toNat < 16) : inL (l.map (calledT by_)) (calledT by_ t).2 = inL l t.2 := by
  unfold inL
  rw [List.any_map]
  refine any_mem ?_
  intro s hs
  dsimp only [Function.comp]
  rw [calledT_fst]
  cases h : s.1 with
  | false => rfl
  | true =>
    have := calledT_inj (by_ := by_) h ht (hl s hs h) h2
    by_cases e : s.2 = t.2
    · rw [beq_iff_eq.2 e, beq_iff_eq.2 (this.2 e)]
    · rw [beq_eq_false_iff_ne.2 e, beq_eq_false_iff_ne.2 (fun c => e (this.1 c))]
theorem heldV_called {L : List Li} (hL : ∀ x ∈ L, lowL x.2.2) {t : Tm} (ht : t.1 = true) (h2 : t.2.toNat < 16) : heldV (L.map (calledI mv by_)) (calledT by_ t).2 = heldV L t.2 := by
  unfold heldV
  rw [List.any_map]
  refine any_mem ?_
  intro x hx
  dsimp only [Function.comp, calledI, calledA]
  rw [inL_called (hL x hx) ht h2]
theorem heldL_called {L : List Li} (hL : ∀ x ∈ L, lowL x.2.2) {l : List Tm} (hl : lowL l) : heldL (L.map (calledI mv by_)) (l.map (calledT by_)) = heldL L l := by
  unfold heldL
  rw [List.all_map]
  refine all_mem ?_
  intro t ht
  dsimp only [Function.comp]
  rw [calledT_fst]
  cases h : t.1 with
  | false => rfl
  | true => rw [heldV_called hL h (hl t ht h)]
theorem safeC_called {x : Cl} (h : mayC x = true) : safeC (calledC mv by_ x) = safeC x := by
  obtain ⟨a, L⟩ := x
  unfold mayC at h
  simp only [Bool.and_eq_true, List.all_eq_true, decide_eq_true_eq] at h
  have hL : ∀ x ∈ L, lowL x.2.2 := fun x hx => mayA_low (h.1.1 x hx)
  have ha := mayA_low h.1.2
  unfold safeC calledC
  dsimp only
  rw [show (calledA mv by_ a).2 = a.2.map (calledT by_) from rfl, heldL_called hL ha, List.all_map]
  congr 1
  refine all_mem ?_
  intro x hx
  dsimp only [Function.comp]
  rw [show (calledI mv by_ x).2.2 = x.2.2.map (calledT by_) from rfl, show (calledI mv by_ x).1 = x.1 from rfl, heldL_called hL (hL x hx)]
theorem keys_called (x : Cl) : keysC (calledC mv by_ x) = (keysC x).map (movedK mv) := by
  unfold keysC calledC movedK calledI calledA
  simp
theorem flat_called (C : List Cl) : (C.map (calledC mv by_)).flatMap keysC = (C.flatMap keysC).map (movedK mv) := by
  induction C with
  | nil => rfl
  | cons x C ih => rw [List.map_cons, List.flatMap_cons, ih, List.flatMap_cons, List.map_append, keys_called]
theorem fit_moved (a b : Key) : Fit (movedK mv a) (movedK mv b) ↔ Fit a b := by
  unfold Fit movedK
  dsimp only
  rw [UInt32.add_left_inj]
theorem fitL_moved (K : List Key) : fitL (K.map (movedK mv)) = fitL K := by
  unfold fitL
  refine decide_eq_decide.2 ?_
  rw [List.pairwise_map]
  constructor
  · exact fun h => h.imp fun {a b} => (fit_moved a b).1
  · exact fun h => h.imp fun {a b} => (fit_moved a b).2
theorem badAt_called (C : List Cl) (i : Nat) (x : Cl) : badAt (C.map (calledC mv by_)) i (calledC mv by_ x) = badAt C i x := by
  unfold badAt
  rw [mayC_called, ← List.map_take, flat_called, fitL_moved]
  by_cases h : mayC x = true
  · rw [safeC_called h]
  · rw [if_pos (by simpa using h), if_pos (by simpa using h)]
theorem rightFrom_called (C r : List Cl) (i : Nat) : rightFrom (C.map (calledC mv by_)) (r.map (calledC mv by_)) i = rightFrom C r i := by
  induction r generalizing i with
  | nil => rfl
  | cons x r ih =>
    rw [List.map_cons]
    by_cases h : badAt C i x = 0
    · rw [rightFrom_ok h, rightFrom_ok (by rw [badAt_called]; exact h)]
      exact ih _
    · rw [rightFrom_bad h, rightFrom_bad (by rw [badAt_called]; exact h), badAt_called]
/-- With other numbers, unlike ones for unlike ones, the answer is the same. -/
theorem rightM_called (C : List Cl) : rightM (C.map (calledC mv by_)) = rightM C := by
  unfold rightM
  rw [List.length_map, rightFrom_called]
theorem all_fit_moved (K : List Key) (f : Key) : (K.map (movedK mv)).all (fun y => decide (Fit y (movedK mv f))) = K.all (fun y => decide (Fit y f)) := by
  rw [List.all_map]
  congr 1
  funext y
  exact decide_eq_decide.2 (fit_moved y f)
theorem aritB_moved (K F : List Key) (i : Nat) (f : Key) : aritB (K.map (movedK mv)) (F.map (movedK mv)) i (movedK mv f) = aritB K F i f := by
  unfold aritB
  rw [all_fit_moved, ← List.map_take, all_fit_moved]
  rfl
theorem aritFrom_moved (K F r : List Key) (i : Nat) : aritFrom (K.map (movedK mv)) (F.map (movedK mv)) (r.map (movedK mv)) i = aritFrom K F r i := by
  induction r generalizing i with
  | nil => rfl
  | cons f r ih =>
    rw [List.map_cons]
    cases h : aritB K F i f with
    | true => rw [aritFrom_ok h, aritFrom_ok (by rw [aritB_moved]; exact h)]; exact ih _
    | false => rw [aritFrom_bad h, aritFrom_bad (by rw [aritB_moved]; exact h)]
theorem aritM_called (C : List Cl) (F : List Key) : aritM (C.map (calledC mv by_)) (F.map (movedK mv)) = aritM C F := by
  unfold aritM
  rw [flat_called, aritFrom_moved]
end
end Go.Proofs.Ytggnhgfickkgdaa
