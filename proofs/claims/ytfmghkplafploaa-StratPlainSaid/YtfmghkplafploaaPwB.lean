/- Texts, packed: StA SaI SbC -/
import Derived.Test.YtfmghkplafploaaPwA
set_option linter.unusedVariables false
set_option linter.unusedSimpArgs false
namespace Go.Proofs.Ytfmghkplafploaa
open Go Go.RowKit

/-- From a head to a literal of its body; is it Not? -/
abbrev Ed := UInt32 × UInt32 × Bool
def edgC (x : Cl) : List Ed := x.2.map fun y => (x.1.1, y.2.1, y.1)
def edL (C : List Cl) : List Ed := C.flatMap edgC
def prC (x : Cl) : List UInt32 := x.1.1 :: x.2.map fun y => y.2.1
def prL (C : List Cl) : List UInt32 := C.flatMap prC
def dl (b : Bool) : Nat := if b then 1 else 0
theorem dl_le (b : Bool) : dl b ≤ 1 := by cases b <;> decide
/-- Levels. -/
def Valid (E : List Ed) (f : UInt32 → Nat) : Prop := ∀ e ∈ E, f e.2.1 + dl e.2.2 ≤ f e.1
/-- The least ones. -/
structure Least (E : List Ed) (f : UInt32 → Nat) : Prop where
  valid : Valid E f
  le : ∀ g, Valid E g → ∀ p, f p ≤ g p
theorem Least.unique {E : List Ed} {f g : UInt32 → Nat} (h : Least E f) (k : Least E g) : f = g := by
  funext p
  have h1 := h.le g k.valid p
  have h2 := k.le f h.valid p
  omega
theorem min_ex (P : Nat → Prop) (h : ∃ n, P n) : ∃ n, P n ∧ ∀ m, P m → n ≤ m := by
  obtain ⟨n, hn⟩ := h
  induction n using Nat.strongRecOn with
  | _ n ih =>
    by_cases hm : ∃ m, m < n ∧ P m
    · obtain ⟨m, h1, h2⟩ := hm
      exact ih m h1 h2
    · refine ⟨n, hn, fun m hm2 => ?_⟩
      rcases Nat.lt_or_ge m n with h3 | h3
      · exact absurd ⟨m, h3, hm2⟩ hm
      · exact h3
theorem least_ex {E : List Ed} (h : ∃ g, Valid E g) : ∃ f, Least E f := by
  obtain ⟨g, hg⟩ := h
  have hmin : ∀ p : UInt32, ∃ n, (∃ g, Valid E g ∧ g p = n) ∧ ∀ m, (∃ g, Valid E g ∧ g p = m) → n ≤ m := fun p => min_ex (fun n => ∃ g, Valid E g ∧ g p = n) ⟨g p, g, hg, rfl⟩
  refine ⟨fun p => Classical.choose (hmin p), fun e he => ?_, fun k hk p => ?_⟩
  · obtain ⟨⟨k, hk, hkp⟩, _⟩ := Classical.choose_spec (hmin e.1)
    have h2 := (Classical.choose_spec (hmin e.2.1)).2 (k e.2.1) ⟨k, hk, rfl⟩
    have h3 := hk e he
    have h4 : Classical.choose (hmin e.1) = k e.1 := hkp.symm
    show Classical.choose (hmin e.2.1) + dl e.2.2 ≤ Classical.choose (hmin e.1)
    omega
  · exact (Classical.choose_spec (hmin p)).2 (k p) ⟨k, hk, rfl⟩
/-- There is no gap. -/
theorem Least.gap {E : List Ed} {f : UInt32 → Nat} (h : Least E f) {v : Nat} {p : UInt32} (hp : v + 1 ≤ f p) : ∃ e ∈ E, f e.2.1 = v := by
  apply Classical.byContradiction
  intro hno
  have hne : ∀ e ∈ E, f e.2.1 ≠ v := fun e he e2 => hno ⟨e, he, e2⟩
  have hv : Valid E (fun q => if v + 1 ≤ f q then f q - 1 else f q) := fun e he => by
    have h1 := h.valid e he
    have h2 := hne e he
    have h3 := dl_le e.2.2
    dsimp only
    split <;> split <;> omega
  have := h.le _ hv p
  rw [if_pos hp] at this
  omega
theorem pigeon : ∀ (P : List UInt32) (f : UInt32 → Nat) (S : List Nat), S.Nodup → (∀ v ∈ S, ∃ q ∈ P, f q = v) → S.length ≤ P.length
  | [], f, S, _, h => by
    cases S with
    | nil => exact Nat.le_refl _
    | cons v S => obtain ⟨q, hq, _⟩ := h v (by simp); cases hq
  | q :: P, f, S, hn, h => by
    have h1 := pigeon P f (S.erase (f q)) (hn.erase _) (fun v hv => by
      obtain ⟨h2, h3⟩ := (List.Nodup.mem_erase_iff hn).1 hv
      obtain ⟨r, hr, hrv⟩ := h v h3
      rcases List.mem_cons.1 hr with e | e
      · subst e; exact absurd hrv.symm h2
      · exact ⟨r, e, hrv⟩)
    have h2 : S.length ≤ (S.erase (f q)).length + 1 := by
      by_cases hm : f q ∈ S
      · rw [List.length_erase_of_mem hm]; omega
      · rw [List.erase_of_not_mem hm]; omega
    rw [List.length_cons]
    omega
/-- No level is above the number of predicates, less one. -/
theorem Least.lt {E : List Ed} {f : UInt32 → Nat} (h : Least E f) {P : List UInt32} (hP : ∀ e ∈ E, e.2.1 ∈ P) {p : UInt32} (hp : p ∈ P) : f p < P.length := by
  have := pigeon P f (List.range (f p + 1)) List.nodup_range (fun v hv => by
    rw [List.mem_range] at hv
    rcases Nat.lt_or_ge v (f p) with h1 | h1
    · obtain ⟨e, he, hev⟩ := h.gap (v := v) (p := p) (by omega)
      exact ⟨_, hP e he, hev⟩
    · exact ⟨p, hp, by omega⟩)
  rw [List.length_range] at this
  omega
theorem Least.zero {E : List Ed} {f : UInt32 → Nat} (h : Least E f) {p : UInt32} (hp : ∀ e ∈ E, e.1 ≠ p) : f p = 0 := by
  have hv : Valid E (fun q => if q = p then 0 else f q) := fun e he => by
    have h1 := h.valid e he
    have h2 := hp e he
    dsimp only
    rw [if_neg h2]
    split <;> omega
  have := h.le _ hv p
  rw [if_pos rfl] at this
  omega
/-- Each one is wanted. -/
theorem Least.wants {E : List Ed} {f : UInt32 → Nat} (h : Least E f) {p : UInt32} (hp : 0 < f p) : ∃ e ∈ E, e.1 = p ∧ f e.2.1 + dl e.2.2 = f p := by
  apply Classical.byContradiction
  intro hno
  have hv : Valid E (fun q => if q = p then f p - 1 else f q) := fun e he => by
    have h1 := h.valid e he
    have h2 : e.1 = p → f e.2.1 + dl e.2.2 ≠ f p := fun e1 e2 => hno ⟨e, he, e1, e2⟩
    dsimp only
    by_cases a : e.1 = p
    · have h3 := h2 a
      rw [a] at h1
      rw [if_pos a]
      by_cases b : e.2.1 = p
      · rw [if_pos b]
        rw [b] at h1 h3
        omega
      · rw [if_neg b]
        omega
    · rw [if_neg a]
      split
      · rename_i b; rw [b] at h1; omega
      · exact h1
  have := h.le _ hv p
  rw [if_pos rfl] at this
  omega
theorem edge_head {C : List Cl} {e : Ed} (h : e ∈ edL C) : e.1 ∈ prL C := by
  obtain ⟨x, hx, he⟩ := List.mem_flatMap.1 h
  obtain ⟨y, hy, rfl⟩ := List.mem_map.1 he
  exact List.mem_flatMap.2 ⟨x, hx, by unfold prC; simp⟩
theorem edge_body {C : List Cl} {e : Ed} (h : e ∈ edL C) : e.2.1 ∈ prL C := by
  obtain ⟨x, hx, he⟩ := List.mem_flatMap.1 h
  obtain ⟨y, hy, rfl⟩ := List.mem_map.1 he
  exact List.mem_flatMap.2 ⟨x, hx, by unfold prC; exact List.mem_cons_of_mem _ (List.mem_map.2 ⟨y, hy, rfl⟩)⟩

/-! ### Lists of levels -/
abbrev Lv := UInt32 × Nat
/-- A predicate's level in a list. -/
def lvO (X : List Lv) (p : UInt32) : Option Nat := (X.find? fun x => x.1 == p).map (·.2)
def lvN (X : List Lv) (p : UInt32) : Nat := (lvO X p).getD 0
theorem lvO_mem {X : List Lv} {p : UInt32} {v : Nat} (h : lvO X p = some v) : (p, v) ∈ X := by
  unfold lvO at h
  cases hf : X.find? fun x => x.1 == p with
  | none => rw [hf] at h; cases h
  | some x =>
    rw [hf] at h
    have h1 := List.find?_some hf
    have h2 := List.mem_of_find?_eq_some hf
    simp only [beq_iff_eq] at h1
    simp only [Option.map_some, Option.some.injEq] at h
    subst h1 h
    exact h2
theorem lvO_some {X : List Lv} {p : UInt32} (h : p ∈ X.map (·.1)) : ∃ v, lvO X p = some v := by
  unfold lvO
  cases hf : X.find? fun x => x.1 == p with
  | none =>
    obtain ⟨x, hx, rfl⟩ := List.mem_map.1 h
    have := List.find?_eq_none.1 hf x hx
    simp at this
  | some x => exact ⟨_, rfl⟩
theorem lvO_none {X : List Lv} {p : UInt32} (h : p ∉ X.map (·.1)) : lvO X p = none := by
  unfold lvO
  rw [List.find?_eq_none.2 fun x hx => by
    intro e
    simp only [beq_iff_eq] at e
    exact h (List.mem_map.2 ⟨x, hx, e⟩)]
  rfl
theorem lvN_mem {X : List Lv} {p : UInt32} (h : p ∈ X.map (·.1)) : (p, lvN X p) ∈ X := by
  obtain ⟨v, hv⟩ := lvO_some h
  unfold lvN
  rw [hv]
  exact lvO_mem hv
theorem lvO_of {X : List Lv} (hn : (X.map (·.1)).Nodup) {x : Lv} (h : x ∈ X) : lvO X x.1 = some x.2 := by
  induction X with
  | nil => cases h
  | cons y X ih =>
    unfold lvO
    rw [List.find?_cons]
    rcases List.mem_cons.1 h with rfl | h1
    · simp
    · rw [List.map_cons, List.nodup_cons] at hn
      have : (y.1 == x.1) = false := by
        rw [beq_eq_false_iff_ne]
        intro e
        exact hn.1 (e ▸ List.mem_map.2 ⟨x, h1, rfl⟩)
      rw [this]
      exact ih hn.2 h1
theorem lvN_of {X : List Lv} (hn : (X.map (·.1)).Nodup) {x : Lv} (h : x ∈ X) : lvN X x.1 = x.2 := by
  unfold lvN
  rw [lvO_of hn h]
  rfl
theorem set_fst {X : List Lv} {j : Nat} {x : Lv} {v : Nat} (hx : X[j]? = some x) : (X.set j (x.1, v)).map (·.1) = X.map (·.1) := by
  obtain ⟨hj, e⟩ := List.getElem?_eq_some_iff.1 hx
  refine List.ext_getElem (by simp) fun i h1 h2 => ?_
  simp only [List.getElem_map, List.getElem_set]
  split
  · rename_i h; subst h; rw [e]
  · rfl
/-- One of them raised. -/
theorem lvN_set {X : List Lv} (hn : (X.map (·.1)).Nodup) {j : Nat} {x : Lv} {v : Nat} (hx : X[j]? = some x) (q : UInt32) : lvN (X.set j (x.1, v)) q = if q = x.1 then v else lvN X q := by
  have hn' : ((X.set j (x.1, v)).map (·.1)).Nodup := by rw [set_fst hx]; exact hn
  obtain ⟨hj, e⟩ := List.getElem?_eq_some_iff.1 hx
  have hm : (x.1, v) ∈ X.set j (x.1, v) := List.mem_iff_getElem.2 ⟨j, by simpa using hj, by simp⟩
  split
  · rename_i h
    subst h
    exact lvN_of hn' hm
  · rename_i h
    by_cases hq : q ∈ X.map (·.1)
    · have h1 := lvN_mem hq
      obtain ⟨i, hi, he⟩ := List.mem_iff_getElem.1 h1
      have hij : j ≠ i := fun c => by subst c; rw [e] at he; exact h (by rw [he])
      have h2 : (q, lvN X q) ∈ X.set j (x.1, v) := List.mem_iff_getElem.2 ⟨i, by simpa using hi, by rw [List.getElem_set_ne hij]; exact he⟩
      exact lvN_of hn' h2
    · unfold lvN
      rw [lvO_none hq, lvO_none (by rw [set_fst hx]; exact hq)]
theorem sorted_nodup {P : List UInt32} (h : P.Pairwise (· < ·)) : P.Nodup := h.imp fun {a b} hab e => by subst e; exact (UInt32.lt_irrefl a) hab
theorem sorted_extU : ∀ {P Q : List UInt32}, P.Pairwise (· < ·) → Q.Pairwise (· < ·) → (∀ p, p ∈ P ↔ p ∈ Q) → P = Q
  | [], [], _, _, _ => rfl
  | [], q :: Q, _, _, h => by have := (h q).2 (by simp); cases this
  | p :: P, [], _, _, h => by have := (h p).1 (by simp); cases this
  | p :: P, q :: Q, hp, hq, h => by
    rw [List.pairwise_cons] at hp hq
    have hpq : p = q := by
      rcases List.mem_cons.1 ((h p).1 (by simp)) with e | e
      · exact e
      · rcases List.mem_cons.1 ((h q).2 (by simp)) with e2 | e2
        · exact e2.symm
        · exact absurd (UInt32.lt_trans (hq.1 p e) (hp.1 q e2)) (UInt32.lt_irrefl _)
    subst hpq
    have hmem : ∀ x, x ∈ P ↔ x ∈ Q := fun x => by
      have hx := h x
      simp only [List.mem_cons] at hx
      constructor
      · intro m
        rcases hx.1 (.inr m) with e | e
        · subst e; exact absurd (hp.1 x m) (UInt32.lt_irrefl _)
        · exact e
      · intro m
        rcases hx.2 (.inr m) with e | e
        · subst e; exact absurd (hq.1 x m) (UInt32.lt_irrefl _)
        · exact e
    rw [sorted_extU hp.2 hq.2 hmem]
/-- What Levels answers. -/
inductive LevTold (C : List Cl) : Nat → List Lv → Prop
  | wrong : (rightM C).2 ≠ 0 → LevTold C (rightM C).2 []
  | none : (rightM C).2 = 0 → (¬ ∃ f, Valid (edL C) f) → LevTold C 11 []
  | some {f : UInt32 → Nat} {L : List Lv} : (rightM C).2 = 0 → Least (edL C) f → (L.map (·.1)).Pairwise (· < ·) → (∀ p, p ∈ L.map (·.1) ↔ p ∈ prL C) → (∀ x ∈ L, x.2 = f x.1) → LevTold C 0 L
theorem rightM_err (C : List Cl) : (rightM C).2 ≠ 11 := by
  unfold rightM
  split
  · decide
  · generalize hr : C = R
    conv => lhs; rw [← hr]
    clear hr
    suffices h : ∀ (D R : List Cl) (i : Nat), (rightFrom D R i).2 ≠ 11 from h _ _ _
    intro D R
    induction R with
    | nil => intro i; exact (by decide : (0 : Nat) ≠ 11)
    | cons x R ih =>
      intro i
      by_cases hb : badAt D i x = 0
      · rw [rightFrom_ok hb]; exact ih _
      · rw [rightFrom_bad hb]
        show badAt D i x ≠ 11
        unfold badAt
        split
        · decide
        · split
          · decide
          · split <;> decide
theorem LevTold.unique {C : List Cl} {e e' : Nat} {L L' : List Lv} (h : LevTold C e L) (k : LevTold C e' L') : e = e' ∧ L = L' := by
  cases h with
  | wrong h1 =>
    cases k with
    | wrong _ => exact ⟨rfl, rfl⟩
    | none k1 _ => exact absurd k1 h1
    | some k1 _ _ _ _ => exact absurd k1 h1
  | none h1 h2 =>
    cases k with
    | wrong k1 => exact absurd h1 k1
    | none _ _ => exact ⟨rfl, rfl⟩
    | some _ k2 _ _ _ => exact absurd ⟨_, k2.valid⟩ h2
  | some h1 h2 h3 h4 h5 =>
    cases k with
    | wrong k1 => exact absurd h1 k1
    | none _ k2 => exact absurd ⟨_, h2.valid⟩ k2
    | some _ k2 k3 k4 k5 =>
      refine ⟨rfl, ?_⟩
      have hf := h2.unique k2
      subst hf
      have hm := sorted_extU h3 k3 fun p => (h4 p).trans (k4 p).symm
      refine List.ext_getElem (by have := congrArg List.length hm; simpa using this) fun i h1 h2 => ?_
      have e1 : L[i].1 = L'[i].1 := by
        have h7 : (L.map (·.1))[i]? = (L'.map (·.1))[i]? := by rw [hm]
        rw [List.getElem?_map, List.getElem?_map, List.getElem?_eq_getElem h1, List.getElem?_eq_getElem h2] at h7
        simpa using h7
      exact Prod.ext e1 (by rw [h5 _ (List.getElem_mem h1), k5 _ (List.getElem_mem h2), e1])
end Go.Proofs.Ytfmghkplafploaa

set_option linter.unusedVariables false
set_option linter.unusedSimpArgs false
namespace Go.Proofs.Ytfmghkplafploaa
open Go Go.RowKit

def few1 (x : Cl) : Bool := decide (x.2.length ≤ 30) && decide (x.1.2.length ≤ 30) && x.2.all fun y => decide (y.2.2.length ≤ 30)
def few2 (f : AtR) : Bool := decide (f.2.2.1 ≤ 30)
def fewH (n nf : Nat) : Bool := !(decide (60 < n) && decide (n ≤ 400) || decide (1000 < n) || decide (120 < nf))
def fewB (n nf : Nat) (C : List Cl) (Y : List AtR) : Bool := fewH n nf && (C.all few1 && Y.all few2)
theorem few_slim {C : List Cl} (h : C.all few1 = true) : Slim C := fun x hx => by
  have h1 := List.all_eq_true.1 h x hx
  unfold few1 at h1
  simp only [Bool.and_eq_true, decide_eq_true_eq, List.all_eq_true] at h1
  obtain ⟨⟨h2, h3⟩, h4⟩ := h1
  exact ⟨by omega, by omega, fun y hy => by have := h4 y hy; omega⟩
set_option maxRecDepth 100000 in
set_option maxHeartbeats 2000000 in
theorem few_a (A : Option Addr) (n c : Nat) (Q : List ClA) (C : List Cl) (A2 : Option Addr) (nf c2 : Nat) (Y : List AtR) (w : World) (h : RdCs w w.heap.size A n Q C) (h2 : Rd w w.heap.size 2 A2 nf (Y.flatMap atC)) (hY : Y.length = nf) (h1 : 60 < n ∧ n ≤ 400) :
    Calls Try.prog 4 #[.slice A n c, .slice A2 nf c2] w fun e w' => e = .returned (.bool (fewH n nf && (C.all few1 && Y.all few2))) ∧ w' = w := by
  have HC := Lib.hid h
  have HF := Lib.hid h2
  have HY := Lib.hid hY
  clear h h2 hY
  have HH := Lib.hid (show fewH n nf = false by unfold fewH; simp; omega)
  have ha : (60 : Int) < (n : Int) := by omega
  have hb : (n : Int) ≤ 400 := by omega
  go_enter Try.func4, Try.ntmps4
  repeat (first | go_skip | go_guarded | go_step)
  go_ret
  exact ⟨by rw [HH.out]; rfl, rfl⟩
set_option maxRecDepth 100000 in
set_option maxHeartbeats 2000000 in
theorem few_b (A : Option Addr) (n c : Nat) (Q : List ClA) (C : List Cl) (A2 : Option Addr) (nf c2 : Nat) (Y : List AtR) (w : World) (h : RdCs w w.heap.size A n Q C) (h2 : Rd w w.heap.size 2 A2 nf (Y.flatMap atC)) (hY : Y.length = nf) (h1 : 1000 < n) :
    Calls Try.prog 4 #[.slice A n c, .slice A2 nf c2] w fun e w' => e = .returned (.bool (fewH n nf && (C.all few1 && Y.all few2))) ∧ w' = w := by
  have HC := Lib.hid h
  have HF := Lib.hid h2
  have HY := Lib.hid hY
  clear h h2 hY
  have HH := Lib.hid (show fewH n nf = false by unfold fewH; simp; omega)
  have ha : (60 : Int) < (n : Int) := by omega
  have hb : ¬ (n : Int) ≤ 400 := by omega
  have hc : (1000 : Int) < (n : Int) := by omega
  go_enter Try.func4, Try.ntmps4
  repeat (first | go_skip | go_guarded | go_step)
  go_ret
  exact ⟨by rw [HH.out]; rfl, rfl⟩
set_option maxRecDepth 100000 in
set_option maxHeartbeats 2000000 in
theorem few_c (A : Option Addr) (n c : Nat) (Q : List ClA) (C : List Cl) (A2 : Option Addr) (nf c2 : Nat) (Y : List AtR) (w : World) (h : RdCs w w.heap.size A n Q C) (h2 : Rd w w.heap.size 2 A2 nf (Y.flatMap atC)) (hY : Y.length = nf) (h1 : n ≤ 60) (h2' : 120 < nf) :
    Calls Try.prog 4 #[.slice A n c, .slice A2 nf c2] w fun e w' => e = .returned (.bool (fewH n nf && (C.all few1 && Y.all few2))) ∧ w' = w := by
  have HC := Lib.hid h
  have HF := Lib.hid h2
  have HY := Lib.hid hY
  clear h h2 hY
  have HH := Lib.hid (show fewH n nf = false by unfold fewH; simp; omega)
  have ha : ¬ (60 : Int) < (n : Int) := by omega
  have hc : ¬ (1000 : Int) < (n : Int) := by omega
  have hd : (120 : Int) < (nf : Int) := by omega
  go_enter Try.func4, Try.ntmps4
  repeat (first | go_skip | go_guarded | go_step)
  go_ret
  exact ⟨by rw [HH.out]; rfl, rfl⟩
set_option maxRecDepth 100000 in
set_option maxHeartbeats 2000000 in
theorem few_d (A : Option Addr) (n c : Nat) (Q : List ClA) (C : List Cl) (A2 : Option Addr) (nf c2 : Nat) (Y : List AtR) (w : World) (h : RdCs w w.heap.size A n Q C) (h2 : Rd w w.heap.size 2 A2 nf (Y.flatMap atC)) (hY : Y.length = nf) (h1 : 400 < n ∧ n ≤ 1000) (h2' : 120 < nf) :
    Calls Try.prog 4 #[.slice A n c, .slice A2 nf c2] w fun e w' => e = .returned (.bool (fewH n nf && (C.all few1 && Y.all few2))) ∧ w' = w := by
  have HC := Lib.hid h
  have HF := Lib.hid h2
  have HY := Lib.hid hY
  clear h h2 hY
  have HH := Lib.hid (show fewH n nf = false by unfold fewH; simp; omega)
  have ha : (60 : Int) < (n : Int) := by omega
  have hb : ¬ (n : Int) ≤ 400 := by omega
  have hc : ¬ (1000 : Int) < (n : Int) := by omega
  have hd : (120 : Int) < (nf : Int) := by omega
  go_enter Try.func4, Try.ntmps4
  repeat (first | go_skip | go_guarded | go_step)
  go_ret
  exact ⟨by rw [HH.out]; rfl, rfl⟩
set_option maxRecDepth 100000 in
set_option maxHeartbeats 2000000 in
theorem few_e (A : Option Addr) (n c : Nat) (Q : List ClA) (C : List Cl) (A2 : Option Addr) (nf c2 : Nat) (Y : List AtR) (w : World) (h : RdCs w w.heap.size A n Q C) (h2 : Rd w w.heap.size 2 A2 nf (Y.flatMap atC)) (hY : Y.length = nf) (h1 : n ≤ 60) (h2' : nf ≤ 120) :
    Calls Try.prog 4 #[.slice A n c, .slice A2 nf c2] w fun e w' => e = .returned (.bool (fewH n nf && (C.all few1 && Y.all few2))) ∧ w' = w := by
  have HC := Lib.hid h
  have HF := Lib.hid h2
  have HY := Lib.hid hY
  clear h h2 hY
  have HH := Lib.hid (show fewH n nf = true by unfold fewH; simp; omega)
  have ha : ¬ (60 : Int) < (n : Int) := by omega
  have hc : ¬ (1000 : Int) < (n : Int) := by omega
  have hd : ¬ (120 : Int) < (nf : Int) := by omega
  go_enter Try.func4, Try.ntmps4
  repeat (first | go_skip | go_guarded | go_step)
  go_loop [5] (fun q => ∃ i : Nat, i ≤ n ∧ q = .int .i64 (i : Int) ∧ (C.take i).all few1 = true) (fun q => n - (intOf q).toNat)
  case atStart => exact ⟨0, by omega, rfl, by simp⟩
  case round =>
    obtain ⟨i, hi, rfl, hal⟩ := hrel
    have HAL := Lib.hid hal
    clear hal
    by_cases hlt : i < n
    · have hci : (i : Int) < (n : Int) := by omega
      obtain ⟨b, o, p, l, L, A0, n0, c0, A1, n1, c1, R, hA, hb, hx, hq, hd0, hd1, hd2, hrt, hrl⟩ := HC.out.at_ hlt
      subst hA
      have HX := Lib.hid hx
      have HRL := Lib.hid hrl
      have hl0 := rdT_len hrt
      have hl1 := hrl.lenL
      have HBAD := Lib.hid (show few1 ((p, l), L) = false → C.all few1 = false from fun h => all_at HX.out h)
      have HL0 := Lib.hid hl0
      have HL1 := Lib.hid hl1
      clear hx hq hrt hrl hb hl0 hl1
      by_cases h1 : 30 < n1
      · have h1i : (30 : Int) < (n1 : Int) := by omega
        have HZ := Lib.hid (HBAD.out (by unfold few1; rw [decide_eq_false (by dsimp only; have := HL1.out; omega)]; rfl))
        repeat (first | go_skip | go_guarded | go_step)
        go_ret
        exact ⟨by rw [HH.out, HZ.out]; rfl, rfl⟩
      have h1i : ¬ (30 : Int) < (n1 : Int) := by omega
      by_cases h0 : 30 < n0
      · have h0i : (30 : Int) < (n0 : Int) := by omega
        have HZ := Lib.hid (HBAD.out (by unfold few1; rw [decide_eq_false (p := (((p, l), L) : Cl).1.2.length ≤ 30) (by dsimp only; have := HL0.out; omega)]; simp))
        repeat (first | go_skip | go_guarded | go_step)
        go_ret
        exact ⟨by rw [HH.out, HZ.out]; rfl, rfl⟩
      have h0i : ¬ (30 : Int) < (n0 : Int) := by omega
      repeat (first | go_skip | go_guarded | go_step)
      go_loop [6] (fun q => ∃ k : Nat, k ≤ n1 ∧ q = .int .i64 (k : Int) ∧ (L.take k).all (fun y => decide (y.2.2.length ≤ 30)) = true) (fun q => n1 - (intOf q).toNat)
      case atStart => exact ⟨0, by omega, rfl, by simp⟩
      case round =>
        obtain ⟨k, hk, rfl, hal⟩ := hrel
        have HAK := Lib.hid hal
        clear hal
        by_cases hltk : k < n1
        · have hki : (k : Int) < (n1 : Int) := by omega
          obtain ⟨b3, o3, g3, p3, l3, Ai, ni, ci, hA1, hb3, hx3, he0, he1, he2, hrow⟩ := HRL.out.at_ hltk
          subst hA1
          have HX3 := Lib.hid hx3
          have HL3 := Lib.hid (rdT_len hrow)
          clear hx3 hrow hb3
          by_cases h3 : 30 < ni
          · have h3i : (30 : Int) < (ni : Int) := by omega
            have HZ := Lib.hid (HBAD.out (by
              unfold few1
              rw [all_at (l := L) HX3.out (by dsimp only; rw [decide_eq_false (by have := HL3.out; omega)])]
              simp))
            repeat (first | go_skip | go_guarded | go_step)
            go_ret
            exact ⟨by rw [HH.out, HZ.out]; rfl, rfl⟩
          · have h3i : ¬ (30 : Int) < (ni : Int) := by omega
            repeat (first | go_skip | go_guarded | go_step)
            go_round
            case rel => exact ⟨k + 1, by omega, by go_num, all_upto HX3.out HAK.out (by rw [decide_eq_true (by have := HL3.out; dsimp only; omega)])⟩
            case measure => simp [intOf]; omega
        · obtain rfl : n1 = k := by omega
          have hki : ¬ (n1 : Int) < (n1 : Int) := by omega
          repeat (first | go_skip | go_guarded | go_step)
          go_round
          case rel => exact ⟨i + 1, by omega, by go_num, all_upto HX.out HAL.out (by
            unfold few1
            rw [decide_eq_true (by dsimp only; have := HL1.out; omega), decide_eq_true (p := (((p, l), L) : Cl).1.2.length ≤ 30) (by dsimp only; have := HL0.out; omega), all_whole (l := L) (by have := HL1.out; omega) HAK.out]
            rfl)⟩
          case measure => simp [intOf]; omega
    · obtain rfl : n = i := by omega
      have hci : ¬ (n : Int) < (n : Int) := by omega
      have HALL := Lib.hid (show C.all few1 = true from all_whole (by have := HC.out.lenC; omega) HAL.out)
      repeat (first | go_skip | go_guarded | go_step)
      go_loop [7] (fun q => ∃ k : Nat, k ≤ nf ∧ q = .int .i64 (k : Int) ∧ (Y.take k).all few2 = true) (fun q => nf - (intOf q).toNat)
      case atStart => exact ⟨0, by omega, rfl, by simp⟩
      case round =>
        obtain ⟨k, hk, rfl, hal⟩ := hrel
        have HAK := Lib.hid hal
        clear hal
        by_cases hltk : k < nf
        · have hki : (k : Int) < (nf : Int) := by omega
          obtain ⟨x, hx⟩ : ∃ x, Y[k]? = some x := ⟨_, List.getElem?_eq_getElem (by rw [HY.out]; exact hltk)⟩
          obtain ⟨b4, o4, hAl, hb4, hc0, hc1⟩ := rdAt HF.out hltk hx
          subst hAl
          obtain ⟨px, Ax, nx, cx⟩ := x
          dsimp only at hc0 hc1
          have HX := Lib.hid hx
          clear hx hb4
          by_cases h3 : 30 < nx
          · have h3i : (30 : Int) < (nx : Int) := by omega
            have HZ := Lib.hid (show Y.all few2 = false from all_at HX.out (by unfold few2; rw [decide_eq_false (by dsimp only; omega)]))
            repeat (first | go_skip | go_guarded | go_step)
            go_ret
            exact ⟨by rw [HH.out, HALL.out, HZ.out]; rfl, rfl⟩
          · have h3i : ¬ (30 : Int) < (nx : Int) := by omega
            repeat (first | go_skip | go_guarded | go_step)
            go_round
            case rel => exact ⟨k + 1, by omega, by go_num, all_upto HX.out HAK.out (by unfold few2; rw [decide_eq_true (by dsimp only; omega)])⟩
            case measure => simp [intOf]; omega
        · obtain rfl : nf = k := by omega
          have hki : ¬ (nf : Int) < (nf : Int) := by omega
          have HZ := Lib.hid (show Y.all few2 = true from all_whole (by have := HY.out; omega) HAK.out)
          repeat (first | go_skip | go_guarded | go_step)
          go_ret
          exact ⟨by rw [HH.out, HALL.out, HZ.out]; rfl, rfl⟩
set_option maxRecDepth 100000 in
set_option maxHeartbeats 2000000 in
theorem few_f (A : Option Addr) (n c : Nat) (Q : List ClA) (C : List Cl) (A2 : Option Addr) (nf c2 : Nat) (Y : List AtR) (w : World) (h : RdCs w w.heap.size A n Q C) (h2 : Rd w w.heap.size 2 A2 nf (Y.flatMap atC)) (hY : Y.length = nf) (h1 : 400 < n ∧ n ≤ 1000) (h2' : nf ≤ 120) :
    Calls Try.prog 4 #[.slice A n c, .slice A2 nf c2] w fun e w' => e = .returned (.bool (fewH n nf && (C.all few1 && Y.all few2))) ∧ w' = w := by
  have HC := Lib.hid h
  have HF := Lib.hid h2
  have HY := Lib.hid hY
  clear h h2 hY
  have HH := Lib.hid (show fewH n nf = true by unfold fewH; simp; omega)
  have ha : (60 : Int) < (n : Int) := by omega
  have hb : ¬ (n : Int) ≤ 400 := by omega
  have hc : ¬ (1000 : Int) < (n : Int) := by omega
  have hd : ¬ (120 : Int) < (nf : Int) := by omega
  go_enter Try.func4, Try.ntmps4
  repeat (first | go_skip | go_guarded | go_step)
  go_loop [5] (fun q => ∃ i : Nat, i ≤ n ∧ q = .int .i64 (i : Int) ∧ (C.take i).all few1 = true) (fun q => n - (intOf q).toNat)
  case atStart => exact ⟨0, by omega, rfl, by simp⟩
  case round =>
    obtain ⟨i, hi, rfl, hal⟩ := hrel
    have HAL := Lib.hid hal
    clear hal
    by_cases hlt : i < n
    · have hci : (i : Int) < (n : Int) := by omega
      obtain ⟨b, o, p, l, L, A0, n0, c0, A1, n1, c1, R, hA, hb, hx, hq, hd0, hd1, hd2, hrt, hrl⟩ := HC.out.at_ hlt
      subst hA
      have HX := Lib.hid hx
      have HRL := Lib.hid hrl
      have hl0 := rdT_len hrt
      have hl1 := hrl.lenL
      have HBAD := Lib.hid (show few1 ((p, l), L) = false → C.all few1 = false from fun h => all_at HX.out h)
      have HL0 := Lib.hid hl0
      have HL1 := Lib.hid hl1
      clear hx hq hrt hrl hb hl0 hl1
      by_cases h1 : 30 < n1
      · have h1i : (30 : Int) < (n1 : Int) := by omega
        have HZ := Lib.hid (HBAD.out (by unfold few1; rw [decide_eq_false (by dsimp only; have := HL1.out; omega)]; rfl))
        repeat (first | go_skip | go_guarded | go_step)
        go_ret
        exact ⟨by rw [HH.out, HZ.out]; rfl, rfl⟩
      have h1i : ¬ (30 : Int) < (n1 : Int) := by omega
      by_cases h0 : 30 < n0
      · have h0i : (30 : Int) < (n0 : Int) := by omega
        have HZ := Lib.hid (HBAD.out (by unfold few1; rw [decide_eq_false (p := (((p, l), L) : Cl).1.2.length ≤ 30) (by dsimp only; have := HL0.out; omega)]; simp))
        repeat (first | go_skip | go_guarded | go_step)
        go_ret
        exact ⟨by rw [HH.out, HZ.out]; rfl, rfl⟩
      have h0i : ¬ (30 : Int) < (n0 : Int) := by omega
      repeat (first | go_skip | go_guarded | go_step)
      go_loop [6] (fun q => ∃ k : Nat, k ≤ n1 ∧ q = .int .i64 (k : Int) ∧ (L.take k).all (fun y => decide (y.2.2.length ≤ 30)) = true) (fun q => n1 - (intOf q).toNat)
      case atStart => exact ⟨0, by omega, rfl, by simp⟩
      case round =>
        obtain ⟨k, hk, rfl, hal⟩ := hrel
        have HAK := Lib.hid hal
        clear hal
        by_cases hltk : k < n1
        · have hki : (k : Int) < (n1 : Int) := by omega
          obtain ⟨b3, o3, g3, p3, l3, Ai, ni, ci, hA1, hb3, hx3, he0, he1, he2, hrow⟩ := HRL.out.at_ hltk
          subst hA1
          have HX3 := Lib.hid hx3
          have HL3 := Lib.hid (rdT_len hrow)
          clear hx3 hrow hb3
          by_cases h3 : 30 < ni
          · have h3i : (30 : Int) < (ni : Int) := by omega
            have HZ := Lib.hid (HBAD.out (by
              unfold few1
              rw [all_at (l := L) HX3.out (by dsimp only; rw [decide_eq_false (by have := HL3.out; omega)])]
              simp))
            repeat (first | go_skip | go_guarded | go_step)
            go_ret
            exact ⟨by rw [HH.out, HZ.out]; rfl, rfl⟩
          · have h3i : ¬ (30 : Int) < (ni : Int) := by omega
            repeat (first | go_skip | go_guarded | go_step)
            go_round
            case rel => exact ⟨k + 1, by omega, by go_num, all_upto HX3.out HAK.out (by rw [decide_eq_true (by have := HL3.out; dsimp only; omega)])⟩
            case measure => simp [intOf]; omega
        · obtain rfl : n1 = k := by omega
          have hki : ¬ (n1 : Int) < (n1 : Int) := by omega
          repeat (first | go_skip | go_guarded | go_step)
          go_round
          case rel => exact ⟨i + 1, by omega, by go_num, all_upto HX.out HAL.out (by
            unfold few1
            rw [decide_eq_true (by dsimp only; have := HL1.out; omega), decide_eq_true (p := (((p, l), L) : Cl).1.2.length ≤ 30) (by dsimp only; have := HL0.out; omega), all_whole (l := L) (by have := HL1.out; omega) HAK.out]
            rfl)⟩
          case measure => simp [intOf]; omega
    · obtain rfl : n = i := by omega
      have hci : ¬ (n : Int) < (n : Int) := by omega
      have HALL := Lib.hid (show C.all few1 = true from all_whole (by have := HC.out.lenC; omega) HAL.out)
      repeat (first | go_skip | go_guarded | go_step)
      go_loop [7] (fun q => ∃ k : Nat, k ≤ nf ∧ q = .int .i64 (k : Int) ∧ (Y.take k).all few2 = true) (fun q => nf - (intOf q).toNat)
      case atStart => exact ⟨0, by omega, rfl, by simp⟩
      case round =>
        obtain ⟨k, hk, rfl, hal⟩ := hrel
        have HAK := Lib.hid hal
        clear hal
        by_cases hltk : k < nf
        · have hki : (k : Int) < (nf : Int) := by omega
          obtain ⟨x, hx⟩ : ∃ x, Y[k]? = some x := ⟨_, List.getElem?_eq_getElem (by rw [HY.out]; exact hltk)⟩
          obtain ⟨b4, o4, hAl, hb4, hc0, hc1⟩ := rdAt HF.out hltk hx
          subst hAl
          obtain ⟨px, Ax, nx, cx⟩ := x
          dsimp only at hc0 hc1
          have HX := Lib.hid hx
          clear hx hb4
          by_cases h3 : 30 < nx
          · have h3i : (30 : Int) < (nx : Int) := by omega
            have HZ := Lib.hid (show Y.all few2 = false from all_at HX.out (by unfold few2; rw [decide_eq_false (by dsimp only; omega)]))
            repeat (first | go_skip | go_guarded | go_step)
            go_ret
            exact ⟨by rw [HH.out, HALL.out, HZ.out]; rfl, rfl⟩
          · have h3i : ¬ (30 : Int) < (nx : Int) := by omega
            repeat (first | go_skip | go_guarded | go_step)
            go_round
            case rel => exact ⟨k + 1, by omega, by go_num, all_upto HX.out HAK.out (by unfold few2; rw [decide_eq_true (by dsimp only; omega)])⟩
            case measure => simp [intOf]; omega
        · obtain rfl : nf = k := by omega
          have hki : ¬ (nf : Int) < (nf : Int) := by omega
          have HZ := Lib.hid (show Y.all few2 = true from all_whole (by have := HY.out; omega) HAK.out)
          repeat (first | go_skip | go_guarded | go_step)
          go_ret
          exact ⟨by rw [HH.out, HALL.out, HZ.out]; rfl, rfl⟩
theorem few_any (A : Option Addr) (n c : Nat) (Q : List ClA) (C : List Cl) (A2 : Option Addr) (nf c2 : Nat) (Y : List AtR) (w : World) (h : RdCs w w.heap.size A n Q C) (h2 : Rd w w.heap.size 2 A2 nf (Y.flatMap atC)) (hY : Y.length = nf) :
    Calls Try.prog 4 #[.slice A n c, .slice A2 nf c2] w fun e w' => e = .returned (.bool (fewB n nf C Y)) ∧ w' = w := by
  unfold fewB
  by_cases h1 : n ≤ 60
  · by_cases h3 : 120 < nf
    · exact few_c A n c Q C A2 nf c2 Y w h h2 hY h1 h3
    · exact few_e A n c Q C A2 nf c2 Y w h h2 hY h1 (by omega)
  · by_cases h4 : n ≤ 400
    · exact few_a A n c Q C A2 nf c2 Y w h h2 hY ⟨by omega, h4⟩
    · by_cases h5 : 1000 < n
      · exact few_b A n c Q C A2 nf c2 Y w h h2 hY h5
      · by_cases h3 : 120 < nf
        · exact few_d A n c Q C A2 nf c2 Y w h h2 hY ⟨by omega, by omega⟩ h3
        · exact few_f A n c Q C A2 nf c2 Y w h h2 hY ⟨by omega, by omega⟩ (by omega)
end Go.Proofs.Ytfmghkplafploaa

set_option linter.unusedVariables false
set_option linter.unusedSimpArgs false
namespace Go.Proofs.Ytfmghkplafploaa
open Go Go.RowKit

abbrev ZC := Cl × ClA
theorem clC_len (Z : List ZC) : (Z.flatMap clC).length = Z.length * 3 := by
  induction Z with
  | nil => rfl
  | cons x X ih => rw [List.flatMap_cons, List.length_append, ih, List.length_cons]; simp [clC]; omega
theorem clC_one (Z : List ZC) : ∀ u ∈ Z.flatMap clC, u.oneCell' = true := by
  intro u hu
  obtain ⟨x, _, hx⟩ := List.mem_flatMap.1 hu
  simp only [clC, List.mem_cons, List.not_mem_nil, or_false] at hx
  rcases hx with rfl | rfl | rfl <;> rfl
/-- What stands in clauses is read. -/
def RowZ (w : World) (B : Nat) (Z : List ZC) : Prop := ∀ z ∈ Z, RdT w B z.2.1.1 z.2.1.2.1 z.1.1.2 ∧ RdL w B z.2.2.1.1 z.2.2.1.2.1 z.2.2.2 z.1.2
section
variable {w w' : World} {B B' n : Nat} {A : Option Addr} {Q : List ClA} {C : List Cl} {Z Y : List ZC}
theorem RowZ.below (h : RowZ w B Z) (hb : Below B w w') : RowZ w' B Z := fun z hz => ⟨(h z hz).1.below hb, (h z hz).2.below hb⟩
theorem RowZ.more (h : RowZ w B Z) (hB : B ≤ B') : RowZ w B' Z := fun z hz => ⟨(h z hz).1.more hB, (h z hz).2.more hB⟩
theorem RowZ.append (h : RowZ w B Z) (k : RowZ w B Y) : RowZ w B (Z ++ Y) := fun z hz => (List.mem_append.1 hz).elim (h z) (k z)
theorem RowZ.sub (h : RowZ w B Z) (hs : ∀ y ∈ Y, y ∈ Z) : RowZ w B Y := fun y hy => h y (hs y hy)
theorem RowZ.nil : RowZ w B [] := fun z hz => by cases hz
theorem RdCs.rowZ (h : RdCs w B A n Q C) : RowZ w B (C.zip Q) := fun z hz => by
  obtain ⟨i, hi⟩ := List.mem_iff_getElem?.1 hz
  obtain ⟨x, q⟩ := z
  rw [List.getElem?_zip_eq_some] at hi
  exact h.row i q x hi.2 hi.1
theorem rdCs_of (hr : Rd w B 3 A n (Z.flatMap clC)) (hz : RowZ w B Z) : RdCs w B A n (Z.map (·.2)) (Z.map (·.1)) := by
  have hl : Z.length = n := by have := hr.1; rw [clC_len] at this; omega
  refine ⟨by rw [List.length_map]; exact hl, by rw [List.length_map]; exact hl, ?_, fun i q x h1 h2 => ?_⟩
  · have : (Z.map (·.1)).zip (Z.map (·.2)) = Z := by
      clear hr hz hl
      induction Z with
      | nil => rfl
      | cons z Z ih => simp [ih]
    rw [this]
    exact hr
  · rw [List.getElem?_map] at h1 h2
    cases hz' : Z[i]? with
    | none => rw [hz'] at h1; cases h1
    | some z =>
      rw [hz'] at h1 h2
      simp only [Option.map_some, Option.some.injEq] at h1 h2
      subst h1 h2
      exact hz z (List.mem_of_getElem? hz')
theorem zip_fst (h : RdCs w B A n Q C) : (C.zip Q).map (·.1) = C := List.map_fst_zip (by rw [h.lenC, h.lenQ]; exact Nat.le_refl _)
theorem zip_len (h : RdCs w B A n Q C) : (C.zip Q).length = n := by rw [List.length_zip, h.lenC, h.lenQ, Nat.min_self]
theorem rdZ_take {k : Nat} (h : Rd w B 3 A n (Z.flatMap clC)) (hk : k ≤ n) : Rd w B 3 A k ((Z.take k).flatMap clC) := by
  have hl : Z.length = n := by have := h.1; rw [clC_len] at this; omega
  refine ⟨by rw [clC_len, List.length_take]; omega, fun hp => ?_⟩
  obtain ⟨b, o, e, hb, hc⟩ := h.2 (by omega)
  refine ⟨b, o, e, hb, fun j u hu => hc j u ?_⟩
  have hpre : Z.flatMap clC = (Z.take k).flatMap clC ++ (Z.drop k).flatMap clC := by
    rw [← List.flatMap_append, List.take_append_drop]
  rw [hpre, List.getElem?_append_left (List.getElem?_eq_some_iff.1 hu).1]
  exact hu
theorem rdZ_drop {k c : Nat} (h : Rd w B 3 A n (Z.flatMap clC)) (hk : k ≤ n) (hc : n ≤ c) : Rd w B 3 (if c = k then A else A.map (fun x => x.add (k * 3))) (n - k) ((Z.drop k).flatMap clC) := by
  have hl : Z.length = n := by have := h.1; rw [clC_len] at this; omega
  refine ⟨by rw [clC_len, List.length_drop]; omega, fun hp => ?_⟩
  obtain ⟨b, o, e, hb, hcl⟩ := h.2 (by omega)
  refine ⟨b, o + k * 3, ?_, hb, fun j u hu => ?_⟩
  · rw [if_neg (by omega), e]
    simp only [Option.map_some, addPlain]
  · have hpre : Z.flatMap clC = (Z.take k).flatMap clC ++ (Z.drop k).flatMap clC := by
      rw [← List.flatMap_append, List.take_append_drop]
    have := hcl (k * 3 + j) u (by
      rw [hpre, List.getElem?_append_right (by rw [clC_len, List.length_take]; omega), clC_len, List.length_take, Nat.min_eq_left (by omega), show k * 3 + j - k * 3 = j by omega]
      exact hu)
    rwa [show o + k * 3 + j = o + (k * 3 + j) by omega]
end
/-! ### Rows of clauses of the call's own -/
def OwC (w : World) (base : Nat) (A : Option Addr) (c n : Nat) (Z : List ZC) : Prop := w.ownsRow base 31 3 (.slice A n c) n (Z.flatMap clC)
section
variable {w w' : World} {base c n : Nat} {A : Option Addr} {Z : List ZC}
theorem OwC.len (h : OwC w base A c n Z) : Z.length = n := by
  have := h.1
  rw [clC_len] at this
  omega
theorem OwC.rd (h : OwC w base A c n Z) : Rd w w.heap.size 3 A n (Z.flatMap clC) := Rd.ofOwn h
theorem OwC.le (h : OwC w base A c n Z) : n ≤ c := by
  obtain ⟨A', c', e, hle⟩ := ownForm h
  simp only [Value.slice.injEq] at e
  omega
theorem OwC.later (h : OwC w base A c n Z) (hb : Below w.heap.size w w') : OwC w' base A c n Z := ownBelow h hb (Nat.le_refl _)
theorem OwC.low (h : OwC w base A c n Z) {k : Nat} (hk : A.map (·.block) = some k) : base ≤ k ∧ k < w.heap.size := World.ownsRow.lt h k (by rw [ownBlk_slice]; exact hk)
theorem OwC.empty (w : World) (base : Nat) (hb : base ≤ w.heap.size) : OwC (w.alloc (.cells #[] 31)) base (some ⟨w.heap.size, 0, none⟩) 0 0 [] :=
  World.ownsRow_lit (base := base) w #[] 0 hb (by simp [maxLen]) (by simp)
end
theorem clInfo : (Try.prog.info? 31).map (fun i => (i.zero, i.size, i.bytes)) = some (some (.agg #[.int .u32 0, .slice none 0 0, .slice none 0 0]), 3, 56) := by kernel_rfl
theorem litC (w : World) (p : UInt32) (A0 : Option Addr) (n0 c0 : Nat) (A1 : Option Addr) (n1 c1 : Nat) (l : List Tm) (L : List Li) (R : List SlA) :
    Rd (w.alloc (.cells #[nv p, .slice A0 n0 c0, .slice A1 n1 c1] 31)) (w.heap.size + 1) 3 (some ⟨w.heap.size, 0, none⟩) 1 ([((((p, l), L) : Cl), (((A0, n0, c0), (A1, n1, c1), R) : ClA))].flatMap clC) :=
  ⟨rfl, fun _ => ⟨_, _, rfl, by omega, fun j u hu => by
    rw [Nat.zero_add, cell_of_row _ _ j #[nv p, .slice A0 n0 c0, .slice A1 n1 c1] 31 (0, 0) (heap_alloc_new w _)]
    simpa [clC, SlA.val] using hu⟩⟩
theorem appC_wp {o : Oper} {a : Act} {K : Act → World → Prop} {Q : Exit → Act → World → Prop} (w : World) (p x : Operand)
    (ho : o.op = .call { callee := .builtin .append, args := #[p, x], argTypes := #[22, 22] })
    (base : Nat) (A0 : Option Addr) (c0 n : Nat) (Z : List ZC) (hv : a.eval p = .slice A0 n c0) (hown : OwC w base A0 c0 n Z)
    (B : Nat) (A : Option Addr) (m c : Nat) (Y : List ZC) (hx : a.eval x = .slice A m c) (hr : Rd w B 3 A m (Y.flatMap clC)) (hb : n + m ≤ 1000000000000) (hbase : base ≤ w.heap.size)
    (h : ∀ A' c' w', OwC w' base A' c' (n + m) (Z ++ Y) → Turn (fun k => A0.map (·.block) = some k) w w' → (A'.map (·.block) = A0.map (·.block) ∨ A'.map (·.block) = some w.heap.size) → K (a.put o.dst (.slice A' (n + m) c')) w') : Oper.wp Try.prog o a w K Q := by
  obtain ⟨i0, hi, hz0, hz1, hz2⟩ := info_parts clInfo
  refine wp_app w p x 22 ho base 31 i0 _ 3 56 Try.underlying22 hi hz0 hz1 hz2 rfl (by decide) _ n _ hv hown B A m c _ hx hr (clC_one Y) (by simp only [maxLen]; omega) (by omega) hbase ?_
  intro A' c' w' h4 h2 h3
  rw [ownBlk_slice, ownBlk_slice] at h3
  exact h A' c' w' (by unfold OwC; rw [List.flatMap_append]; exact h4) (Turn.ofGrown h2 fun k hk => by rw [ownBlk_slice] at hk; exact hk) h3
theorem appC {ops : Array Oper} {rest : List Oper} {o : Oper} {a : Act} {Q : Exit → Act → World → Prop} (w : World) (hgd : o.guard = none) (p x : Operand)
    (ho : o.op = .call { callee := .builtin .append, args := #[p, x], argTypes := #[22, 22] })
    (base : Nat) (A0 : Option Addr) (c0 n : Nat) (Z : List ZC) (hv : a.eval p = .slice A0 n c0) (hown : OwC w base A0 c0 n Z)
    (B : Nat) (A : Option Addr) (m c : Nat) (Y : List ZC) (hx : a.eval x = .slice A m c) (hr : Rd w B 3 A m (Y.flatMap clC)) (hb : n + m ≤ 1000000000000) (hbase : base ≤ w.heap.size)
    (h : ∀ A' c' w', OwC w' base A' c' (n + m) (Z ++ Y) → Turn (fun k => A0.map (·.block) = some k) w w' → (A'.map (·.block) = A0.map (·.block) ∨ A'.map (·.block) = some w.heap.size) → wpList Try.prog ops Q rest (a.put o.dst (.slice A' (n + m) c')) w') : wpList Try.prog ops Q (o :: rest) a w :=
  wpList_plain hgd fun _ hK => appC_wp w p x ho base A0 c0 n Z hv hown B A m c Y hx hr hb hbase fun A' c' w' h2 h3 h4 => hK _ _ (h A' c' w' h2 h3 h4)
theorem anyd_appC {ops : Array Oper} {E : Prop} {o : Oper} {a : Act} {K : Act → World → Prop} {Q : Exit → Act → World → Prop} {w : World} (hwant : Region.wanted o (yielded ops a.tmps) = true) (p x : Operand)
    (ho : o.op = .call { callee := .builtin .append, args := #[p, x], argTypes := #[22, 22] })
    (base : Nat) (A0 : Option Addr) (c0 n : Nat) (Z : List ZC) (hv : a.eval p = .slice A0 n c0) (hown : OwC w base A0 c0 n Z)
    (B : Nat) (A : Option Addr) (m c : Nat) (Y : List ZC) (hx : a.eval x = .slice A m c) (hr : Rd w B 3 A m (Y.flatMap clC)) (hb : n + m ≤ 1000000000000) (hbase : base ≤ w.heap.size)
    (h : ∀ A' c' w', OwC w' base A' c' (n + m) (Z ++ Y) → Turn (fun k => A0.map (·.block) = some k) w w' → (A'.map (·.block) = A0.map (·.block) ∨ A'.map (·.block) = some w.heap.size) → K (a.put o.dst (.slice A' (n + m) c')) w') :
    if Region.wanted o (yielded ops a.tmps) = true then Oper.wp Try.prog o a w K Q else E := by
  rw [if_pos hwant]
  exact appC_wp w p x ho base A0 c0 n Z hv hown B A m c Y hx hr hb hbase h
theorem anyd_emptyC {ops : Array Oper} {E : Prop} {o : Oper} {a : Act} {w : World} {K : Act → World → Prop} {Q : Exit → Act → World → Prop} (hwant : Region.wanted o (yielded ops a.tmps) = true)
    (ho : o.op = .buildSlice 22 0 #[]) (base : Nat) (hbase : base ≤ w.heap.size)
    (h : ∀ V A c, OwC V base A c 0 [] → Below w.heap.size w V → K (a.put o.dst (.slice A 0 c)) V) :
    if Region.wanted o (yielded ops a.tmps) = true then Oper.wp Try.prog o a w K Q else E := by
  rw [if_pos hwant]
  obtain ⟨ie, hie, hz, hs, hb⟩ := info_parts clInfo
  unfold Oper.wp execOp
  have hr : (Instr.buildSlice 22 0 #[]).run Try.prog w = .ok (.slice (some ⟨w.heap.size, 0, none⟩) 0 0) (w.alloc (.cells #[] 31)) := by
    simp [Instr.buildSlice, run_underlying Try.underlying22, sizeOf, typeInfo, zeroValue, hie, hz, hs, newRow, Instr.fill]
    kernel_rfl
  simp only [ho, Sem.run_bind, List.map_toArray, List.map_nil, hr, Result.andThen_ok]
  exact h _ _ _ (OwC.empty w base hbase) ((Below.refl _ _).alloc (Nat.le_refl _) _)
theorem run_litC (p : UInt32) (A0 : Option Addr) (n0 c0 : Nat) (A1 : Option Addr) (n1 c1 : Nat) (w : World) : (Instr.buildSlice 22 1 #[(0, .agg #[nv p, .slice A0 n0 c0, .slice A1 n1 c1])]).run Try.prog w = .ok (.slice (some ⟨w.heap.size, 0, none⟩) 1 1) (w.alloc (.cells #[nv p, .slice A0 n0 c0, .slice A1 n1 c1] 31)) := by
  obtain ⟨i0, hi, hz0, hz1, hz2⟩ := info_parts clInfo
  simp [Instr.buildSlice, run_underlying Try.underlying22, sizeOf, typeInfo, zeroValue, hi, hz0, hz1, newRow, Instr.fill]
  kernel_rfl
theorem OwC.one (w : World) (base : Nat) (hb : base ≤ w.heap.size) (p : UInt32) (A0 : Option Addr) (n0 c0 : Nat) (A1 : Option Addr) (n1 c1 : Nat) (l : List Tm) (L : List Li) (R : List SlA) :
    OwC (w.alloc (.cells #[nv p, .slice A0 n0 c0, .slice A1 n1 c1] 31)) base (some ⟨w.heap.size, 0, none⟩) 1 1 [((((p, l), L) : Cl), (((A0, n0, c0), (A1, n1, c1), R) : ClA))] :=
  World.ownsRow_lit (base := base) w #[nv p, .slice A0 n0 c0, .slice A1 n1 c1] 1 hb (by simp [maxLen]) rfl
theorem anyd_lit1C {ops : Array Oper} {E : Prop} {o : Oper} {a : Act} {w : World} {K : Act → World → Prop} {Q : Exit → Act → World → Prop} (hwant : Region.wanted o (yielded ops a.tmps) = true) (x : Operand)
    (ho : o.op = .buildSlice 22 1 #[(0, x)]) (p : UInt32) (A0 : Option Addr) (n0 c0 : Nat) (A1 : Option Addr) (n1 c1 : Nat) (hx : a.eval x = .agg #[nv p, .slice A0 n0 c0, .slice A1 n1 c1])
    (l : List Tm) (L : List Li) (R : List SlA)
    (h : ∀ V q, OwC V w.heap.size (some ⟨q, 0, none⟩) 1 1 [((((p, l), L) : Cl), (((A0, n0, c0), (A1, n1, c1), R) : ClA))] → q = w.heap.size → Below w.heap.size w V → K (a.put o.dst (.slice (some ⟨q, 0, none⟩) 1 1)) V) :
    if Region.wanted o (yielded ops a.tmps) = true then Oper.wp Try.prog o a w K Q else E := by
  rw [if_pos hwant]
  unfold Oper.wp execOp
  simp only [ho, Sem.run_bind, List.map_toArray, List.map_cons, List.map_nil, hx, run_litC, Result.andThen_ok]
  exact h _ _ (OwC.one w _ (Nat.le_refl _) p A0 n0 c0 A1 n1 c1 l L R) rfl ((Below.refl _ _).alloc (Nat.le_refl _) _)
theorem anyd_appC0 {ops : Array Oper} {E : Prop} {o : Oper} {a : Act} {K : Act → World → Prop} {Q : Exit → Act → World → Prop} {w : World} (hwant : Region.wanted o (yielded ops a.tmps) = true) (p x : Operand)
    (ho : o.op = .call { callee := .builtin .append, args := #[p, x], argTypes := #[22, 22] })
    (base : Nat) (A0 : Option Addr) (c0 : Nat) (hv : a.eval p = .slice A0 0 c0) (hown : OwC w base A0 c0 0 [])
    (B : Nat) (A : Option Addr) (m c : Nat) (Y : List ZC) (hx : a.eval x = .slice A m c) (hr : Rd w B 3 A m (Y.flatMap clC)) (hb : m ≤ 1000000000000) (hbase : base ≤ w.heap.size)
    (h : ∀ A' c' w', OwC w' base A' c' m Y → Turn (fun k => A0.map (·.block) = some k) w w' → (A'.map (·.block) = A0.map (·.block) ∨ A'.map (·.block) = some w.heap.size) → K (a.put o.dst (.slice A' m c')) w') :
    if Region.wanted o (yielded ops a.tmps) = true then Oper.wp Try.prog o a w K Q else E := by
  refine anyd_appC hwant p x ho base A0 c0 0 [] hv hown B A m c Y hx hr (by omega) hbase ?_
  intro A' c' w' h1 h2 h3
  rw [Nat.zero_add] at h1 ⊢
  exact h A' c' w' h1 h2 h3
theorem appC0 {ops : Array Oper} {rest : List Oper} {o : Oper} {a : Act} {Q : Exit → Act → World → Prop} (w : World) (hgd : o.guard = none) (p x : Operand)
    (ho : o.op = .call { callee := .builtin .append, args := #[p, x], argTypes := #[22, 22] })
    (base : Nat) (A0 : Option Addr) (c0 : Nat) (hv : a.eval p = .slice A0 0 c0) (hown : OwC w base A0 c0 0 [])
    (B : Nat) (A : Option Addr) (m c : Nat) (Y : List ZC) (hx : a.eval x = .slice A m c) (hr : Rd w B 3 A m (Y.flatMap clC)) (hb : m ≤ 1000000000000) (hbase : base ≤ w.heap.size)
    (h : ∀ A' c' w', OwC w' base A' c' m Y → Turn (fun k => A0.map (·.block) = some k) w w' → (A'.map (·.block) = A0.map (·.block) ∨ A'.map (·.block) = some w.heap.size) → wpList Try.prog ops Q rest (a.put o.dst (.slice A' m c')) w') : wpList Try.prog ops Q (o :: rest) a w := by
  refine appC w hgd p x ho base A0 c0 0 [] hv hown B A m c Y hx hr (by omega) hbase ?_
  intro A' c' w' h1 h2 h3
  rw [Nat.zero_add] at h1 ⊢
  exact h A' c' w' h1 h2 h3
theorem anyd_loadC {op : Oper} {a : Act} {w : World} {K : Act → World → Prop} {Q : Exit → Act → World → Prop} {E : Prop} {ops : Array Oper} (hwant : Region.wanted op (yielded ops a.tmps) = true) (x : Operand) (ho : op.op = .load 31 x)
    (g : Nat) (hx : a.eval x = .pointer (some ⟨g, 0, none⟩)) (p : UInt32) (u v : Value) (hg : Bk w g 31 [nv p, u, v])
    (h : K (a.put op.dst (.agg #[nv p, u, v])) w) : if Region.wanted op (yielded ops a.tmps) = true then Oper.wp Try.prog op a w K Q else E := by
  rw [if_pos hwant]
  exact wp_load_row 31 x ho g hx 31 #[nv p, u, v] (0, 0) _ hg Try.underlying31 rfl (by kernel_rfl) h
theorem RdL.trim {w : World} {B n : Nat} {A : Option Addr} {R : List SlA} {L : List Li} (h : RdL w B A n R L) : RdL w B A (n - 1) R.dropLast L.dropLast := by
  have hl := h.lenL
  have hr := h.lenR
  refine ⟨by rw [List.length_dropLast]; omega, by rw [List.length_dropLast]; omega, ?_, fun i r x h1 h2 => ?_⟩
  · have hz : (L.dropLast.zip R.dropLast) = (L.zip R).take (n - 1) := by
      rw [List.dropLast_eq_take, List.dropLast_eq_take, hl, hr]
      unfold List.zip
      rw [List.take_zipWith]
    have hlen : ∀ X : List (Li × SlA), (X.flatMap liC).length = X.length * 3 := fun X => by
      induction X with
      | nil => rfl
      | cons x X ih => rw [List.flatMap_cons, List.length_append, ih, List.length_cons]; simp [liC]; omega
    rw [hz]
    refine ⟨by rw [hlen, List.length_take, List.length_zip, hl, hr]; omega, fun hp => ?_⟩
    obtain ⟨b, o, e, hb, hc⟩ := h.top.2 (by omega)
    refine ⟨b, o, e, hb, fun j u hu => hc j u ?_⟩
    have hpre : (L.zip R).flatMap liC = ((L.zip R).take (n - 1)).flatMap liC ++ ((L.zip R).drop (n - 1)).flatMap liC := by
      rw [← List.flatMap_append, List.take_append_drop]
    rw [hpre, List.getElem?_append_left (List.getElem?_eq_some_iff.1 hu).1]
    exact hu
  · rw [List.dropLast_eq_take, List.getElem?_take] at h1 h2
    split at h1
    · split at h2
      · exact h.row i r x h1 h2
      · cases h2
    · cases h1
end Go.Proofs.Ytfmghkplafploaa

