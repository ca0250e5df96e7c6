/- Texts, packed: GrP GrQ GrR GrW GrY -/
import Derived.Test.YtfmghkplafploaaPwO
import Derived.Shelf.Small.Wraps
import Derived.Shelf.Sort.Plain
import Derived.Shelf.Slices.Turned
import Derived.Shelf.Slices.Clone
import Derived.Shelf.Spec.SlicesInsertGrow
import Derived.Shelf.Slices.SearchI
import Derived.Shelf.Slices.In.SortNone
import Derived.Shelf.Slices.Empties
import Derived.Shelf.SlicesE.IndexFunc
import Derived.Shelf.SlSortCmp.Whole1
import Derived.Shelf.SlSortCmp.NoneTotal
import Derived.Test.YtfmghkplafploaaPwJ
set_option linter.unusedVariables false
set_option linter.unusedSimpArgs false
namespace Go.Proofs.Ytfmghkplafploaa
open Go Go.RowKit Go.Lib Go.Shelf

/-! ### Part -/
def ixB : List Bool → Nat → Int
  | [], _ => -1
  | b :: r, i => if b then (i : Int) else ixB r (i + 1)
def hasI (x : Int) (p : List Nat) : Bool := p.any fun y => ((y : Int) == x)
/-- Which part has it, counted from 0; -1: none. -/
def partIx (L : List (List Nat)) (x : Int) : Int := ixB (L.map (hasI x)) 0
end Go.Proofs.Ytfmghkplafploaa

set_option linter.unusedVariables false
set_option linter.unusedSimpArgs false
namespace Go.Proofs.Ytfmghkplafploaa
open Go Go.RowKit

noncomputable def comB (E : List (Nat × Nat)) (u v : Nat) : Bool := @decide (Com E u v) (Classical.propDecidable _)
/-- The truths of a function, in a row. -/
def bC (k : Nat) (f : Nat → Bool) : List Value := (List.range k).map fun i => .bool (f i)
end Go.Proofs.Ytfmghkplafploaa

set_option linter.unusedVariables false
set_option linter.unusedSimpArgs false
namespace Go.Proofs.Ytfmghkplafploaa
open Go Go.RowKit

/-- To which nodes the first m come: rows of truths. -/
structure RdC (w : World) (A : Option Addr) (n m : Nat) (E : List (Nat × Nat)) (fG : Nat → Nat) : Prop where
  top : Rd w w.heap.size 1 A m ((List.range m).map fun v => .slice (some ⟨fG v, 0, none⟩) n n)
  row : ∀ v, v < m → fG v < w.heap.size ∧ ∀ u, u < n → w.cell? ⟨fG v, u, none⟩ = some (.bool (comB E v u))
theorem RdC.at_ {w : World} {A : Option Addr} {n m : Nat} {E : List (Nat × Nat)} {fG : Nat → Nat} (h : RdC w A n m E fG) {v : Nat} (hv : v < m) :
    ∃ b o, A = some ⟨b, o, none⟩ ∧ b < w.heap.size ∧ w.cell? ⟨b, o + v, none⟩ = some (.slice (some ⟨fG v, 0, none⟩) n n) := by
  obtain ⟨b, o, u, hA, hb, hu, hc⟩ := h.top.at1 hv
  rw [List.getElem?_map, List.getElem?_range hv] at hu
  obtain rfl := Option.some.inj hu
  exact ⟨b, o, hA, hb, hc⟩
theorem RdC.below {w w' : World} {A : Option Addr} {n m : Nat} {E : List (Nat × Nat)} {fG : Nat → Nat} (h : RdC w A n m E fG) (hb : Below w.heap.size w w') : RdC w' A n m E fG :=
  ⟨(h.top.below hb).more hb.size, fun v hv => ⟨Nat.lt_of_lt_of_le (h.row v hv).1 hb.size, fun u hu => (hb.cell (p := ⟨fG v, u, none⟩) (h.row v hv).1).trans ((h.row v hv).2 u hu)⟩⟩
theorem ixB_found : ∀ (l : List Bool) (i k : Nat), (∀ j, j < k → l[j]? = some false) → l[k]? = some true → ixB l i = ((i + k : Nat) : Int)
  | [], _, k, _, h => by simp at h
  | b :: l, i, 0, _, h => by
    simp only [List.getElem?_cons_zero, Option.some.injEq] at h
    subst h
    rfl
  | b :: l, i, k + 1, h1, h2 => by
    have h0 := h1 0 (by omega)
    simp only [List.getElem?_cons_zero, Option.some.injEq] at h0
    subst h0
    show ixB l (i + 1) = _
    rw [ixB_found l (i + 1) k (fun j hj => by have := h1 (j + 1) (by omega); rwa [List.getElem?_cons_succ] at this) (by rwa [List.getElem?_cons_succ] at h2)]
    omega
theorem ixB_none : ∀ (l : List Bool) (i : Nat), (∀ b ∈ l, b = false) → ixB l i = -1
  | [], _, _ => rfl
  | b :: l, i, h => by
    have h0 := h b (by simp)
    subst h0
    exact ixB_none l (i + 1) fun b hb => h b (List.mem_cons_of_mem _ hb)
end Go.Proofs.Ytfmghkplafploaa

set_option linter.unusedVariables false
set_option linter.unusedSimpArgs false
namespace Go.Proofs.Ytfmghkplafploaa
open Go Go.RowKit

/-! ### Small graphs, reckoned -/
def grow (E : List (Nat × Nat)) (S : List Nat) : List Nat := S ++ (E.filter fun e => S.contains e.1).map (·.2)
/-! ### few -/
/-! ### right -/
end Go.Proofs.Ytfmghkplafploaa

set_option linter.unusedVariables false
set_option linter.unusedSimpArgs false
namespace Go.Proofs.Ytfmghkplafploaa
open Classical

section
variable {n : Nat} {E E' : List (Nat × Nat)}
theorem Order.congr (h : ∀ u v, u < n → (Com E u v ↔ Com E' u v)) {T : List Nat} {L : List (List Nat)} (ho : Order n E T L) : Order n E' T L := by
  have hs : ∀ T v, Sink n E T v ↔ Sink n E' T v := fun T v => by
    constructor
    · rintro ⟨a, b, c⟩
      exact ⟨a, b, fun u hu hT hc => (h u v hu).1 (c u hu hT ((h v u a).2 hc))⟩
    · rintro ⟨a, b, c⟩
      exact ⟨a, b, fun u hu hT hc => (h u v hu).2 (c u hu hT ((h v u a).1 hc))⟩
  have hp : ∀ v, v < n → part n E v = part n E' v := fun v hv => by
    unfold part
    refine List.filter_congr fun u hu => ?_
    have hu' := List.mem_range.1 hu
    have : Both E v u ↔ Both E' v u := by unfold Both; rw [h v u hv, h u v hu']
    simp [this]
  induction ho with
  | done hn => exact .done fun v k => hn v ((hs _ v).2 k)
  | @next T v L h1 h2 ih =>
    rw [hp v h1.1.1] at ih ⊢
    exact .next ⟨(hs _ v).1 h1.1, fun u hu k => h1.2 u hu ((hs _ u).2 k)⟩ ih
/-- An edge that leads where one comes anyway. -/
theorem com_more {a b : Nat} (h : Com E a b) {u v : Nat} : Com (E ++ [(a, b)]) u v ↔ Com E u v := by
  constructor
  · intro k
    induction k with
    | refl => exact .refl
    | step _ he ih =>
      rcases List.mem_append.1 he with q | q
      · exact ih.step q
      · simp only [List.mem_singleton, Prod.mk.injEq] at q
        obtain ⟨rfl, rfl⟩ := q
        exact ih.trans h
  · exact Com.mono fun e he => List.mem_append_left _ he
theorem com_back {a b : Nat} {x : Nat} (h : Com (E ++ [(a, b)]) b x) : Com E b x := by
  induction h with
  | refl => exact .refl
  | step _ he ih =>
    rcases List.mem_append.1 he with q | q
    · exact ih.step q
    · simp only [List.mem_singleton, Prod.mk.injEq] at q
      obtain ⟨rfl, rfl⟩ := q
      exact .refl
theorem IsParts.le_of {L L' : List (List Nat)} (h : IsParts n E L) (h' : IsParts n E' L') (hb : ∀ u v, u < n → v < n → Both E u v → Both E' u v) : L'.length ≤ L.length := by
  have h1 : ∀ p ∈ L', p.headD 0 < n ∧ p.headD 0 ∈ p := by
    intro p hp
    obtain ⟨x, p', e⟩ := List.exists_cons_of_ne_nil (h'.ne hp)
    obtain ⟨v, _, e2⟩ := h'.cls p hp
    have : p.headD 0 ∈ p := by rw [e]; simp
    refine ⟨?_, this⟩
    rw [e2] at this
    rw [e2]
    exact (mem_part.1 this).1
  have hnd : (L'.map fun p => ofQ L (p.headD 0)).Nodup := by
    refine List.pairwise_map.2 ?_
    refine h'.apart.imp_of_mem fun {p q} hp hq k e => ?_
    have hbo := hb _ _ (h1 p hp).1 (h1 q hq).1 ((h.both_iff (h1 p hp).1 (h1 q hq).1).1 e)
    obtain ⟨i, hi, ei⟩ := List.getElem_of_mem hp
    have hp2 : L'[i]? = some p := by rw [List.getElem?_eq_getElem hi, ei]
    have : p = part n E' (p.headD 0) := h'.part_of hp2 (h1 p hp).2
    refine k (q.headD 0) ?_ (h1 q hq).2
    rw [this]
    exact mem_part.2 ⟨(h1 q hq).1, hbo⟩
  have := nodup_below L.length _ hnd fun x hx => by
    obtain ⟨p, hp, rfl⟩ := List.mem_map.1 hx
    exact h.of_lt (h1 p hp).1
  simpa using this
theorem IsParts.len_single {L : List (List Nat)} (h : IsParts n [] L) : L.length = n := by
  have hc : ∀ u v, Com [] u v → u = v := fun u v k => by
    induction k with
    | refl => rfl
    | step _ he => simp at he
  refine Nat.le_antisymm h.len_le ?_
  have hnd : ((List.range n).map (ofQ L)).Nodup := by
    refine List.pairwise_map.2 ?_
    refine List.Pairwise.imp_of_mem (fun {a b} ha hb k e => ?_) (List.pairwise_lt_range (n := n))
    have := (h.both_iff (List.mem_range.1 ha) (List.mem_range.1 hb)).1 e
    have := hc _ _ this.1
    omega
  have := nodup_below L.length _ hnd fun x hx => by
    obtain ⟨p, hp, rfl⟩ := List.mem_map.1 hx
    exact h.of_lt (List.mem_range.1 hp)
  simpa using this
theorem in_rev (hE : In n E) : In n (rev E) := fun e he => by
  obtain ⟨a, b⟩ := e
  have := hE _ (mem_rev.1 he)
  exact ⟨this.2, this.1⟩
theorem both_rev {u v : Nat} : Both (rev E) u v ↔ Both E u v := by unfold Both; rw [com_rev_iff, com_rev_iff]; exact And.comm
end
open Go Go.RowKit
theorem partIx_at {n : Nat} {E : List (Nat × Nat)} {L : List (List Nat)} (h : IsParts n E L) {v : Nat} (hv : v < n) : partIx L (v : Int) = (ofQ L v : Int) := by
  obtain ⟨p, h1, h2⟩ := h.of_mem hv
  have hh : ∀ q : List Nat, hasI (v : Int) q = true ↔ v ∈ q := fun q => by
    unfold hasI
    rw [List.any_eq_true]
    constructor
    · rintro ⟨y, h3, h4⟩
      rw [beq_iff_eq] at h4
      have : y = v := by omega
      rwa [this] at h3
    · exact fun k => ⟨v, k, by simp⟩
  unfold partIx
  rw [ixB_found (L.map (hasI v)) 0 (ofQ L v) (fun j hj => ?_) (by rw [List.getElem?_map, h1]; show some (hasI v p) = some true; rw [(hh p).2 h2]), Nat.zero_add]
  have hlt := h.of_lt hv
  rw [List.getElem?_map, List.getElem?_eq_getElem (by omega)]
  show some (hasI v L[j]) = some false
  congr 1
  rw [← Bool.not_eq_true, hh]
  intro hm
  have := (h.of_eq (List.getElem?_eq_getElem (by omega)) hm).2
  omega
theorem partIx_out {n : Nat} {E : List (Nat × Nat)} {L : List (List Nat)} (h : IsParts n E L) {x : Int} (hx : x < 0 ∨ (n : Int) ≤ x) : partIx L x = -1 := by
  unfold partIx
  refine ixB_none _ _ fun b hb => ?_
  obtain ⟨p, hp, rfl⟩ := List.mem_map.1 hb
  obtain ⟨v, _, rfl⟩ := h.cls p hp
  unfold hasI
  rw [List.any_eq_false]
  intro y hy
  have := (mem_part.1 hy).1
  simp
  omega
end Go.Proofs.Ytfmghkplafploaa

