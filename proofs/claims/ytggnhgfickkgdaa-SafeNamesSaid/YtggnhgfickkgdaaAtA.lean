/- Layer 5 (atoms): atoms and facts as they lie in memory; words for what the document says of them. -/
import Derived.Test.YtggnhgfickkgdaaAid
import Derived.Test.YtggnhgfickkgdaaBlk
import Derived.Test.YtggnhgfickkgdaaFp
import Derived.Test.YtggnhgfickkgdaaChecked
import Derived.Orders
import Derived.RegionTactic
set_option linter.unusedVariables false
set_option linter.unusedSimpArgs false
namespace Go.Proofs.Ytggnhgfickkgdaa
open Go Go.RowKit

/-- A term: is it a variable? its number. -/
abbrev Tm := Bool × UInt32
abbrev AtL := UInt32 × List Tm
abbrev Li := Bool × AtL
abbrev Cl := AtL × List Li
abbrev Fa := UInt32 × List UInt32
abbrev nv (x : UInt32) : Value := .int .u32 (x.toNat : Int)
theorem n32_lt (x : UInt32) : x.toNat < 4294967296 := UInt32.toNat_lt x
theorem nv_one (l : List UInt32) : ∀ u ∈ l.map nv, u.oneCell' = true := by
  intro u hu
  obtain ⟨_, _, rfl⟩ := List.mem_map.1 hu
  rfl
def tmC (t : Tm) : List Value := [.bool t.1, nv t.2]
def tmCs (l : List Tm) : List Value := l.flatMap tmC
theorem tmCs_cons (t : Tm) (l : List Tm) : tmCs (t :: l) = .bool t.1 :: nv t.2 :: tmCs l := rfl
theorem tmCs_append (a b : List Tm) : tmCs (a ++ b) = tmCs a ++ tmCs b := by simp [tmCs]
theorem tmCs_len (l : List Tm) : (tmCs l).length = l.length * 2 := by
  induction l with
  | nil => rfl
  | cons t l ih => rw [tmCs_cons, List.length_cons, List.length_cons, ih, List.length_cons]; omega
theorem tmCs_at {l : List Tm} {i : Nat} {t : Tm} (h : l[i]? = some t) : (tmCs l)[i * 2]? = some (.bool t.1) ∧ (tmCs l)[i * 2 + 1]? = some (nv t.2) := by
  induction l generalizing i with
  | nil => simp at h
  | cons x l ih =>
    rw [tmCs_cons]
    cases i with
    | zero =>
      simp only [List.getElem?_cons_zero, Option.some.injEq] at h
      subst h
      exact ⟨rfl, rfl⟩
    | succ i =>
      rw [List.getElem?_cons_succ] at h
      have := ih h
      rw [show (i + 1) * 2 = i * 2 + 1 + 1 by omega, List.getElem?_cons_succ, List.getElem?_cons_succ, show i * 2 + 1 + 1 + 1 = (i * 2 + 1) + 1 + 1 by omega, List.getElem?_cons_succ, List.getElem?_cons_succ]
      exact this
theorem tmCs_one (l : List Tm) : ∀ u ∈ tmCs l, u.oneCell' = true := by
  intro u hu
  unfold tmCs at hu
  obtain ⟨t, _, ht⟩ := List.mem_flatMap.1 hu
  simp only [tmC, List.mem_cons, List.not_mem_nil, or_false] at ht
  rcases ht with rfl | rfl <;> rfl

section
variable {w w' : World} {B : Nat} {A : Option Addr} {n : Nat}
/-- A slice of terms that is read. -/
abbrev RdT (w : World) (B : Nat) (A : Option Addr) (n : Nat) (l : List Tm) : Prop := Rd w B 2 A n (tmCs l)
abbrev RdU (w : World) (B : Nat) (A : Option Addr) (n : Nat) (l : List UInt32) : Prop := Rd w B 1 A n (l.map nv)
theorem rdT_len {l : List Tm} (h : RdT w B A n l) : l.length = n := by
  have := h.1
  rw [tmCs_len] at this
  omega
theorem rdU_len {l : List UInt32} (h : RdU w B A n l) : l.length = n := by simpa using h.len1
theorem rdT_at {l : List Tm} (h : RdT w B A n l) {i : Nat} (hi : i < n) :
    ∃ b o t, A = some ⟨b, o, none⟩ ∧ b < B ∧ l[i]? = some t ∧ w.cell? ⟨b, o + i * 2, none⟩ = some (.bool t.1) ∧ w.cell? ⟨b, o + i * 2 + 1, none⟩ = some (nv t.2) := by
  obtain ⟨b, o, e, hb, hc⟩ := h.2 (by omega)
  have hl := rdT_len h
  have ht : l[i]? = some (l[i]'(by omega)) := List.getElem?_eq_getElem _
  have h2 := tmCs_at ht
  exact ⟨b, o, _, e, hb, ht, hc _ _ h2.1, hc _ _ h2.2⟩
theorem rdU_at {l : List UInt32} (h : RdU w B A n l) {i : Nat} (hi : i < n) :
    ∃ b o t, A = some ⟨b, o, none⟩ ∧ b < B ∧ l[i]? = some t ∧ w.cell? ⟨b, o + i, none⟩ = some (nv t) := by
  obtain ⟨b, o, u, e, hb, hu, hc⟩ := h.at1 hi
  have hl := rdU_len h
  have ht : l[i]? = some (l[i]'(by omega)) := List.getElem?_eq_getElem _
  rw [List.getElem?_map, ht] at hu
  simp only [Option.map_some, Option.some.injEq] at hu
  subst hu
  exact ⟨b, o, _, e, hb, ht, hc⟩
end

/-! ### What the document says -/
def mayA (a : AtL) : Bool := a.2.all (fun t => !t.1 || decide (t.2.toNat < 16)) && decide (a.2.length ≤ 6)
def mayC (c : Cl) : Bool := c.2.all (fun l => mayA l.2) && mayA c.1 && decide (c.2.length ≤ 8)
def groundA (a : AtL) : Bool := a.2.all fun t => !t.1
theorem all_at {α : Type} {l : List α} {f : α → Bool} {i : Nat} {x : α} (h : l[i]? = some x) (hx : f x = false) : l.all f = false := by
  rw [List.all_eq_false]
  exact ⟨x, List.mem_of_getElem? h, by simp [hx]⟩
theorem all_upto {α : Type} {l : List α} {f : α → Bool} {i : Nat} {x : α} (h : l[i]? = some x) (h0 : (l.take i).all f = true) (hx : f x = true) : (l.take (i + 1)).all f = true := by
  rw [List.take_add_one, h]
  simp [h0, hx]
theorem all_whole {α : Type} {l : List α} {f : α → Bool} {i : Nat} (hi : l.length ≤ i) (h0 : (l.take i).all f = true) : l.all f = true := by
  rwa [List.take_of_length_le hi] at h0
end Go.Proofs.Ytggnhgfickkgdaa
