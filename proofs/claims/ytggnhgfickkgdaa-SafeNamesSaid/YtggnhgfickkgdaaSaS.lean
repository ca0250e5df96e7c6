/- Layer 11 (safe), the laws: works, from what is asked of the program. (Written by genSaS.py.) -/
import Derived.Test.YtggnhgfickkgdaaSaR
set_option linter.unusedVariables false
set_option linter.unusedSimpArgs false
namespace Go.Proofs.Ytggnhgfickkgdaa
open Go Go.RowKit

theorem liftT {w w' : World} {A : Option Addr} {n : Nat} {l : List Tm} (h : RdT w w.heap.size A n l) (hb : Below w.heap.size w w') : RdT w' w'.heap.size A n l := Rd.more (Rd.below h hb) hb.size
theorem liftL {w w' : World} {A : Option Addr} {n : Nat} {R : List SlA} {L : List Li} (h : RdL w w.heap.size A n R L) (hb : Below w.heap.size w w') : RdL w' w'.heap.size A n R L := (h.below hb).more hb.size
theorem lit_rd {α : Type} (f : α → List Value) (k : Nat) (hf : ∀ x, (f x).length = k) (X : List α) (w : World) (t : TypeId) : Rd (w.alloc (.cells (X.flatMap f).toArray t)) (w.alloc (.cells (X.flatMap f).toArray t)).heap.size k (some ⟨w.heap.size, 0, none⟩) X.length (X.flatMap f) := by
  have hlen : ∀ l : List α, (l.flatMap f).length = l.length * k := by
    intro l
    induction l with
    | nil => simp
    | cons z l ih => rw [List.flatMap_cons, List.length_append, ih, hf, List.length_cons, Nat.add_mul]; omega
  exact ⟨hlen X, fun _ => ⟨w.heap.size, 0, rfl, (Bk.new w t (X.flatMap f)).lt, fun j u hu => by
    rw [Nat.zero_add, (Bk.new w t (X.flatMap f)).cell]
    exact hu⟩⟩
theorem lit_t (l : List Tm) (w : World) : RdT (w.alloc (.cells (tmCs l).toArray 48)) (w.alloc (.cells (tmCs l).toArray 48)).heap.size (some ⟨w.heap.size, 0, none⟩) l.length l := lit_rd tmC 2 (fun _ => rfl) l w _
theorem lit_l (z : List (Li × SlA)) (w : World) (h : ∀ x ∈ z, RdT w w.heap.size x.2.1 x.2.2.1 x.1.2.2) : RdL (w.alloc (.cells (z.flatMap liC).toArray 38)) (w.alloc (.cells (z.flatMap liC).toArray 38)).heap.size (some ⟨w.heap.size, 0, none⟩) z.length (z.map (·.2)) (z.map (·.1)) := by
  have hb : Below w.heap.size w (w.alloc (.cells (z.flatMap liC).toArray 38)) := (Below.refl _ _).alloc (Nat.le_refl _) _
  refine ⟨by simp, by simp, ?_, fun i r x h1 h2 => ?_⟩
  · rw [List.zip_map', List.map_id'' (fun _ => rfl)]
    exact lit_rd liC 3 (fun _ => rfl) z w _
  · rw [List.getElem?_map] at h1 h2
    obtain ⟨y, hy, rfl⟩ := Option.map_eq_some_iff.1 h1
    rw [hy] at h2
    cases h2
    exact liftT (h y (List.mem_of_getElem? hy)) hb
theorem lit_c (z : List (Cl × ClA)) (w : World) (h : ∀ x ∈ z, RdT w w.heap.size x.2.1.1 x.2.1.2.1 x.1.1.2 ∧ RdL w w.heap.size x.2.2.1.1 x.2.2.1.2.1 x.2.2.2 x.1.2) : RdCs (w.alloc (.cells (z.flatMap clC).toArray 36)) (w.alloc (.cells (z.flatMap clC).toArray 36)).heap.size (some ⟨w.heap.size, 0, none⟩) z.length (z.map (·.2)) (z.map (·.1)) := by
  have hb : Below w.heap.size w (w.alloc (.cells (z.flatMap clC).toArray 36)) := (Below.refl _ _).alloc (Nat.le_refl _) _
  refine ⟨by simp, by simp, ?_, fun i r x h1 h2 => ?_⟩
  · rw [List.zip_map', List.map_id'' (fun _ => rfl)]
    exact lit_rd clC 3 (fun _ => rfl) z w _
  · rw [List.getElem?_map] at h1 h2
    obtain ⟨y, hy, rfl⟩ := Option.map_eq_some_iff.1 h1
    rw [hy] at h2
    cases h2
    exact ⟨liftT (h y (List.mem_of_getElem? hy)).1 hb, liftL (h y (List.mem_of_getElem? hy)).2 hb⟩
end Go.Proofs.Ytggnhgfickkgdaa
