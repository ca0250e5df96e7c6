/- Layer 9 (graph): slices.Clone, slices.Sort, slices.Contains over own rows of numbers. -/
import Derived.Test.YtbfagejdpbagjaaGrA
import Derived.Test.YtbfagejdpbagjaaGrS
import Derived.Sort.OwnSortedInts
set_option linter.unusedVariables false
set_option linter.unusedSimpArgs false
namespace Go.Proofs.Ytbfagejdpbagjaa
open Go Go.RowKit Go.Sort

theorem getD_map (l : List Nat) {j : Nat} (hj : j < (l.map Int.ofNat).length) : ∃ x, l[j]? = some x ∧ (l.map Int.ofNat).getD j 0 = (x : Int) := by
  rw [List.length_map] at hj
  refine ⟨l[j], List.getElem?_eq_getElem hj, ?_⟩
  simp [List.getD, hj]
theorem map_int (l : List Nat) : (l.map Int.ofNat).map (Value.int .i64) = l.map ni := by rw [List.map_map]; rfl
/-- 'slices.Clone(l)', l not empty. -/
theorem clone_any (b o n c : Nat) (l : List Nat) (w : World) (hl : l.length = n) (hn : 0 < n) (hb : n ≤ 1000000000000) (hc : ∀ j v, l[j]? = some v → w.cell? ⟨b, o + j, none⟩ = some (ni v)) :
    Calls Try.prog 52 #[.slice (some ⟨b, o, none⟩) n c] w fun e w' => ∃ A' c', e = .returned (.slice A' n c') ∧ OwI w' w.heap.size A' c' n l ∧ Below w.heap.size w w' := by
  refine (slices_Clone_int b o n c (l.map Int.ofNat) w (by simp [hl]) (by omega) (fun j hj => ?_)).mono ?_
  · obtain ⟨x, h1, h2⟩ := getD_map l hj
    rw [h2]
    exact hc j x h1
  · rintro e w' ⟨v', rfl, ho, hne, hb⟩
    have e1 : ((l.map Int.ofNat).take n).map (Value.int .i64) = l.map ni := by
      rw [List.take_of_length_le (by simp [hl]), map_int]
    rw [e1] at ho
    obtain ⟨A', c', rfl, _⟩ := ownForm ho
    exact ⟨A', c', rfl, ho, hb⟩
theorem sort_nat (l : List Nat) : (l.map Int.ofNat).mergeSort (fun x y => decide (x ≤ y)) = (l.mergeSort (fun x y => decide (x ≤ y))).map Int.ofNat := by
  rw [List.map_mergeSort]
  intro a _ b _
  by_cases h : a ≤ b
  · have : Int.ofNat a ≤ Int.ofNat b := Int.ofNat_le.2 h
    simp [h]
  · have : ¬ Int.ofNat a ≤ Int.ofNat b := fun k => h (Int.ofNat_le.1 k)
    simp [h]
/-- 'slices.Sort(l)', l the call's own and not empty. -/
theorem sort_any (A : Option Addr) (c n : Nat) (l : List Nat) (w : World) (base : Nat) (h : OwI w base A c n l) (hn : 0 < n) (hb : n ≤ 1000000000000) :
    Calls Try.prog 53 #[.slice A n c] w fun e w' => e = .returned (.tuple #[]) ∧ OwI w' base A c n (l.mergeSort (fun x y => decide (x ≤ y))) ∧ Turn (fun k => blockOf A = some k) w w' := by
  obtain ⟨g, cap, hv, _, hlt⟩ := World.ownsRow.form h hn
  simp only [Value.slice.injEq, true_and] at hv
  obtain ⟨rfl, rfl⟩ := hv
  have hlen := h.len
  subst hlen
  rcases h.2 with ⟨h1, _⟩ | ⟨g', cap', cur, h1, h2, h3, h4, h5, h6, h7⟩
  · cases h1
  cases h1
  have hl : (l.map Int.ofNat).length = l.length := by simp
  have hH : Holds (Value.int .i64) w g 0 (l.map Int.ofNat).toArray := holds_of_blockI h3 (by rw [hl, map_int, ← h7, Nat.mul_one])
  have hs := slices_Sort_int g 0 c (l.map Int.ofNat) w hH hlt (by rw [hl]; omega)
  rw [hl] at hs
  refine hs.mono ?_
  rintro e w' ⟨rfl, m, os, rfl⟩
  refine ⟨rfl, ?_, ?_⟩
  · have e1 := ownsRow_sortedI (w := w) (base := base) (g := g) (cap := c) (n := m) (e := 3) (os := os) (cur := cur) (ss := l.map Int.ofNat) (ts := (l.map Int.ofNat).mergeSort (fun x y => decide (x ≤ y))) (by rw [List.length_mergeSort]) h2 h3 (by rw [hl]; omega) h5 h6
    unfold OwI
    rw [hl] at e1
    rw [sort_nat, map_int] at e1
    rw [sort_nat]
    exact e1
  · exact Turn.ofGrown (grownBy_sortedI _) fun k hk => by rw [← hk]; rfl
end Go.Proofs.Ytbfagejdpbagjaa
