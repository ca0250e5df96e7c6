/- Layer 6 (wire), the document's: bytes of bits and terms. -/
import Derived.Test.YtcoafgnbmgndeaaWrF
set_option linter.unusedVariables false
set_option linter.unusedSimpArgs false
namespace Go.Proofs.Ytcoafgnbmgndeaa
open Go Go.RowKit

def bitN (b : Bool) : Nat := if b then 1 else 0
theorem rBit_any (b : Bool) (w : World) : Calls Try.prog 49 #[.bool b] w fun e w' => e = .returned (.int .u8 (bitN b : Int)) ∧ w = w' := by
  go_enter Try.func49, Try.ntmps49
  cases b
  · repeat (first | go_skip | go_guarded | go_step)
    go_ret
    exact ⟨rfl, rfl⟩
  · repeat (first | go_skip | go_guarded | go_step)
    go_ret
    exact ⟨rfl, rfl⟩

set_option maxRecDepth 100000 in
set_option maxHeartbeats 4000000 in
theorem rTermB_any (x : Tm) (w : World) :
    Calls Try.prog 75 #[.agg #[.bool x.1, nv x.2]] w fun e w' => ∃ A' m c', e = .returned (.slice A' m c') ∧ Ow w' w.heap.size A' c' m (termB x) ∧ Below w.heap.size w w' := by
  obtain ⟨b, y⟩ := x
  obtain ⟨U, hU, hH, hbU⟩ : ∃ U, U = w.alloc (.cells #[.bool b, nv y] 54) ∧ Bk U w.heap.size 54 [.bool b, nv y] ∧ Below w.heap.size w U :=
    ⟨_, rfl, Bk.new w _ _, (Below.refl _ _).alloc (Nat.le_refl _) _⟩
  have HU := Lib.hid hU
  have HH := Lib.hid hH
  have HB := Lib.hid hbU
  have hy := n32_lt y
  obtain ⟨s, hs⟩ : ∃ s, s = 2 * y.toNat + bitN b := ⟨_, rfl⟩
  have hbn : bitN b ≤ 1 := by cases b <;> decide
  have e0 : IntKind.u64.wrap (y.toNat : Int) = (y.toNat : Int) := by rw [IntKind.wrap_u64] <;> omega
  have e1 : IntKind.u64.wrap (2 * (y.toNat : Int)) = 2 * (y.toNat : Int) := by rw [IntKind.wrap_u64] <;> omega
  have e2 : IntKind.u64.wrap (2 * (y.toNat : Int) + (bitN b : Int)) = (s : Int) := by rw [IntKind.wrap_u64] <;> omega
  have e3 : IntKind.u64.wrap (bitN b : Int) = (bitN b : Int) := by rw [IntKind.wrap_u64] <;> omega
  have hsl : (s : Int) < 18446744073709551616 := by omega
  have hst : termB (b, y) = var s := by rw [hs]; rfl
  have HST := Lib.hid hst
  clear hU hH hbU hs hst
  dsimp only
  go_enter Try.func75, Try.ntmps75
  go_upto_region 1 with (fail)
  rw [← HU.out]
  clear HU
  refine wp_region_held_drew (S := fun V => Below U.heap.size U V) (by kernel_rfl) ?_ (fun hHeld => ?_)
  · exact (Below.refl U.heap.size U).drew
  refine wpAnyH_take (i := 0) (oi := ?oid1) (v := ?vd1) ?hod1 (by kernel_rfl) ?hfd1 ?hrd1 ?hQd1 ?hyd1 hHeld ?restd1
  case hod1 => (simp only [List.getElem?_toArray, List.getElem?_cons_succ, List.getElem?_cons_zero]; exact rfl)
  case hfd1 => kernel_rfl
  case hrd1 => kernel_rfl
  case hQd1 => exact fun _ _ _ h => h
  case hyd1 =>
    refine Or.inl ⟨by rfl, ?_⟩
    intro V hSV
    go_simp
    (try with_reducible rfl)
  try simp only [Act.put, List.setIfInBounds_toArray, List.set_cons_zero, List.set_cons_succ]
  refine wpAnyH_take (i := 1) (oi := ?oid2) (v := ?vd2) ?hod2 (by kernel_rfl) ?hfd2 ?hrd2 ?hQd2 ?hyd2 hHeld ?restd2
  case hod2 => (simp only [List.getElem?_toArray, List.getElem?_cons_succ, List.getElem?_cons_zero]; exact rfl)
  case hfd2 => kernel_rfl
  case hrd2 => kernel_rfl
  case hQd2 => exact fun _ _ _ h => h
  case hyd2 =>
    refine Or.inl ⟨by rfl, ?_⟩
    intro V hSV
    have q := HH.out.readT hSV 1 rfl
    go_simp
    (try with_reducible rfl)
  try simp only [Act.put, List.setIfInBounds_toArray, List.set_cons_zero, List.set_cons_succ]
  refine wpAnyH_take (i := 2) (oi := ?oid3) (v := ?vd3) ?hod3 (by kernel_rfl) ?hfd3 ?hrd3 ?hQd3 ?hyd3 hHeld ?restd3
  case hod3 => (simp only [List.getElem?_toArray, List.getElem?_cons_succ, List.getElem?_cons_zero]; exact rfl)
  case hfd3 => kernel_rfl
  case hrd3 => kernel_rfl
  case hQd3 => exact fun _ _ _ h => h
  case hyd3 =>
    refine Or.inl ⟨by rfl, ?_⟩
    intro V hSV
    go_simp
    (try with_reducible rfl)
  try simp only [Act.put, List.setIfInBounds_toArray, List.set_cons_zero, List.set_cons_succ]
  refine wpAnyH_take (i := 3) (oi := ?oid4) (v := .int .u64 (2 * (y.toNat : Int))) ?hod4 (by kernel_rfl) ?hfd4 ?hrd4 ?hQd4 ?hyd4 hHeld ?restd4
  case hod4 => (simp only [List.getElem?_toArray, List.getElem?_cons_succ, List.getElem?_cons_zero]; exact rfl)
  case hfd4 => kernel_rfl
  case hrd4 => kernel_rfl
  case hQd4 => exact fun _ _ _ h => h
  case hyd4 =>
    refine Or.inl ⟨by rfl, ?_⟩
    intro V hSV
    go_simp
    (try with_reducible rfl)
  try simp only [Act.put, List.setIfInBounds_toArray, List.set_cons_zero, List.set_cons_succ]
  refine wpAnyH_take (i := 4) (oi := ?oid5) (v := ?vd5) ?hod5 (by kernel_rfl) ?hfd5 ?hrd5 ?hQd5 ?hyd5 hHeld ?restd5
  case hod5 => (simp only [List.getElem?_toArray, List.getElem?_cons_succ, List.getElem?_cons_zero]; exact rfl)
  case hfd5 => kernel_rfl
  case hrd5 => kernel_rfl
  case hQd5 => exact fun _ _ _ h => h
  case hyd5 =>
    refine Or.inl ⟨by rfl, ?_⟩
    intro V hSV
    go_simp
    (try with_reducible rfl)
  try simp only [Act.put, List.setIfInBounds_toArray, List.set_cons_zero, List.set_cons_succ]
  refine wpAnyH_take (i := 5) (oi := ?oid6) (v := ?vd6) ?hod6 (by kernel_rfl) ?hfd6 ?hrd6 ?hQd6 ?hyd6 hHeld ?restd6
  case hod6 => (simp only [List.getElem?_toArray, List.getElem?_cons_succ, List.getElem?_cons_zero]; exact rfl)
  case hfd6 => kernel_rfl
  case hrd6 => kernel_rfl
  case hQd6 => exact fun _ _ _ h => h
  case hyd6 =>
    refine Or.inl ⟨by rfl, ?_⟩
    intro V hSV
    have q := HH.out.readT hSV 0 rfl
    go_simp
    (try with_reducible rfl)
  try simp only [Act.put, List.setIfInBounds_toArray, List.set_cons_zero, List.set_cons_succ]
  refine wpAnyH_ready (rs := [6]) (by kernel_rfl) (by simp) ?_
  refine AllReadyH.cons (o := ?od7) ?hod7 (fun K hK => ?kd7) ?md7
  case hod7 => (simp only [List.getElem?_toArray, List.getElem?_cons_succ, List.getElem?_cons_zero]; exact rfl)
  case kd7 =>
    go_simp
    refine (rBit_any b _).mono ?_
    rintro e Vd7 ⟨rfl, rfl⟩
    (try dsimp only)
    refine hK.out _ _ ?_ (fun hHeld => ?_)
    · exact hHeld
    clear hK K
    try simp only [Act.put, List.setIfInBounds_toArray, List.set_cons_zero, List.set_cons_succ]
    refine wpAnyH_take (i := 7) (oi := ?oid8) (v := .int .u64 (bitN b : Int)) ?hod8 (by kernel_rfl) ?hfd8 ?hrd8 ?hQd8 ?hyd8 hHeld ?restd8
    case hod8 => (simp only [List.getElem?_toArray, List.getElem?_cons_succ, List.getElem?_cons_zero]; exact rfl)
    case hfd8 => kernel_rfl
    case hrd8 => kernel_rfl
    case hQd8 => exact fun _ _ _ h => h
    case hyd8 =>
      refine Or.inl ⟨by rfl, ?_⟩
      intro V hSV
      go_simp
      (try with_reducible rfl)
    try simp only [Act.put, List.setIfInBounds_toArray, List.set_cons_zero, List.set_cons_succ]
    refine wpAnyH_take (i := 8) (oi := ?oid9) (v := .int .u64 (s : Int)) ?hod9 (by kernel_rfl) ?hfd9 ?hrd9 ?hQd9 ?hyd9 hHeld ?restd9
    case hod9 => (simp only [List.getElem?_toArray, List.getElem?_cons_succ, List.getElem?_cons_zero]; exact rfl)
    case hfd9 => kernel_rfl
    case hrd9 => kernel_rfl
    case hQd9 => exact fun _ _ _ h => h
    case hyd9 =>
      refine Or.inl ⟨by rfl, ?_⟩
      intro V hSV
      go_simp
      (try with_reducible rfl)
    try simp only [Act.put, List.setIfInBounds_toArray, List.set_cons_zero, List.set_cons_succ]
    refine wpAnyH_ready (rs := [9]) (by kernel_rfl) (by simp) ?_
    refine AllReadyH.cons (o := ?od10) ?hod10 (fun K hK => ?kd10) ?md10
    case hod10 => (simp only [List.getElem?_toArray, List.getElem?_cons_succ, List.getElem?_cons_zero]; exact rfl)
    case kd10 =>
      go_simp
      refine (rVar_any (s : Int) _ (by omega) hsl).mono ?_
      rintro e Vd10 ⟨A', m, c', rfl, ho, hbd10⟩
      (try dsimp only)
      refine hK.out _ _ ?_ (fun hHeld => ?_)
      · exact Below.trans hHeld (hbd10.mono (Below.size hHeld))
      clear hK K
      try simp only [Act.put, List.setIfInBounds_toArray, List.set_cons_zero, List.set_cons_succ]
      refine wpAnyH_take (i := 10) (oi := ?oid11) (v := ?vd11) ?hod11 (by kernel_rfl) ?hfd11 ?hrd11 ?hQd11 ?hyd11 hHeld ?restd11
      case hod11 => (simp only [List.getElem?_toArray, List.getElem?_cons_succ, List.getElem?_cons_zero]; exact rfl)
      case hfd11 => kernel_rfl
      case hrd11 => kernel_rfl
      case hQd11 => exact fun _ _ _ h => h
      case hyd11 =>
        refine Or.inl ⟨by rfl, ?_⟩
        intro V hSV
        go_simp
        (try with_reducible rfl)
      try simp only [Act.put, List.setIfInBounds_toArray, List.set_cons_zero, List.set_cons_succ]
      refine wpAnyH_done (by kernel_rfl) ?_ _
      have hv := hHeld
      repeat (first | go_skip | go_guarded | go_step)
      go_ret
      rw [Int.toNat_natCast] at ho
      exact ⟨A', m, c', rfl, by rw [HST.out]; exact ownLower ho (Nat.le_trans HB.out.size (by exact Nat.le_refl _)), HB.out.trans (Below.mono hv HB.out.size)⟩
    exact AllReadyH.nil
  exact AllReadyH.nil
end Go.Proofs.Ytcoafgnbmgndeaa
