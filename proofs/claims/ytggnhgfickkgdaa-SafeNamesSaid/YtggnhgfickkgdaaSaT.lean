/- Layer 11 (safe), the laws: works, from what is asked of the program. (Written by genSaT.py.) -/
import Derived.Test.YtggnhgfickkgdaaSaS
set_option linter.unusedVariables false
set_option linter.unusedSimpArgs false
namespace Go.Proofs.Ytggnhgfickkgdaa
open Go Go.RowKit

set_option maxRecDepth 100000 in
theorem rM1 : rightM [((1, [(true, 0)]), [(false, (2, [(true, 0)])), (true, (3, [(true, 0)]))])] = (0, 0) := by decide +kernel
theorem rM2 : rightM [((1, [(false, 5)]), []), ((1, [(true, 0)]), [(true, (2, [(true, 0)]))])] = (1, 10) := by decide +kernel
theorem rM3 : rightM [((1, [(false, 5)]), [(false, (1, [(false, 5), (false, 6)]))])] = (0, 9) := by decide +kernel
theorem aM4 : aritM [] [(1, 0), (1, 1)] = (1, 9) := by decide +kernel
theorem slim_of {C : List Cl} (h : C.all few1 = true) : Slim C := few_slim h
set_option maxRecDepth 100000 in
set_option maxHeartbeats 8000000 in
theorem sWorks_of (ok : SafeOk) : SWorksOk := by
  intro w
  have OK := Lib.hid ok
  have HB := Lib.hid (Below.refl w.heap.size w)
  clear ok
  go_enter Try.func7, Try.ntmps7
  repeat (first | go_skip | go_guarded | go_step)
  refine (lV_any 0 _).mono ?_
  rintro e v1 ⟨rfl, hbv1⟩
  have HB := Lib.hid (HB.out.trans (hbv1.mono HB.out.size))
  clear hbv1
  dsimp only
  obtain ⟨u2, hu2⟩ : ∃ u2, u2 = v1.alloc (.cells #[.bool true, .int .u32 0] 48) := ⟨_, rfl⟩
  have hbu2 : Below v1.heap.size v1 u2 := by rw [hu2]; exact (Below.refl _ _).alloc (Nat.le_refl _) _
  have T1 := Lib.hid (show RdT u2 u2.heap.size (some ⟨v1.heap.size, 0, none⟩) 1 [(true, 0)] by rw [hu2]; exact lit_t [(true, 0)] v1)
  have Hu2 := Lib.hid hu2
  clear hu2
  repeat (first | go_skip | go_guarded | go_step)
  rw [← Hu2.out]
  obtain ⟨g3, hg3⟩ : ∃ g3, g3 = v1.heap.size := ⟨_, rfl⟩
  rw [← hg3] at T1 ⊢
  clear hg3
  have HB := Lib.hid (HB.out.trans (hbu2.mono HB.out.size))
  clear hbu2 Hu2
  repeat (first | go_skip | go_guarded | go_step)
  refine (lA_any 1 (some ⟨g3, 0, none⟩) 1 1 _).mono ?_
  rintro e v4 ⟨rfl, hbv4⟩
  have HB := Lib.hid (HB.out.trans (hbv4.mono HB.out.size))
  have T1 := Lib.hid (liftT T1.out hbv4)
  clear hbv4
  dsimp only
  repeat (first | go_skip | go_guarded | go_step)
  refine (lV_any 0 _).mono ?_
  rintro e v5 ⟨rfl, hbv5⟩
  have HB := Lib.hid (HB.out.trans (hbv5.mono HB.out.size))
  have T1 := Lib.hid (liftT T1.out hbv5)
  clear hbv5
  dsimp only
  obtain ⟨u6, hu6⟩ : ∃ u6, u6 = v5.alloc (.cells #[.bool true, .int .u32 0] 48) := ⟨_, rfl⟩
  have hbu6 : Below v5.heap.size v5 u6 := by rw [hu6]; exact (Below.refl _ _).alloc (Nat.le_refl _) _
  have T2 := Lib.hid (show RdT u6 u6.heap.size (some ⟨v5.heap.size, 0, none⟩) 1 [(true, 0)] by rw [hu6]; exact lit_t [(true, 0)] v5)
  have Hu6 := Lib.hid hu6
  clear hu6
  repeat (first | go_skip | go_guarded | go_step)
  rw [← Hu6.out]
  obtain ⟨g7, hg7⟩ : ∃ g7, g7 = v5.heap.size := ⟨_, rfl⟩
  rw [← hg7] at T2 ⊢
  clear hg7
  have HB := Lib.hid (HB.out.trans (hbu6.mono HB.out.size))
  have T1 := Lib.hid (liftT T1.out hbu6)
  clear hbu6 Hu6
  repeat (first | go_skip | go_guarded | go_step)
  refine (lYes_any 2 (some ⟨g7, 0, none⟩) 1 1 _).mono ?_
  rintro e v8 ⟨rfl, hbv8⟩
  have HB := Lib.hid (HB.out.trans (hbv8.mono HB.out.size))
  have T1 := Lib.hid (liftT T1.out hbv8)
  have T2 := Lib.hid (liftT T2.out hbv8)
  clear hbv8
  dsimp only
  repeat (first | go_skip | go_guarded | go_step)
  refine (lV_any 0 _).mono ?_
  rintro e v9 ⟨rfl, hbv9⟩
  have HB := Lib.hid (HB.out.trans (hbv9.mono HB.out.size))
  have T1 := Lib.hid (liftT T1.out hbv9)
  have T2 := Lib.hid (liftT T2.out hbv9)
  clear hbv9
  dsimp only
  obtain ⟨u10, hu10⟩ : ∃ u10, u10 = v9.alloc (.cells #[.bool true, .int .u32 0] 48) := ⟨_, rfl⟩
  have hbu10 : Below v9.heap.size v9 u10 := by rw [hu10]; exact (Below.refl _ _).alloc (Nat.le_refl _) _
  have T3 := Lib.hid (show RdT u10 u10.heap.size (some ⟨v9.heap.size, 0, none⟩) 1 [(true, 0)] by rw [hu10]; exact lit_t [(true, 0)] v9)
  have Hu10 := Lib.hid hu10
  clear hu10
  repeat (first | go_skip | go_guarded | go_step)
  rw [← Hu10.out]
  obtain ⟨g11, hg11⟩ : ∃ g11, g11 = v9.heap.size := ⟨_, rfl⟩
  rw [← hg11] at T3 ⊢
  clear hg11
  have HB := Lib.hid (HB.out.trans (hbu10.mono HB.out.size))
  have T1 := Lib.hid (liftT T1.out hbu10)
  have T2 := Lib.hid (liftT T2.out hbu10)
  clear hbu10 Hu10
  repeat (first | go_skip | go_guarded | go_step)
  refine (lNo_any 3 (some ⟨g11, 0, none⟩) 1 1 _).mono ?_
  rintro e v12 ⟨rfl, hbv12⟩
  have HB := Lib.hid (HB.out.trans (hbv12.mono HB.out.size))
  have T1 := Lib.hid (liftT T1.out hbv12)
  have T2 := Lib.hid (liftT T2.out hbv12)
  have T3 := Lib.hid (liftT T3.out hbv12)
  clear hbv12
  dsimp only
  obtain ⟨u13, hu13⟩ : ∃ u13, u13 = v12.alloc (.cells #[.bool false, .int .u32 2, .slice (some ⟨g7, 0, none⟩) 1 1, .bool true, .int .u32 3, .slice (some ⟨g11, 0, none⟩) 1 1] 38) := ⟨_, rfl⟩
  have hbu13 : Below v12.heap.size v12 u13 := by rw [hu13]; exact (Below.refl _ _).alloc (Nat.le_refl _) _
  have L1 := Lib.hid (show RdL u13 u13.heap.size (some ⟨v12.heap.size, 0, none⟩) 2 [((some ⟨g7, 0, none⟩), 1, 1), ((some ⟨g11, 0, none⟩), 1, 1)] [(false, (2, [(true, 0)])), (true, (3, [(true, 0)]))] by rw [hu13]; exact lit_l [((false, (2, [(true, 0)])), ((some ⟨g7, 0, none⟩), 1, 1)), ((true, (3, [(true, 0)])), ((some ⟨g11, 0, none⟩), 1, 1))] v12 (by intro x hx; simp only [List.mem_cons, List.not_mem_nil, or_false] at hx; rcases hx with rfl | rfl <;> first | exact T2.out | exact T3.out))
  have Hu13 := Lib.hid hu13
  clear hu13
  repeat (first | go_skip | go_guarded | go_step)
  rw [← Hu13.out]
  obtain ⟨g14, hg14⟩ : ∃ g14, g14 = v12.heap.size := ⟨_, rfl⟩
  rw [← hg14] at L1 ⊢
  clear hg14
  have HB := Lib.hid (HB.out.trans (hbu13.mono HB.out.size))
  have T1 := Lib.hid (liftT T1.out hbu13)
  have T2 := Lib.hid (liftT T2.out hbu13)
  have T3 := Lib.hid (liftT T3.out hbu13)
  clear hbu13 Hu13
  repeat (first | go_skip | go_guarded | go_step)
  refine (lIf_any 1 (some ⟨g3, 0, none⟩) 1 1 (some ⟨g14, 0, none⟩) 2 2 _).mono ?_
  rintro e v15 ⟨rfl, hbv15⟩
  have HB := Lib.hid (HB.out.trans (hbv15.mono HB.out.size))
  have T1 := Lib.hid (liftT T1.out hbv15)
  have T2 := Lib.hid (liftT T2.out hbv15)
  have T3 := Lib.hid (liftT T3.out hbv15)
  have L1 := Lib.hid (liftL L1.out hbv15)
  clear hbv15
  dsimp only
  obtain ⟨u16, hu16⟩ : ∃ u16, u16 = v15.alloc (.cells #[.int .u32 1, .slice (some ⟨g3, 0, none⟩) 1 1, .slice (some ⟨g14, 0, none⟩) 2 2] 36) := ⟨_, rfl⟩
  have hbu16 : Below v15.heap.size v15 u16 := by rw [hu16]; exact (Below.refl _ _).alloc (Nat.le_refl _) _
  have C1 := Lib.hid (show RdCs u16 u16.heap.size (some ⟨v15.heap.size, 0, none⟩) 1 [(((some ⟨g3, 0, none⟩), 1, 1), ((some ⟨g14, 0, none⟩), 2, 2), [((some ⟨g7, 0, none⟩), 1, 1), ((some ⟨g11, 0, none⟩), 1, 1)])] [((1, [(true, 0)]), [(false, (2, [(true, 0)])), (true, (3, [(true, 0)]))])] by rw [hu16]; exact lit_c [(((1, [(true, 0)]), [(false, (2, [(true, 0)])), (true, (3, [(true, 0)]))]), (((some ⟨g3, 0, none⟩), 1, 1), ((some ⟨g14, 0, none⟩), 2, 2), [((some ⟨g7, 0, none⟩), 1, 1), ((some ⟨g11, 0, none⟩), 1, 1)]))] v15 (by intro x hx; simp only [List.mem_singleton] at hx; subst hx; exact ⟨T1.out, L1.out⟩))
  have Hu16 := Lib.hid hu16
  clear hu16
  repeat (first | go_skip | go_guarded | go_step)
  rw [← Hu16.out]
  obtain ⟨g17, hg17⟩ : ∃ g17, g17 = v15.heap.size := ⟨_, rfl⟩
  rw [← hg17] at C1 ⊢
  clear hg17
  have HB := Lib.hid (HB.out.trans (hbu16.mono HB.out.size))
  have T1 := Lib.hid (liftT T1.out hbu16)
  have T2 := Lib.hid (liftT T2.out hbu16)
  have T3 := Lib.hid (liftT T3.out hbu16)
  have L1 := Lib.hid (liftL L1.out hbu16)
  clear hbu16 Hu16
  have hR : Calls Try.prog 8 #[.slice (some ⟨g17, 0, none⟩) 1 1] u16 fun e w' => e = .returned (.tuple #[.int .i64 0, .int .i64 0]) ∧ Below u16.heap.size u16 w' :=
    (OK.out.right (some ⟨g17, 0, none⟩) 1 1 _ [((1, [(true, 0)]), [(false, (2, [(true, 0)])), (true, (3, [(true, 0)]))])] u16 C1.out (Nat.le_refl _) (slim_of (by decide +kernel)) (by omega)).mono fun e w' h => ⟨by rw [h.1, rM1]; rfl, h.2⟩
  repeat (first | go_skip | go_guarded | go_step)
  refine hR.mono ?_
  rintro e v18 ⟨rfl, hbv18⟩
  have HB := Lib.hid (HB.out.trans (hbv18.mono HB.out.size))
  clear hbv18 hR
  dsimp only
  repeat (first | go_skip | go_guarded | go_step)
  refine (lS_any 5 _).mono ?_
  rintro e v19 ⟨rfl, hbv19⟩
  have HB := Lib.hid (HB.out.trans (hbv19.mono HB.out.size))
  clear hbv19
  dsimp only
  obtain ⟨u20, hu20⟩ : ∃ u20, u20 = v19.alloc (.cells #[.bool false, .int .u32 5] 48) := ⟨_, rfl⟩
  have hbu20 : Below v19.heap.size v19 u20 := by rw [hu20]; exact (Below.refl _ _).alloc (Nat.le_refl _) _
  have T1 := Lib.hid (show RdT u20 u20.heap.size (some ⟨v19.heap.size, 0, none⟩) 1 [(false, 5)] by rw [hu20]; exact lit_t [(false, 5)] v19)
  have Hu20 := Lib.hid hu20
  clear hu20
  repeat (first | go_skip | go_guarded | go_step)
  rw [← Hu20.out]
  obtain ⟨g21, hg21⟩ : ∃ g21, g21 = v19.heap.size := ⟨_, rfl⟩
  rw [← hg21] at T1 ⊢
  clear hg21
  have HB := Lib.hid (HB.out.trans (hbu20.mono HB.out.size))
  clear hbu20 Hu20
  repeat (first | go_skip | go_guarded | go_step)
  refine (lA_any 1 (some ⟨g21, 0, none⟩) 1 1 _).mono ?_
  rintro e v22 ⟨rfl, hbv22⟩
  have HB := Lib.hid (HB.out.trans (hbv22.mono HB.out.size))
  have T1 := Lib.hid (liftT T1.out hbv22)
  clear hbv22
  dsimp only
  repeat (first | go_skip | go_guarded | go_step)
  refine (lIf_any 1 (some ⟨g21, 0, none⟩) 1 1 none 0 0 _).mono ?_
  rintro e v23 ⟨rfl, hbv23⟩
  have HB := Lib.hid (HB.out.trans (hbv23.mono HB.out.size))
  have T1 := Lib.hid (liftT T1.out hbv23)
  clear hbv23
  dsimp only
  repeat (first | go_skip | go_guarded | go_step)
  refine (lV_any 0 _).mono ?_
  rintro e v24 ⟨rfl, hbv24⟩
  have HB := Lib.hid (HB.out.trans (hbv24.mono HB.out.size))
  have T1 := Lib.hid (liftT T1.out hbv24)
  clear hbv24
  dsimp only
  obtain ⟨u25, hu25⟩ : ∃ u25, u25 = v24.alloc (.cells #[.bool true, .int .u32 0] 48) := ⟨_, rfl⟩
  have hbu25 : Below v24.heap.size v24 u25 := by rw [hu25]; exact (Below.refl _ _).alloc (Nat.le_refl _) _
  have T2 := Lib.hid (show RdT u25 u25.heap.size (some ⟨v24.heap.size, 0, none⟩) 1 [(true, 0)] by rw [hu25]; exact lit_t [(true, 0)] v24)
  have Hu25 := Lib.hid hu25
  clear hu25
  repeat (first | go_skip | go_guarded | go_step)
  rw [← Hu25.out]
  obtain ⟨g26, hg26⟩ : ∃ g26, g26 = v24.heap.size := ⟨_, rfl⟩
  rw [← hg26] at T2 ⊢
  clear hg26
  have HB := Lib.hid (HB.out.trans (hbu25.mono HB.out.size))
  have T1 := Lib.hid (liftT T1.out hbu25)
  clear hbu25 Hu25
  repeat (first | go_skip | go_guarded | go_step)
  refine (lA_any 1 (some ⟨g26, 0, none⟩) 1 1 _).mono ?_
  rintro e v27 ⟨rfl, hbv27⟩
  have HB := Lib.hid (HB.out.trans (hbv27.mono HB.out.size))
  have T1 := Lib.hid (liftT T1.out hbv27)
  have T2 := Lib.hid (liftT T2.out hbv27)
  clear hbv27
  dsimp only
  repeat (first | go_skip | go_guarded | go_step)
  refine (lV_any 0 _).mono ?_
  rintro e v28 ⟨rfl, hbv28⟩
  have HB := Lib.hid (HB.out.trans (hbv28.mono HB.out.size))
  have T1 := Lib.hid (liftT T1.out hbv28)
  have T2 := Lib.hid (liftT T2.out hbv28)
  clear hbv28
  dsimp only
  obtain ⟨u29, hu29⟩ : ∃ u29, u29 = v28.alloc (.cells #[.bool true, .int .u32 0] 48) := ⟨_, rfl⟩
  have hbu29 : Below v28.heap.size v28 u29 := by rw [hu29]; exact (Below.refl _ _).alloc (Nat.le_refl _) _
  have T3 := Lib.hid (show RdT u29 u29.heap.size (some ⟨v28.heap.size, 0, none⟩) 1 [(true, 0)] by rw [hu29]; exact lit_t [(true, 0)] v28)
  have Hu29 := Lib.hid hu29
  clear hu29
  repeat (first | go_skip | go_guarded | go_step)
  rw [← Hu29.out]
  obtain ⟨g30, hg30⟩ : ∃ g30, g30 = v28.heap.size := ⟨_, rfl⟩
  rw [← hg30] at T3 ⊢
  clear hg30
  have HB := Lib.hid (HB.out.trans (hbu29.mono HB.out.size))
  have T1 := Lib.hid (liftT T1.out hbu29)
  have T2 := Lib.hid (liftT T2.out hbu29)
  clear hbu29 Hu29
  repeat (first | go_skip | go_guarded | go_step)
  refine (lNo_any 2 (some ⟨g30, 0, none⟩) 1 1 _).mono ?_
  rintro e v31 ⟨rfl, hbv31⟩
  have HB := Lib.hid (HB.out.trans (hbv31.mono HB.out.size))
  have T1 := Lib.hid (liftT T1.out hbv31)
  have T2 := Lib.hid (liftT T2.out hbv31)
  have T3 := Lib.hid (liftT T3.out hbv31)
  clear hbv31
  dsimp only
  obtain ⟨u32, hu32⟩ : ∃ u32, u32 = v31.alloc (.cells #[.bool true, .int .u32 2, .slice (some ⟨g30, 0, none⟩) 1 1] 38) := ⟨_, rfl⟩
  have hbu32 : Below v31.heap.size v31 u32 := by rw [hu32]; exact (Below.refl _ _).alloc (Nat.le_refl _) _
  have L1 := Lib.hid (show RdL u32 u32.heap.size (some ⟨v31.heap.size, 0, none⟩) 1 [((some ⟨g30, 0, none⟩), 1, 1)] [(true, (2, [(true, 0)]))] by rw [hu32]; exact lit_l [((true, (2, [(true, 0)])), ((some ⟨g30, 0, none⟩), 1, 1))] v31 (by intro x hx; simp only [List.mem_singleton] at hx; subst hx; exact T3.out))
  have Hu32 := Lib.hid hu32
  clear hu32
  repeat (first | go_skip | go_guarded | go_step)
  rw [← Hu32.out]
  obtain ⟨g33, hg33⟩ : ∃ g33, g33 = v31.heap.size := ⟨_, rfl⟩
  rw [← hg33] at L1 ⊢
  clear hg33
  have HB := Lib.hid (HB.out.trans (hbu32.mono HB.out.size))
  have T1 := Lib.hid (liftT T1.out hbu32)
  have T2 := Lib.hid (liftT T2.out hbu32)
  have T3 := Lib.hid (liftT T3.out hbu32)
  clear hbu32 Hu32
  repeat (first | go_skip | go_guarded | go_step)
  refine (lIf_any 1 (some ⟨g26, 0, none⟩) 1 1 (some ⟨g33, 0, none⟩) 1 1 _).mono ?_
  rintro e v34 ⟨rfl, hbv34⟩
  have HB := Lib.hid (HB.out.trans (hbv34.mono HB.out.size))
  have T1 := Lib.hid (liftT T1.out hbv34)
  have T2 := Lib.hid (liftT T2.out hbv34)
  have T3 := Lib.hid (liftT T3.out hbv34)
  have L1 := Lib.hid (liftL L1.out hbv34)
  clear hbv34
  dsimp only
  obtain ⟨u35, hu35⟩ : ∃ u35, u35 = v34.alloc (.cells #[.int .u32 1, .slice (some ⟨g21, 0, none⟩) 1 1, .slice none 0 0, .int .u32 1, .slice (some ⟨g26, 0, none⟩) 1 1, .slice (some ⟨g33, 0, none⟩) 1 1] 36) := ⟨_, rfl⟩
  have hbu35 : Below v34.heap.size v34 u35 := by rw [hu35]; exact (Below.refl _ _).alloc (Nat.le_refl _) _
  have C1 := Lib.hid (show RdCs u35 u35.heap.size (some ⟨v34.heap.size, 0, none⟩) 2 [(((some ⟨g21, 0, none⟩), 1, 1), (none, 0, 0), []), (((some ⟨g26, 0, none⟩), 1, 1), ((some ⟨g33, 0, none⟩), 1, 1), [((some ⟨g30, 0, none⟩), 1, 1)])] [((1, [(false, 5)]), []), ((1, [(true, 0)]), [(true, (2, [(true, 0)]))])] by rw [hu35]; exact lit_c [(((1, [(false, 5)]), []), (((some ⟨g21, 0, none⟩), 1, 1), (none, 0, 0), [])), (((1, [(true, 0)]), [(true, (2, [(true, 0)]))]), (((some ⟨g26, 0, none⟩), 1, 1), ((some ⟨g33, 0, none⟩), 1, 1), [((some ⟨g30, 0, none⟩), 1, 1)]))] v34 (by intro x hx; simp only [List.mem_cons, List.not_mem_nil, or_false] at hx; rcases hx with rfl | rfl <;> first | exact ⟨T1.out, ⟨rfl, rfl, Rd.nil, fun i r x h => by simp at h⟩⟩ | exact ⟨T2.out, L1.out⟩))
  have Hu35 := Lib.hid hu35
  clear hu35
  repeat (first | go_skip | go_guarded | go_step)
  rw [← Hu35.out]
  obtain ⟨g36, hg36⟩ : ∃ g36, g36 = v34.heap.size := ⟨_, rfl⟩
  rw [← hg36] at C1 ⊢
  clear hg36
  have HB := Lib.hid (HB.out.trans (hbu35.mono HB.out.size))
  have T1 := Lib.hid (liftT T1.out hbu35)
  have T2 := Lib.hid (liftT T2.out hbu35)
  have T3 := Lib.hid (liftT T3.out hbu35)
  have L1 := Lib.hid (liftL L1.out hbu35)
  clear hbu35 Hu35
  have hR : Calls Try.prog 8 #[.slice (some ⟨g36, 0, none⟩) 2 2] u35 fun e w' => e = .returned (.tuple #[.int .i64 1, .int .i64 10]) ∧ Below u35.heap.size u35 w' :=
    (OK.out.right (some ⟨g36, 0, none⟩) 2 2 _ [((1, [(false, 5)]), []), ((1, [(true, 0)]), [(true, (2, [(true, 0)]))])] u35 C1.out (Nat.le_refl _) (slim_of (by decide +kernel)) (by omega)).mono fun e w' h => ⟨by rw [h.1, rM2]; rfl, h.2⟩
  repeat (first | go_skip | go_guarded | go_step)
  refine hR.mono ?_
  rintro e v37 ⟨rfl, hbv37⟩
  have HB := Lib.hid (HB.out.trans (hbv37.mono HB.out.size))
  clear hbv37 hR
  dsimp only
  repeat (first | go_skip | go_guarded | go_step)
  refine (lS_any 5 _).mono ?_
  rintro e v38 ⟨rfl, hbv38⟩
  have HB := Lib.hid (HB.out.trans (hbv38.mono HB.out.size))
  clear hbv38
  dsimp only
  obtain ⟨u39, hu39⟩ : ∃ u39, u39 = v38.alloc (.cells #[.bool false, .int .u32 5] 48) := ⟨_, rfl⟩
  have hbu39 : Below v38.heap.size v38 u39 := by rw [hu39]; exact (Below.refl _ _).alloc (Nat.le_refl _) _
  have T1 := Lib.hid (show RdT u39 u39.heap.size (some ⟨v38.heap.size, 0, none⟩) 1 [(false, 5)] by rw [hu39]; exact lit_t [(false, 5)] v38)
  have Hu39 := Lib.hid hu39
  clear hu39
  repeat (first | go_skip | go_guarded | go_step)
  rw [← Hu39.out]
  obtain ⟨g40, hg40⟩ : ∃ g40, g40 = v38.heap.size := ⟨_, rfl⟩
  rw [← hg40] at T1 ⊢
  clear hg40
  have HB := Lib.hid (HB.out.trans (hbu39.mono HB.out.size))
  clear hbu39 Hu39
  repeat (first | go_skip | go_guarded | go_step)
  refine (lA_any 1 (some ⟨g40, 0, none⟩) 1 1 _).mono ?_
  rintro e v41 ⟨rfl, hbv41⟩
  have HB := Lib.hid (HB.out.trans (hbv41.mono HB.out.size))
  have T1 := Lib.hid (liftT T1.out hbv41)
  clear hbv41
  dsimp only
  repeat (first | go_skip | go_guarded | go_step)
  refine (lS_any 5 _).mono ?_
  rintro e v42 ⟨rfl, hbv42⟩
  have HB := Lib.hid (HB.out.trans (hbv42.mono HB.out.size))
  have T1 := Lib.hid (liftT T1.out hbv42)
  clear hbv42
  dsimp only
  repeat (first | go_skip | go_guarded | go_step)
  refine (lS_any 6 _).mono ?_
  rintro e v43 ⟨rfl, hbv43⟩
  have HB := Lib.hid (HB.out.trans (hbv43.mono HB.out.size))
  have T1 := Lib.hid (liftT T1.out hbv43)
  clear hbv43
  dsimp only
  obtain ⟨u44, hu44⟩ : ∃ u44, u44 = v43.alloc (.cells #[.bool false, .int .u32 5, .bool false, .int .u32 6] 48) := ⟨_, rfl⟩
  have hbu44 : Below v43.heap.size v43 u44 := by rw [hu44]; exact (Below.refl _ _).alloc (Nat.le_refl _) _
  have T2 := Lib.hid (show RdT u44 u44.heap.size (some ⟨v43.heap.size, 0, none⟩) 2 [(false, 5), (false, 6)] by rw [hu44]; exact lit_t [(false, 5), (false, 6)] v43)
  have Hu44 := Lib.hid hu44
  clear hu44
  repeat (first | go_skip | go_guarded | go_step)
  rw [← Hu44.out]
  obtain ⟨g45, hg45⟩ : ∃ g45, g45 = v43.heap.size := ⟨_, rfl⟩
  rw [← hg45] at T2 ⊢
  clear hg45
  have HB := Lib.hid (HB.out.trans (hbu44.mono HB.out.size))
  have T1 := Lib.hid (liftT T1.out hbu44)
  clear hbu44 Hu44
  repeat (first | go_skip | go_guarded | go_step)
  refine (lYes_any 1 (some ⟨g45, 0, none⟩) 2 2 _).mono ?_
  rintro e v46 ⟨rfl, hbv46⟩
  have HB := Lib.hid (HB.out.trans (hbv46.mono HB.out.size))
  have T1 := Lib.hid (liftT T1.out hbv46)
  have T2 := Lib.hid (liftT T2.out hbv46)
  clear hbv46
  dsimp only
  obtain ⟨u47, hu47⟩ : ∃ u47, u47 = v46.alloc (.cells #[.bool false, .int .u32 1, .slice (some ⟨g45, 0, none⟩) 2 2] 38) := ⟨_, rfl⟩
  have hbu47 : Below v46.heap.size v46 u47 := by rw [hu47]; exact (Below.refl _ _).alloc (Nat.le_refl _) _
  have L1 := Lib.hid (show RdL u47 u47.heap.size (some ⟨v46.heap.size, 0, none⟩) 1 [((some ⟨g45, 0, none⟩), 2, 2)] [(false, (1, [(false, 5), (false, 6)]))] by rw [hu47]; exact lit_l [((false, (1, [(false, 5), (false, 6)])), ((some ⟨g45, 0, none⟩), 2, 2))] v46 (by intro x hx; simp only [List.mem_singleton] at hx; subst hx; exact T2.out))
  have Hu47 := Lib.hid hu47
  clear hu47
  repeat (first | go_skip | go_guarded | go_step)
  rw [← Hu47.out]
  obtain ⟨g48, hg48⟩ : ∃ g48, g48 = v46.heap.size := ⟨_, rfl⟩
  rw [← hg48] at L1 ⊢
  clear hg48
  have HB := Lib.hid (HB.out.trans (hbu47.mono HB.out.size))
  have T1 := Lib.hid (liftT T1.out hbu47)
  have T2 := Lib.hid (liftT T2.out hbu47)
  clear hbu47 Hu47
  repeat (first | go_skip | go_guarded | go_step)
  refine (lIf_any 1 (some ⟨g40, 0, none⟩) 1 1 (some ⟨g48, 0, none⟩) 1 1 _).mono ?_
  rintro e v49 ⟨rfl, hbv49⟩
  have HB := Lib.hid (HB.out.trans (hbv49.mono HB.out.size))
  have T1 := Lib.hid (liftT T1.out hbv49)
  have T2 := Lib.hid (liftT T2.out hbv49)
  have L1 := Lib.hid (liftL L1.out hbv49)
  clear hbv49
  dsimp only
  obtain ⟨u50, hu50⟩ : ∃ u50, u50 = v49.alloc (.cells #[.int .u32 1, .slice (some ⟨g40, 0, none⟩) 1 1, .slice (some ⟨g48, 0, none⟩) 1 1] 36) := ⟨_, rfl⟩
  have hbu50 : Below v49.heap.size v49 u50 := by rw [hu50]; exact (Below.refl _ _).alloc (Nat.le_refl _) _
  have C1 := Lib.hid (show RdCs u50 u50.heap.size (some ⟨v49.heap.size, 0, none⟩) 1 [(((some ⟨g40, 0, none⟩), 1, 1), ((some ⟨g48, 0, none⟩), 1, 1), [((some ⟨g45, 0, none⟩), 2, 2)])] [((1, [(false, 5)]), [(false, (1, [(false, 5), (false, 6)]))])] by rw [hu50]; exact lit_c [(((1, [(false, 5)]), [(false, (1, [(false, 5), (false, 6)]))]), (((some ⟨g40, 0, none⟩), 1, 1), ((some ⟨g48, 0, none⟩), 1, 1), [((some ⟨g45, 0, none⟩), 2, 2)]))] v49 (by intro x hx; simp only [List.mem_singleton] at hx; subst hx; exact ⟨T1.out, L1.out⟩))
  have Hu50 := Lib.hid hu50
  clear hu50
  repeat (first | go_skip | go_guarded | go_step)
  rw [← Hu50.out]
  obtain ⟨g51, hg51⟩ : ∃ g51, g51 = v49.heap.size := ⟨_, rfl⟩
  rw [← hg51] at C1 ⊢
  clear hg51
  have HB := Lib.hid (HB.out.trans (hbu50.mono HB.out.size))
  have T1 := Lib.hid (liftT T1.out hbu50)
  have T2 := Lib.hid (liftT T2.out hbu50)
  have L1 := Lib.hid (liftL L1.out hbu50)
  clear hbu50 Hu50
  have hR : Calls Try.prog 8 #[.slice (some ⟨g51, 0, none⟩) 1 1] u50 fun e w' => e = .returned (.tuple #[.int .i64 0, .int .i64 9]) ∧ Below u50.heap.size u50 w' :=
    (OK.out.right (some ⟨g51, 0, none⟩) 1 1 _ [((1, [(false, 5)]), [(false, (1, [(false, 5), (false, 6)]))])] u50 C1.out (Nat.le_refl _) (slim_of (by decide +kernel)) (by omega)).mono fun e w' h => ⟨by rw [h.1, rM3]; rfl, h.2⟩
  repeat (first | go_skip | go_guarded | go_step)
  refine hR.mono ?_
  rintro e v52 ⟨rfl, hbv52⟩
  have HB := Lib.hid (HB.out.trans (hbv52.mono HB.out.size))
  clear hbv52 hR
  dsimp only
  obtain ⟨x1, hx1⟩ : ∃ x1, x1 = v52.alloc (.cells #[.int .u32 2] 30) := ⟨_, rfl⟩
  have hbx1 : Below v52.heap.size v52 x1 := by rw [hx1]; exact (Below.refl _ _).alloc (Nat.le_refl _) _
  obtain ⟨x2, hx2⟩ : ∃ x2, x2 = x1.alloc (.cells #[.int .u32 1, .slice none 0 0, .int .u32 1, .slice (some ⟨v52.heap.size, 0, none⟩) 1 1] 43) := ⟨_, rfl⟩
  have hbx2 : Below x1.heap.size x1 x2 := by rw [hx2]; exact (Below.refl _ _).alloc (Nat.le_refl _) _
  have hF : Rd x2 x2.heap.size 2 (some ⟨x1.heap.size, 0, none⟩) 2 (([(1, (none, 0, 0)), (1, (some ⟨v52.heap.size, 0, none⟩, 1, 1))] : List AtR).flatMap atC) := by rw [hx2]; exact lit_rd atC 2 (fun _ => rfl) [(1, (none, 0, 0)), (1, (some ⟨v52.heap.size, 0, none⟩, 1, 1))] x1 _
  have hR : Calls Try.prog 10 #[.slice none 0 0, .slice (some ⟨x1.heap.size, 0, none⟩) 2 2] x2 fun e w' => e = .returned (.tuple #[.int .i64 1, .int .i64 9]) ∧ Below x2.heap.size x2 w' :=
    (OK.out.arities none 0 0 [] [] (some ⟨x1.heap.size, 0, none⟩) 2 2 _ x2 ⟨rfl, rfl, Rd.nil, fun i q x h => by simp at h⟩ hF rfl (Nat.le_refl _) (fun x hx => by simp at hx) (by omega) (by omega)).mono fun e w' h => ⟨by rw [h.2.1 (by decide +kernel), show (([(1, (none, 0, 0)), (1, (some ⟨v52.heap.size, 0, none⟩, 1, 1))] : List AtR).map keyR) = [(1, 0), (1, 1)] from rfl, aM4]; rfl, h.2.2⟩
  have HB2 := Lib.hid (HB.out.trans ((hbx1.trans (hbx2.mono hbx1.size)).mono HB.out.size))
  have S1 := Lib.hid (show v52.heap.size + 1 = x1.heap.size by rw [hx1]; simp)
  have HX1 := Lib.hid hx1
  have HX2 := Lib.hid hx2
  clear hx1 hx2 hbx1 hbx2 hF
  repeat (first | go_skip | go_guarded | go_step)
  rw [← HX1.out, S1.out, ← HX2.out]
  refine hR.mono ?_
  rintro e wz ⟨rfl, hbz⟩
  have HBZ := Lib.hid (HB2.out.trans (hbz.mono HB2.out.size))
  clear hR hbz
  dsimp only
  repeat (first | go_skip | go_guarded | go_step)
  go_ret
  exact ⟨rfl, HBZ.out⟩
#print axioms sWorks_of
end Go.Proofs.Ytggnhgfickkgdaa
