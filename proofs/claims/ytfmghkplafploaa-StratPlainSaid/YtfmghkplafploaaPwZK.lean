/- Texts, packed: StQ -/
import Derived.Test.YtfmghkplafploaaPwP
import Derived.Test.YtfmghkplafploaaPwH
set_option linter.unusedVariables false
set_option linter.unusedSimpArgs false
namespace Go.Proofs.Ytfmghkplafploaa
open Go Go.RowKit

abbrev CW1 : List Cl := [((1, []), [(true, (2, []))]), ((2, []), [(false, (3, []))])]
abbrev CW2 : List Cl := [((1, []), [(true, (2, []))]), ((2, []), [(false, (1, []))])]
set_option maxRecDepth 100000 in
theorem rW1 : (rightM CW1).2 = 0 := by decide +kernel
set_option maxRecDepth 100000 in
theorem rW2 : (rightM CW2).2 = 0 := by decide +kernel
theorem told1 : LevTold CW1 0 [(1, 1), (2, 0), (3, 0)] := by
  refine LevTold.some (f := fun p => if p = 1 then 1 else 0) rW1 ⟨?_, ?_⟩ ?_ ?_ ?_
  · intro e he
    simp only [edL, edgC, List.flatMap_cons, List.flatMap_nil, List.map_cons, List.map_nil, List.append_nil, List.cons_append, List.nil_append, List.mem_cons, List.not_mem_nil, or_false] at he
    rcases he with rfl | rfl <;> decide
  · intro g hg p
    have h1 := hg (1, 2, true) (by simp [edL, edgC])
    show (if p = 1 then 1 else 0) ≤ g p
    split
    · rename_i hp; subst hp; simp [dl] at h1; omega
    · exact Nat.zero_le _
  · decide
  · intro p
    simp [prL, prC]
  · intro x hx
    simp only [List.mem_cons, List.not_mem_nil, or_false] at hx
    rcases hx with rfl | rfl | rfl <;> decide
theorem told2 : LevTold CW2 11 [] := by
  refine LevTold.none rW2 ?_
  rintro ⟨f, hf⟩
  have h1 := hf (1, 2, true) (by simp [edL, edgC])
  have h2 := hf (2, 1, false) (by simp [edL, edgC])
  simp [dl] at h1 h2
  omega
theorem slim_of' {C : List Cl} (h : C.all few1 = true) : Slim C := few_slim h
theorem liftV {w w' : World} {A : Option Addr} {n : Nat} {X : List Lv} (h : RdV w w.heap.size A n X) (hb : Below w.heap.size w w') : RdV w' w'.heap.size A n X := Rd.more (Rd.below h hb) hb.size
set_option maxRecDepth 100000 in
set_option maxHeartbeats 8000000 in
theorem tWorks_of (ok : StratOk) : TWorksOk := by
  intro w
  have OK := Lib.hid ok
  have HB := Lib.hid (Below.refl w.heap.size w)
  have TN := Lib.hid (show RdT w w.heap.size none 0 [] from Rd.nil)
  clear ok
  go_enter Try.func5, Try.ntmps5
  repeat (first | go_skip | go_guarded | go_step)
  refine (lA_any 1 none 0 0 _).mono ?_
  rintro e v1 ⟨rfl, hbv1⟩
  have HB := Lib.hid (HB.out.trans (hbv1.mono HB.out.size))
  have TN := Lib.hid (liftT TN.out hbv1)
  clear hbv1
  dsimp only
  repeat (first | go_skip | go_guarded | go_step)
  refine (lNo_any 2 none 0 0 _).mono ?_
  rintro e v2 ⟨rfl, hbv2⟩
  have HB := Lib.hid (HB.out.trans (hbv2.mono HB.out.size))
  have TN := Lib.hid (liftT TN.out hbv2)
  clear hbv2
  dsimp only
  obtain ⟨u3, hu3⟩ : ∃ u3, u3 = v2.alloc (.cells #[.bool true, .int .u32 2, .slice none 0 0] 33) := ⟨_, rfl⟩
  have hbu3 : Below v2.heap.size v2 u3 := by rw [hu3]; exact (Below.refl _ _).alloc (Nat.le_refl _) _
  have L1 := Lib.hid (show RdL u3 u3.heap.size (some ⟨v2.heap.size, 0, none⟩) 1 [(none, 0, 0)] [(true, (2, []))] by rw [hu3]; exact lit_l [((true, (2, [])), (none, 0, 0))] v2 (by intro x hx; simp only [List.mem_singleton] at hx; subst hx; exact TN.out))
  have Hu3 := Lib.hid hu3
  clear hu3
  repeat (first | go_skip | go_guarded | go_step)
  rw [← Hu3.out]
  obtain ⟨g4, hg4⟩ : ∃ g4, g4 = v2.heap.size := ⟨_, rfl⟩
  rw [← hg4] at L1 ⊢
  clear hg4
  have HB := Lib.hid (HB.out.trans (hbu3.mono HB.out.size))
  have TN := Lib.hid (liftT TN.out hbu3)
  clear hbu3 Hu3
  repeat (first | go_skip | go_guarded | go_step)
  refine (lIf_any 1 none 0 0 (some ⟨g4, 0, none⟩) 1 1 _).mono ?_
  rintro e v5 ⟨rfl, hbv5⟩
  have HB := Lib.hid (HB.out.trans (hbv5.mono HB.out.size))
  have TN := Lib.hid (liftT TN.out hbv5)
  have L1 := Lib.hid (liftL L1.out hbv5)
  clear hbv5
  dsimp only
  repeat (first | go_skip | go_guarded | go_step)
  refine (lA_any 2 none 0 0 _).mono ?_
  rintro e v6 ⟨rfl, hbv6⟩
  have HB := Lib.hid (HB.out.trans (hbv6.mono HB.out.size))
  have TN := Lib.hid (liftT TN.out hbv6)
  have L1 := Lib.hid (liftL L1.out hbv6)
  clear hbv6
  dsimp only
  repeat (first | go_skip | go_guarded | go_step)
  refine (lYes_any 3 none 0 0 _).mono ?_
  rintro e v7 ⟨rfl, hbv7⟩
  have HB := Lib.hid (HB.out.trans (hbv7.mono HB.out.size))
  have TN := Lib.hid (liftT TN.out hbv7)
  have L1 := Lib.hid (liftL L1.out hbv7)
  clear hbv7
  dsimp only
  obtain ⟨u8, hu8⟩ : ∃ u8, u8 = v7.alloc (.cells #[.bool false, .int .u32 3, .slice none 0 0] 33) := ⟨_, rfl⟩
  have hbu8 : Below v7.heap.size v7 u8 := by rw [hu8]; exact (Below.refl _ _).alloc (Nat.le_refl _) _
  have L2 := Lib.hid (show RdL u8 u8.heap.size (some ⟨v7.heap.size, 0, none⟩) 1 [(none, 0, 0)] [(false, (3, []))] by rw [hu8]; exact lit_l [((false, (3, [])), (none, 0, 0))] v7 (by intro x hx; simp only [List.mem_singleton] at hx; subst hx; exact TN.out))
  have Hu8 := Lib.hid hu8
  clear hu8
  repeat (first | go_skip | go_guarded | go_step)
  rw [← Hu8.out]
  obtain ⟨g9, hg9⟩ : ∃ g9, g9 = v7.heap.size := ⟨_, rfl⟩
  rw [← hg9] at L2 ⊢
  clear hg9
  have HB := Lib.hid (HB.out.trans (hbu8.mono HB.out.size))
  have TN := Lib.hid (liftT TN.out hbu8)
  have L1 := Lib.hid (liftL L1.out hbu8)
  clear hbu8 Hu8
  repeat (first | go_skip | go_guarded | go_step)
  refine (lIf_any 2 none 0 0 (some ⟨g9, 0, none⟩) 1 1 _).mono ?_
  rintro e v10 ⟨rfl, hbv10⟩
  have HB := Lib.hid (HB.out.trans (hbv10.mono HB.out.size))
  have TN := Lib.hid (liftT TN.out hbv10)
  have L1 := Lib.hid (liftL L1.out hbv10)
  have L2 := Lib.hid (liftL L2.out hbv10)
  clear hbv10
  dsimp only
  obtain ⟨u11, hu11⟩ : ∃ u11, u11 = v10.alloc (.cells #[.int .u32 1, .slice none 0 0, .slice (some ⟨g4, 0, none⟩) 1 1, .int .u32 2, .slice none 0 0, .slice (some ⟨g9, 0, none⟩) 1 1] 31) := ⟨_, rfl⟩
  have hbu11 : Below v10.heap.size v10 u11 := by rw [hu11]; exact (Below.refl _ _).alloc (Nat.le_refl _) _
  have C1 := Lib.hid (show RdCs u11 u11.heap.size (some ⟨v10.heap.size, 0, none⟩) 2 [((none, 0, 0), ((some ⟨g4, 0, none⟩), 1, 1), [(none, 0, 0)]), ((none, 0, 0), ((some ⟨g9, 0, none⟩), 1, 1), [(none, 0, 0)])] [((1, []), [(true, (2, []))]), ((2, []), [(false, (3, []))])] by rw [hu11]; exact lit_c [(((1, []), [(true, (2, []))]), ((none, 0, 0), ((some ⟨g4, 0, none⟩), 1, 1), [(none, 0, 0)])), (((2, []), [(false, (3, []))]), ((none, 0, 0), ((some ⟨g9, 0, none⟩), 1, 1), [(none, 0, 0)]))] v10 (by intro x hx; simp only [List.mem_cons, List.not_mem_nil, or_false] at hx; rcases hx with rfl | rfl <;> first | exact ⟨TN.out, L1.out⟩ | exact ⟨TN.out, L2.out⟩))
  have Hu11 := Lib.hid hu11
  clear hu11
  repeat (first | go_skip | go_guarded | go_step)
  rw [← Hu11.out]
  obtain ⟨g12, hg12⟩ : ∃ g12, g12 = v10.heap.size := ⟨_, rfl⟩
  rw [← hg12] at C1 ⊢
  clear hg12
  have HB := Lib.hid (HB.out.trans (hbu11.mono HB.out.size))
  have TN := Lib.hid (liftT TN.out hbu11)
  have L1 := Lib.hid (liftL L1.out hbu11)
  have L2 := Lib.hid (liftL L2.out hbu11)
  clear hbu11 Hu11
  have hR := OK.out.levels (some ⟨g12, 0, none⟩) 2 2 _ [((1, []), [(true, (2, []))]), ((2, []), [(false, (3, []))])] u11 C1.out (Nat.le_refl _) (slim_of' (by decide +kernel)) (by omega)
  repeat (first | go_skip | go_guarded | go_step)
  refine hR.mono ?_
  rintro e v13 ⟨erv13, Av13, cv13, Lv13, rfl, htv13, hrv13, hbv13⟩
  obtain ⟨rfl, rfl⟩ := told1.unique htv13
  have HB := Lib.hid (HB.out.trans (hbv13.mono HB.out.size))
  have TN := Lib.hid (liftT TN.out hbv13)
  have Vv13 := Lib.hid hrv13
  clear hbv13 hR htv13 hrv13
  dsimp only
  repeat (first | go_skip | go_guarded | go_step)
  refine (lA_any 1 none 0 0 _).mono ?_
  rintro e v14 ⟨rfl, hbv14⟩
  have HB := Lib.hid (HB.out.trans (hbv14.mono HB.out.size))
  have TN := Lib.hid (liftT TN.out hbv14)
  have Vv13 := Lib.hid (liftV Vv13.out hbv14)
  clear hbv14
  dsimp only
  repeat (first | go_skip | go_guarded | go_step)
  refine (lNo_any 2 none 0 0 _).mono ?_
  rintro e v15 ⟨rfl, hbv15⟩
  have HB := Lib.hid (HB.out.trans (hbv15.mono HB.out.size))
  have TN := Lib.hid (liftT TN.out hbv15)
  have Vv13 := Lib.hid (liftV Vv13.out hbv15)
  clear hbv15
  dsimp only
  obtain ⟨u16, hu16⟩ : ∃ u16, u16 = v15.alloc (.cells #[.bool true, .int .u32 2, .slice none 0 0] 33) := ⟨_, rfl⟩
  have hbu16 : Below v15.heap.size v15 u16 := by rw [hu16]; exact (Below.refl _ _).alloc (Nat.le_refl _) _
  have L1 := Lib.hid (show RdL u16 u16.heap.size (some ⟨v15.heap.size, 0, none⟩) 1 [(none, 0, 0)] [(true, (2, []))] by rw [hu16]; exact lit_l [((true, (2, [])), (none, 0, 0))] v15 (by intro x hx; simp only [List.mem_singleton] at hx; subst hx; exact TN.out))
  have Hu16 := Lib.hid hu16
  clear hu16
  repeat (first | go_skip | go_guarded | go_step)
  rw [← Hu16.out]
  obtain ⟨g17, hg17⟩ : ∃ g17, g17 = v15.heap.size := ⟨_, rfl⟩
  rw [← hg17] at L1 ⊢
  clear hg17
  have HB := Lib.hid (HB.out.trans (hbu16.mono HB.out.size))
  have TN := Lib.hid (liftT TN.out hbu16)
  have Vv13 := Lib.hid (liftV Vv13.out hbu16)
  clear hbu16 Hu16
  repeat (first | go_skip | go_guarded | go_step)
  refine (lIf_any 1 none 0 0 (some ⟨g17, 0, none⟩) 1 1 _).mono ?_
  rintro e v18 ⟨rfl, hbv18⟩
  have HB := Lib.hid (HB.out.trans (hbv18.mono HB.out.size))
  have TN := Lib.hid (liftT TN.out hbv18)
  have Vv13 := Lib.hid (liftV Vv13.out hbv18)
  have L1 := Lib.hid (liftL L1.out hbv18)
  clear hbv18
  dsimp only
  repeat (first | go_skip | go_guarded | go_step)
  refine (lA_any 2 none 0 0 _).mono ?_
  rintro e v19 ⟨rfl, hbv19⟩
  have HB := Lib.hid (HB.out.trans (hbv19.mono HB.out.size))
  have TN := Lib.hid (liftT TN.out hbv19)
  have Vv13 := Lib.hid (liftV Vv13.out hbv19)
  have L1 := Lib.hid (liftL L1.out hbv19)
  clear hbv19
  dsimp only
  repeat (first | go_skip | go_guarded | go_step)
  refine (lYes_any 1 none 0 0 _).mono ?_
  rintro e v20 ⟨rfl, hbv20⟩
  have HB := Lib.hid (HB.out.trans (hbv20.mono HB.out.size))
  have TN := Lib.hid (liftT TN.out hbv20)
  have Vv13 := Lib.hid (liftV Vv13.out hbv20)
  have L1 := Lib.hid (liftL L1.out hbv20)
  clear hbv20
  dsimp only
  obtain ⟨u21, hu21⟩ : ∃ u21, u21 = v20.alloc (.cells #[.bool false, .int .u32 1, .slice none 0 0] 33) := ⟨_, rfl⟩
  have hbu21 : Below v20.heap.size v20 u21 := by rw [hu21]; exact (Below.refl _ _).alloc (Nat.le_refl _) _
  have L2 := Lib.hid (show RdL u21 u21.heap.size (some ⟨v20.heap.size, 0, none⟩) 1 [(none, 0, 0)] [(false, (1, []))] by rw [hu21]; exact lit_l [((false, (1, [])), (none, 0, 0))] v20 (by intro x hx; simp only [List.mem_singleton] at hx; subst hx; exact TN.out))
  have Hu21 := Lib.hid hu21
  clear hu21
  repeat (first | go_skip | go_guarded | go_step)
  rw [← Hu21.out]
  obtain ⟨g22, hg22⟩ : ∃ g22, g22 = v20.heap.size := ⟨_, rfl⟩
  rw [← hg22] at L2 ⊢
  clear hg22
  have HB := Lib.hid (HB.out.trans (hbu21.mono HB.out.size))
  have TN := Lib.hid (liftT TN.out hbu21)
  have Vv13 := Lib.hid (liftV Vv13.out hbu21)
  have L1 := Lib.hid (liftL L1.out hbu21)
  clear hbu21 Hu21
  repeat (first | go_skip | go_guarded | go_step)
  refine (lIf_any 2 none 0 0 (some ⟨g22, 0, none⟩) 1 1 _).mono ?_
  rintro e v23 ⟨rfl, hbv23⟩
  have HB := Lib.hid (HB.out.trans (hbv23.mono HB.out.size))
  have TN := Lib.hid (liftT TN.out hbv23)
  have Vv13 := Lib.hid (liftV Vv13.out hbv23)
  have L1 := Lib.hid (liftL L1.out hbv23)
  have L2 := Lib.hid (liftL L2.out hbv23)
  clear hbv23
  dsimp only
  obtain ⟨u24, hu24⟩ : ∃ u24, u24 = v23.alloc (.cells #[.int .u32 1, .slice none 0 0, .slice (some ⟨g17, 0, none⟩) 1 1, .int .u32 2, .slice none 0 0, .slice (some ⟨g22, 0, none⟩) 1 1] 31) := ⟨_, rfl⟩
  have hbu24 : Below v23.heap.size v23 u24 := by rw [hu24]; exact (Below.refl _ _).alloc (Nat.le_refl _) _
  have C1 := Lib.hid (show RdCs u24 u24.heap.size (some ⟨v23.heap.size, 0, none⟩) 2 [((none, 0, 0), ((some ⟨g17, 0, none⟩), 1, 1), [(none, 0, 0)]), ((none, 0, 0), ((some ⟨g22, 0, none⟩), 1, 1), [(none, 0, 0)])] [((1, []), [(true, (2, []))]), ((2, []), [(false, (1, []))])] by rw [hu24]; exact lit_c [(((1, []), [(true, (2, []))]), ((none, 0, 0), ((some ⟨g17, 0, none⟩), 1, 1), [(none, 0, 0)])), (((2, []), [(false, (1, []))]), ((none, 0, 0), ((some ⟨g22, 0, none⟩), 1, 1), [(none, 0, 0)]))] v23 (by intro x hx; simp only [List.mem_cons, List.not_mem_nil, or_false] at hx; rcases hx with rfl | rfl <;> first | exact ⟨TN.out, L1.out⟩ | exact ⟨TN.out, L2.out⟩))
  have Hu24 := Lib.hid hu24
  clear hu24
  repeat (first | go_skip | go_guarded | go_step)
  rw [← Hu24.out]
  obtain ⟨g25, hg25⟩ : ∃ g25, g25 = v23.heap.size := ⟨_, rfl⟩
  rw [← hg25] at C1 ⊢
  clear hg25
  have HB := Lib.hid (HB.out.trans (hbu24.mono HB.out.size))
  have TN := Lib.hid (liftT TN.out hbu24)
  have Vv13 := Lib.hid (liftV Vv13.out hbu24)
  have L1 := Lib.hid (liftL L1.out hbu24)
  have L2 := Lib.hid (liftL L2.out hbu24)
  clear hbu24 Hu24
  have hR := OK.out.levels (some ⟨g25, 0, none⟩) 2 2 _ [((1, []), [(true, (2, []))]), ((2, []), [(false, (1, []))])] u24 C1.out (Nat.le_refl _) (slim_of' (by decide +kernel)) (by omega)
  repeat (first | go_skip | go_guarded | go_step)
  refine hR.mono ?_
  rintro e v26 ⟨erv26, Av26, cv26, Lv26, rfl, htv26, hrv26, hbv26⟩
  obtain ⟨rfl, rfl⟩ := told2.unique htv26
  have HB := Lib.hid (HB.out.trans (hbv26.mono HB.out.size))
  have TN := Lib.hid (liftT TN.out hbv26)
  have Vv13 := Lib.hid (liftV Vv13.out hbv26)
  have Vv26 := Lib.hid hrv26
  clear hbv26 hR htv26 hrv26
  dsimp only
  obtain ⟨b, o, x, hA, hb, hx, hc0, hc1⟩ := rdV_at Vv13.out (i := 0) (by simp)
  obtain ⟨b2, o2, x2, hA2, hb2, hx2, hd0, hd1⟩ := rdV_at Vv13.out (i := 1) (by simp)
  rw [hA] at hA2
  simp only [Option.some.injEq, Addr.mk.injEq, and_true] at hA2
  obtain ⟨rfl, rfl⟩ := hA2
  simp only [List.getElem?_cons_zero, List.getElem?_cons_succ, Option.some.injEq] at hx hx2
  subst hx hx2
  subst hA
  simp only [Nat.zero_mul, Nat.add_zero, Nat.one_mul] at hc0 hc1 hd0 hd1
  have k0 : v26.cell? ⟨b, o, none⟩ = some (.int .u32 1) := hc0
  have k1 : v26.cell? ⟨b, o + 1, none⟩ = some (.int .i64 1) := hc1
  have k3 : v26.cell? ⟨b, o + 2 + 1, none⟩ = some (.int .i64 0) := hd1
  have heq : ∀ W : World, (Op.equalIn 10000 42 (.agg #[.int .u32 1, .int .i64 1]) (.agg #[.int .u32 1, .int .i64 1])).run Try.prog W = .ok true W := fun W => eqV 1 1 W
  clear hc0 hc1 hd0 hd1
  repeat (first | go_skip | go_guarded | go_step)
  go_ret
  exact ⟨rfl, HB.out⟩
end Go.Proofs.Ytfmghkplafploaa

