/- GraphPlays: whatever graph is given: the parts, their order, and what was given stays. No condition. (Written by genGrVa.py.) -/
import Derived.Test.YtbfagejdpbagjaaGrVc
import Derived.Test.YtbfagejdpbagjaaGrU2
import Derived.Test.YtbfagejdpbagjaaGrVe
set_option linter.unusedVariables false
set_option linter.unusedSimpArgs false
namespace Go.Proofs.Ytbfagejdpbagjaa.graphPlays
open Go Go.RowKit Go.ChangeShapes Go.WideShapes Go.ChangeAt

set_option maxRecDepth 100000 in
set_option maxHeartbeats 2000000 in
theorem walkMuch (n : Int) (A : Option Addr) (ne c : Nat) (E0 : List (Int × Int)) (x : Int) (w : World) (hr : RdE w w.heap.size A ne E0) (hf : ¬ (n ≤ 60 ∧ ne ≤ 300)) (h4 : n ≤ 4096) :
    Calls Try.prog 3 #[.int .i64 n, .slice A ne c, .int .i64 x] w fun e w' => e = .returned (.bool true) ∧ Below w.heap.size w w' := by
  have hfew := few_any n A ne c w
  rw [decide_eq_false (by omega)] at hfew
  have HR := Lib.hid hr
  have HB := Lib.hid (Below.refl w.heap.size w)
  clear hr
  have k4 : decide (n ≤ 4096) = true := decide_eq_true h4
  go_enter Try.func3, Try.ntmps3
  repeat (first | go_skip | go_guarded | go_step)
  refine hfew.mono ?_
  rintro e w1 ⟨rfl, rfl⟩
  clear hfew
  dsimp only
  repeat (first | go_skip | go_guarded | go_step)
  refine (works_any _).mono ?_
  rintro e wz ⟨rfl, hbz⟩
  have HBZ := Lib.hid (HB.out.trans (hbz.mono HB.out.size))
  clear hbz
  dsimp only
  repeat (first | go_skip | go_guarded | go_step)
  go_ret
  exact ⟨rfl, HBZ.out⟩
set_option maxRecDepth 100000 in
set_option maxHeartbeats 2000000 in
theorem walkLong (n : Int) (A : Option Addr) (ne c : Nat) (E0 : List (Int × Int)) (x : Int) (w : World) (hr : RdE w w.heap.size A ne E0) (hf : ¬ (n ≤ 60 ∧ ne ≤ 300)) (h4 : ¬ n ≤ 4096) (h5 : 20000 < ne) :
    Calls Try.prog 3 #[.int .i64 n, .slice A ne c, .int .i64 x] w fun e w' => e = .returned (.bool true) ∧ Below w.heap.size w w' := by
  have hfew := few_any n A ne c w
  rw [decide_eq_false (by omega)] at hfew
  have HR := Lib.hid hr
  have HB := Lib.hid (Below.refl w.heap.size w)
  clear hr
  have k4 : decide (n ≤ 4096) = false := decide_eq_false h4
  have k5 : (20000 : Int) < (ne : Int) := by omega
  go_enter Try.func3, Try.ntmps3
  repeat (first | go_skip | go_guarded | go_step)
  refine hfew.mono ?_
  rintro e w1 ⟨rfl, rfl⟩
  clear hfew
  dsimp only
  repeat (first | go_skip | go_guarded | go_step)
  refine (works_any _).mono ?_
  rintro e wz ⟨rfl, hbz⟩
  have HBZ := Lib.hid (HB.out.trans (hbz.mono HB.out.size))
  clear hbz
  dsimp only
  repeat (first | go_skip | go_guarded | go_step)
  go_ret
  exact ⟨rfl, HBZ.out⟩
set_option maxRecDepth 100000 in
set_option maxHeartbeats 2000000 in
theorem walkFew (n : Int) (A : Option Addr) (ne c : Nat) (E0 : List (Int × Int)) (x : Int) (w : World) (hr : RdE w w.heap.size A ne E0) (hf : n ≤ 60 ∧ ne ≤ 300) :
    Calls Try.prog 3 #[.int .i64 n, .slice A ne c, .int .i64 x] w fun e w' => e = .returned (.bool true) ∧ Below w.heap.size w w' := by
  have hfew := few_any n A ne c w
  rw [decide_eq_true (by omega)] at hfew
  have HR := Lib.hid hr
  have HB := Lib.hid (Below.refl w.heap.size w)
  clear hr
  have k5 : ¬ (20000 : Int) < (ne : Int) := by omega
  go_enter Try.func3, Try.ntmps3
  repeat (first | go_skip | go_guarded | go_step)
  refine hfew.mono ?_
  rintro e w1 ⟨rfl, rfl⟩
  clear hfew
  dsimp only
  obtain ⟨w0, hw0⟩ : ∃ w0, w0 = w1.alloc (.cells #[] 31) := ⟨_, rfl⟩
  have HO0 := Lib.hid (show OwE w0 w1.heap.size (some ⟨w1.heap.size, 0, none⟩) 0 0 [] from hw0 ▸ OwE.lit0 w1)
  have HB0 := Lib.hid (show Below w1.heap.size w1 w0 from hw0 ▸ (Below.refl w1.heap.size w1).alloc (Nat.le_refl _) _)
  have HW0 := Lib.hid hw0
  have HRZ := Lib.hid ((HR.out.below HB0.out).more HB0.out.size)
  clear hw0
  repeat (first
    | (at_builtin; rw [← HW0.out]
       refine appE0 _ rfl (.tmp 26) (.tmp 27) rfl w1.heap.size (some ⟨w1.heap.size, 0, none⟩) 0 rfl HO0.out _ A ne c E0 rfl HRZ.out (by omega) HB0.out.size ?_
       intro Ak ck w2 hok htk hfk
       have HOK := Lib.hid hok
       have HB2 := Lib.hid (show Below w1.heap.size w1 w2 from HB0.out.trans (htk.below (B := w1.heap.size) (fun y _ e => by cases e; exact Nat.le_refl _) HB0.out.size))
       clear hok htk hfk)
    | go_skip | go_guarded | go_step)
  refine (parts_any n Ak ne ck E0 w2 HOK.out.rd).mono ?_
  rintro e w3 hT1
  have HR3 := Lib.hid ((HR.out.below (HB2.out.trans (hT1.1.mono HB2.out.size))).more (Nat.le_trans HB2.out.size hT1.1.size))
  have hpart := rParts_any n A ne c E0 w3 HR3.out
  have HT1 := Lib.hid hT1
  obtain ⟨v, hv⟩ : ∃ v, v = e := ⟨_, rfl⟩
  obtain ⟨st, L, Ag, Ag', cg, cg', Rg, Rg', he, -⟩ := told_same hT1 hT1
  clear hv v
  subst he
  clear hT1
  dsimp only
  repeat (first | go_skip | go_guarded | go_step)
  refine hpart.mono ?_
  rintro e w4 hT2
  obtain ⟨st2, L2, A1, A2, c1, c2, R1, R2, he1, he2, hr1, hr2, hl1, hl2, hb1, hb2⟩ := told_same HT1.out hT2
  simp only [Ending.returned.injEq, Value.tuple.injEq, Array.mk.injEq, List.cons.injEq, Value.slice.injEq, Value.int.injEq, and_true, true_and] at he1
  obtain ⟨⟨rfl, hLL, rfl⟩, rfl⟩ := he1
  subst he2
  have HB4 := Lib.hid (HB2.out.trans ((hb1.mono HB2.out.size).trans (hb2.mono (Nat.le_trans HB2.out.size hb1.size))))
  have HR1 := Lib.hid ((hr1.below hb2).more hb2.size)
  have HR2 := Lib.hid hr2
  have HL1 := Lib.hid hl1
  have HL2 := Lib.hid hl2
  have HK4 := Lib.hid ((HOK.out.rd.below (hb1.trans (hb2.mono hb1.size))).more (Nat.le_trans hb1.size hb2.size))
  have HE4 := Lib.hid ((HR.out.below HB4.out).more HB4.out.size)
  obtain ⟨ll, hll⟩ : ∃ ll, ll = L2.length := ⟨_, rfl⟩
  rw [hLL, ← hll]
  rw [← hll] at hl1
  have HLL := Lib.hid hll
  have hs1 := rSame_any Ag A2 ll cg ll c2 L2 L2 R1 R2 w4 HR1.out HR2.out hll.symm hll.symm (by omega) (by omega) (fun p hp => by have := HL2.out p hp; omega) (fun p hp => by have := HL2.out p hp; omega)
  rw [decide_eq_true (rfl : L2 = L2)] at hs1
  have hst : ((st : Int) != st) = false := by simp
  clear hT2 hr1 hr2 hl1 hl2 hb1 hb2 hpart HT1 hll hLL
  dsimp only
  repeat (first | go_skip | go_guarded | go_step)
  refine hs1.mono ?_
  rintro e w5 ⟨rfl, hb5⟩
  have HB5 := Lib.hid (HB4.out.trans (hb5.mono HB4.out.size))
  have HB45 := Lib.hid hb5
  have HR2' := Lib.hid ((HR2.out.below hb5).more hb5.size)
  clear hb5 hs1
  dsimp only
  repeat (first | go_skip | go_guarded | go_step)
  refine (part_any A2 ll c2 L2 R2 x w5 HR2'.out HLL.out.symm (by have := HL1.out; have := HLL.out; omega) (fun p hp => by have := HL2.out p hp; omega)).mono ?_
  rintro e w6 ⟨rfl, hb6⟩
  have HB6 := Lib.hid (HB5.out.trans (hb6.mono HB5.out.size))
  have HB46 := Lib.hid (HB45.out.trans (hb6.mono HB45.out.size))
  have HR2b := Lib.hid ((HR2'.out.below hb6).more hb6.size)
  clear hb6
  dsimp only
  repeat (first | go_skip | go_guarded | go_step)
  refine (rPart_any A2 ll c2 L2 R2 x w6 HR2b.out HLL.out.symm (by have := HL1.out; have := HLL.out; omega) (fun p hp => by have := HL2.out p hp; omega)).mono ?_
  rintro e w7 ⟨rfl, rfl⟩
  obtain ⟨px, hpx⟩ : ∃ px, px = partIx L2 x := ⟨_, rfl⟩
  rw [← hpx]
  clear hpx
  have hpp : ((px : Int) != px) = false := by simp
  dsimp only
  repeat (first | go_skip | go_guarded | go_step)
  go_loopw [12] (fun q wr => ∃ i : Nat, i ≤ ne ∧ q = .int .i64 (i : Int) ∧ Below w7.heap.size w7 wr) (fun q _ => ne - (intOf q).toNat)
  case atStart => exact ⟨0, by omega, rfl, Below.refl _ _⟩
  case round =>
    rename World => wr
    obtain ⟨i, hi, rfl, hbw⟩ := hrel
    have HBW := Lib.hid hbw
    clear hbw
    by_cases hlt : i < ne
    · have hii : (i : Int) < (ne : Int) := by omega
      obtain ⟨be, oe, ed, hA, hbe, he, hc0, hc1⟩ := HE4.out.at_ hlt
      obtain ⟨bk, ok, ed2, hAk, hbk, hk, hk0, hk1⟩ := HK4.out.at_ hlt
      rw [he] at hk
      cases hk
      subst hA hAk
      obtain ⟨a, b⟩ := ed
      dsimp only at hc0 hc1 hk0 hk1
      have hall : ∀ q, Below w4.heap.size w4 (wr.drewN q) := fun q => belowDrews (HB46.out.trans (HBW.out.mono HB46.out.size)) q
      have qa := fun q => ((hall q).cell (p := ⟨be, oe + i * 2, none⟩) hbe).trans hc0
      have qb := fun q => ((hall q).cell (p := ⟨be, oe + i * 2 + 1, none⟩) hbe).trans hc1
      have qc := fun q => ((hall q).cell (p := ⟨bk, ok + i * 2, none⟩) hbk).trans hk0
      have qd := fun q => ((hall q).cell (p := ⟨bk, ok + i * 2 + 1, none⟩) hbk).trans hk1
      clear hall he hc0 hc1 hk0 hk1 hbe hbk
      go_upto_region 13 with (fail)
      refine wp_region_quiet_lit (by kernel_rfl) (by kernel_rfl) ?_
      repeat (quiet_step (fail))
      refine wpQuiet_step (fun K hK => ?_)
      go_simp
      refine ⟨.bool false, fun nn => ?_, hK _ ?_⟩
      · have hq := run_eqE a b (wr.drewN nn)
        unfold ag at hq
        rw [hq]
        exact ⟨rfl, rfl⟩
      clear hK K
      refine wpQuiet_nil ?_
      intro _ hw'
      obtain ⟨nq, hw''⟩ := hw'
      subst hw''
      repeat (first | go_skip | go_guarded | go_step)
      have hb4 := belowDrews HBW.out nq
      go_roundw
      case rel => exact ⟨i + 1, by omega, by go_num, hb4⟩
      case measure => simp [intOf]; omega
    · obtain rfl : i = ne := by omega
      have hii : ¬ (i : Int) < (i : Int) := by omega
      have HB7 := Lib.hid (HB6.out.trans (HBW.out.mono HB6.out.size))
      repeat (first | go_skip | go_guarded | go_step)
      refine (works_any _).mono ?_
      rintro e wz ⟨rfl, hbz⟩
      have HBZ := Lib.hid (HB7.out.trans (hbz.mono HB7.out.size))
      clear hbz
      dsimp only
      repeat (first | go_skip | go_guarded | go_step)
      go_ret
      exact ⟨rfl, HBZ.out⟩
set_option maxRecDepth 100000 in
set_option maxHeartbeats 2000000 in
theorem walkOver (n : Int) (A : Option Addr) (ne c : Nat) (E0 : List (Int × Int)) (x : Int) (w : World) (hr : RdE w w.heap.size A ne E0) (hf : ¬ (n ≤ 60 ∧ ne ≤ 300)) (h4 : ¬ n ≤ 4096) (h5 : ¬ 20000 < ne) :
    Calls Try.prog 3 #[.int .i64 n, .slice A ne c, .int .i64 x] w fun e w' => e = .returned (.bool true) ∧ Below w.heap.size w w' := by
  have hfew := few_any n A ne c w
  rw [decide_eq_false (by omega)] at hfew
  have HR := Lib.hid hr
  have HB := Lib.hid (Below.refl w.heap.size w)
  clear hr
  have k4 : decide (n ≤ 4096) = false := decide_eq_false h4
  have k5 : ¬ (20000 : Int) < (ne : Int) := by omega
  go_enter Try.func3, Try.ntmps3
  repeat (first | go_skip | go_guarded | go_step)
  refine hfew.mono ?_
  rintro e w1 ⟨rfl, rfl⟩
  clear hfew
  dsimp only
  obtain ⟨w0, hw0⟩ : ∃ w0, w0 = w1.alloc (.cells #[] 31) := ⟨_, rfl⟩
  have HO0 := Lib.hid (show OwE w0 w1.heap.size (some ⟨w1.heap.size, 0, none⟩) 0 0 [] from hw0 ▸ OwE.lit0 w1)
  have HB0 := Lib.hid (show Below w1.heap.size w1 w0 from hw0 ▸ (Below.refl w1.heap.size w1).alloc (Nat.le_refl _) _)
  have HW0 := Lib.hid hw0
  have HRZ := Lib.hid ((HR.out.below HB0.out).more HB0.out.size)
  clear hw0
  repeat (first
    | (at_builtin; rw [← HW0.out]
       refine appE0 _ rfl (.tmp 26) (.tmp 27) rfl w1.heap.size (some ⟨w1.heap.size, 0, none⟩) 0 rfl HO0.out _ A ne c E0 rfl HRZ.out (by omega) HB0.out.size ?_
       intro Ak ck w2 hok htk hfk
       have HOK := Lib.hid hok
       have HB2 := Lib.hid (show Below w1.heap.size w1 w2 from HB0.out.trans (htk.below (B := w1.heap.size) (fun y _ e => by cases e; exact Nat.le_refl _) HB0.out.size))
       clear hok htk hfk)
    | go_skip | go_guarded | go_step)
  refine (parts_any n Ak ne ck E0 w2 HOK.out.rd).mono ?_
  rintro e w3 hT1
  have HR3 := Lib.hid ((HR.out.below (HB2.out.trans (hT1.1.mono HB2.out.size))).more (Nat.le_trans HB2.out.size hT1.1.size))
  have hpart := rParts_any n A ne c E0 w3 HR3.out
  have HT1 := Lib.hid hT1
  obtain ⟨v, hv⟩ : ∃ v, v = e := ⟨_, rfl⟩
  obtain ⟨st, L, Ag, Ag', cg, cg', Rg, Rg', he, -⟩ := told_same hT1 hT1
  clear hv v
  subst he
  clear hT1
  dsimp only
  repeat (first | go_skip | go_guarded | go_step)
  refine hpart.mono ?_
  rintro e w4 hT2
  obtain ⟨st2, L2, A1, A2, c1, c2, R1, R2, he1, he2, hr1, hr2, hl1, hl2, hb1, hb2⟩ := told_same HT1.out hT2
  simp only [Ending.returned.injEq, Value.tuple.injEq, Array.mk.injEq, List.cons.injEq, Value.slice.injEq, Value.int.injEq, and_true, true_and] at he1
  obtain ⟨⟨rfl, hLL, rfl⟩, rfl⟩ := he1
  subst he2
  have HB4 := Lib.hid (HB2.out.trans ((hb1.mono HB2.out.size).trans (hb2.mono (Nat.le_trans HB2.out.size hb1.size))))
  have HR1 := Lib.hid ((hr1.below hb2).more hb2.size)
  have HR2 := Lib.hid hr2
  have HL1 := Lib.hid hl1
  have HL2 := Lib.hid hl2
  have HK4 := Lib.hid ((HOK.out.rd.below (hb1.trans (hb2.mono hb1.size))).more (Nat.le_trans hb1.size hb2.size))
  have HE4 := Lib.hid ((HR.out.below HB4.out).more HB4.out.size)
  obtain ⟨ll, hll⟩ : ∃ ll, ll = L2.length := ⟨_, rfl⟩
  rw [hLL, ← hll]
  rw [← hll] at hl1
  have HLL := Lib.hid hll
  have hs1 := rSame_any Ag A2 ll cg ll c2 L2 L2 R1 R2 w4 HR1.out HR2.out hll.symm hll.symm (by omega) (by omega) (fun p hp => by have := HL2.out p hp; omega) (fun p hp => by have := HL2.out p hp; omega)
  rw [decide_eq_true (rfl : L2 = L2)] at hs1
  have hst : ((st : Int) != st) = false := by simp
  clear hT2 hr1 hr2 hl1 hl2 hb1 hb2 hpart HT1 hll hLL
  dsimp only
  repeat (first | go_skip | go_guarded | go_step)
  refine hs1.mono ?_
  rintro e w5 ⟨rfl, hb5⟩
  have HB5 := Lib.hid (HB4.out.trans (hb5.mono HB4.out.size))
  have HB45 := Lib.hid hb5
  have HR2' := Lib.hid ((HR2.out.below hb5).more hb5.size)
  clear hb5 hs1
  dsimp only
  repeat (first | go_skip | go_guarded | go_step)
  refine (part_any A2 ll c2 L2 R2 x w5 HR2'.out HLL.out.symm (by have := HL1.out; have := HLL.out; omega) (fun p hp => by have := HL2.out p hp; omega)).mono ?_
  rintro e w6 ⟨rfl, hb6⟩
  have HB6 := Lib.hid (HB5.out.trans (hb6.mono HB5.out.size))
  have HB46 := Lib.hid (HB45.out.trans (hb6.mono HB45.out.size))
  have HR2b := Lib.hid ((HR2'.out.below hb6).more hb6.size)
  clear hb6
  dsimp only
  repeat (first | go_skip | go_guarded | go_step)
  refine (rPart_any A2 ll c2 L2 R2 x w6 HR2b.out HLL.out.symm (by have := HL1.out; have := HLL.out; omega) (fun p hp => by have := HL2.out p hp; omega)).mono ?_
  rintro e w7 ⟨rfl, rfl⟩
  obtain ⟨px, hpx⟩ : ∃ px, px = partIx L2 x := ⟨_, rfl⟩
  rw [← hpx]
  clear hpx
  have hpp : ((px : Int) != px) = false := by simp
  dsimp only
  repeat (first | go_skip | go_guarded | go_step)
  go_loopw [12] (fun q wr => ∃ i : Nat, i ≤ ne ∧ q = .int .i64 (i : Int) ∧ Below w7.heap.size w7 wr) (fun q _ => ne - (intOf q).toNat)
  case atStart => exact ⟨0, by omega, rfl, Below.refl _ _⟩
  case round =>
    rename World => wr
    obtain ⟨i, hi, rfl, hbw⟩ := hrel
    have HBW := Lib.hid hbw
    clear hbw
    by_cases hlt : i < ne
    · have hii : (i : Int) < (ne : Int) := by omega
      obtain ⟨be, oe, ed, hA, hbe, he, hc0, hc1⟩ := HE4.out.at_ hlt
      obtain ⟨bk, ok, ed2, hAk, hbk, hk, hk0, hk1⟩ := HK4.out.at_ hlt
      rw [he] at hk
      cases hk
      subst hA hAk
      obtain ⟨a, b⟩ := ed
      dsimp only at hc0 hc1 hk0 hk1
      have hall : ∀ q, Below w4.heap.size w4 (wr.drewN q) := fun q => belowDrews (HB46.out.trans (HBW.out.mono HB46.out.size)) q
      have qa := fun q => ((hall q).cell (p := ⟨be, oe + i * 2, none⟩) hbe).trans hc0
      have qb := fun q => ((hall q).cell (p := ⟨be, oe + i * 2 + 1, none⟩) hbe).trans hc1
      have qc := fun q => ((hall q).cell (p := ⟨bk, ok + i * 2, none⟩) hbk).trans hk0
      have qd := fun q => ((hall q).cell (p := ⟨bk, ok + i * 2 + 1, none⟩) hbk).trans hk1
      clear hall he hc0 hc1 hk0 hk1 hbe hbk
      go_upto_region 13 with (fail)
      refine wp_region_quiet_lit (by kernel_rfl) (by kernel_rfl) ?_
      repeat (quiet_step (fail))
      refine wpQuiet_step (fun K hK => ?_)
      go_simp
      refine ⟨.bool false, fun nn => ?_, hK _ ?_⟩
      · have hq := run_eqE a b (wr.drewN nn)
        unfold ag at hq
        rw [hq]
        exact ⟨rfl, rfl⟩
      clear hK K
      refine wpQuiet_nil ?_
      intro _ hw'
      obtain ⟨nq, hw''⟩ := hw'
      subst hw''
      repeat (first | go_skip | go_guarded | go_step)
      have hb4 := belowDrews HBW.out nq
      go_roundw
      case rel => exact ⟨i + 1, by omega, by go_num, hb4⟩
      case measure => simp [intOf]; omega
    · obtain rfl : i = ne := by omega
      have hii : ¬ (i : Int) < (i : Int) := by omega
      have HB7 := Lib.hid (HB6.out.trans (HBW.out.mono HB6.out.size))
      repeat (first | go_skip | go_guarded | go_step)
      refine (works_any _).mono ?_
      rintro e wz ⟨rfl, hbz⟩
      have HBZ := Lib.hid (HB7.out.trans (hbz.mono HB7.out.size))
      clear hbz
      dsimp only
      repeat (first | go_skip | go_guarded | go_step)
      go_ret
      exact ⟨rfl, HBZ.out⟩
theorem walk (n : Int) (A : Option Addr) (ne c : Nat) (E0 : List (Int × Int)) (x : Int) (w : World) (hr : RdE w w.heap.size A ne E0) :
    Calls Try.prog 3 #[.int .i64 n, .slice A ne c, .int .i64 x] w fun e w' => e = .returned (.bool true) ∧ Below w.heap.size w w' := by
  by_cases hf : n ≤ 60 ∧ ne ≤ 300
  · exact walkFew n A ne c E0 x w hr hf
  · by_cases h4 : n ≤ 4096
    · exact walkMuch n A ne c E0 x w hr hf h4
    · by_cases h5 : 20000 < ne
      · exact walkLong n A ne c E0 x w hr hf h4 h5
      · exact walkOver n A ne c E0 x w hr hf h4 h5

set_option maxRecDepth 100000 in
theorem lifted (os : Os) (started : os.Started) (H : Type) (enc : TypeId × Value → H) :
    ReturnsInHanded {} Try.checked os 3 .any (Rows.graphPlaysSpec.pre6 enc Try.prog Try.f3 Rows.graphPlaysRow.domain false) (Rows.graphPlaysSpec.post enc Try.prog Try.f3 false true false false) := by
  refine returnsInHanded_of_change_sized (C := Try.checked) ownK started (by kernel_rfl) Try.func3
    (ChangeSpec.witness6 (enc := enc) (C := Try.checked) false ⟨#[], #[.int .i64 0, .slice none 0 0, .int .i64 0], []⟩ 8 (by kernel_rfl) (by kernel_rfl) (by kernel_rfl) (by kernel_rfl)) ?_
  intro W base args ds gs before hval0 hW hcnd hsz0 _
  have hval : ∀ (j : Nat) t v, Try.f3.params[j]? = some t → args[j]? = some v → Value.okWide Try.prog W .any base t v := hval0
  have hlt : ∀ x ∈ before, x.block < W.heap.size := fun x hx => by simpa using hW.lt x hx
  have hW' := hW
  obtain ⟨p, q, hA0, hV, rfl, hfz, hnd⟩ := hW
  have hA : DataW.TrodAll enc Try.prog W 0 (fun _ => true) true Try.f3.params.toList args.toList ds p := hA0
  rw [Try.params3] at hA hval
  obtain ⟨v0, vs0, d0, ds0, p0, q0, hargs, rfl, rfl, h0, r0⟩ := trodAll_cons hA
  obtain ⟨v1, vs1, d1, ds1, p1, q1, rfl, rfl, rfl, h1, r1⟩ := trodAll_cons r0
  obtain ⟨v2, vs2, d2, ds2, p2, q2, rfl, rfl, rfl, h2, r2⟩ := trodAll_cons r1
  obtain ⟨rfl, rfl, rfl⟩ := trodAll_nil r2
  obtain rfl : args = #[v0, v1, v2] := by cases args; simp_all
  obtain ⟨rfl, rfl⟩ := trodVars_none hV
  obtain ⟨x, rfl, rfl, rfl, _⟩ := open_int Try.underlying3 (hval 2 3 v2 rfl rfl) h2
  obtain ⟨A1, n1, c1, E0, rfl, hk1, hm1, hr1⟩ := open_edges (hval 1 22 v1 rfl rfl) h1 (fun x hx => hlt x (by simp [hx]))
  obtain ⟨n, rfl, rfl, rfl, _⟩ := open_int Try.underlying3 (hval 0 3 v0 rfl rfl) h0
  refine (walk n A1 n1 c1 E0 x W hr1).mono fun e W' ⟨he, hg⟩ => ?_
  subst he
  exact ⟨_, rfl, post_law laidOut rfl (by kernel_rfl) hW' hg rfl Try.underlying4 rfl rfl rfl⟩

theorem proved : Rows.GraphPlaysSaid :=
  OpenClaim.holds_of_wide 3 Try.f3 rfl rfl rfl rfl rfl rfl rfl ⟨rfl, rfl, rfl, rfl, rfl⟩ rfl rfl rfl rfl rfl (by kernel_rfl) Try.func3 (by kernel_rfl)
    (of_decide_eq_true (by kernel_rfl)) (by unfold Func.isWrapper; first | (rw [if_pos (by decide +kernel)]; kernel_rfl) | (rw [if_neg (by decide +kernel)]; exact ⟨rfl, rfl⟩))
    (fun os started H enc _ => lifted os started H enc)
#print axioms proved
end Go.Proofs.Ytbfagejdpbagjaa.graphPlays
