/- Layer 2 (sha), the reference: a block taken into words. -/
import Derived.Test.YtgkfebbifgkkeaaDoorShaR
set_option linter.unusedVariables false
set_option linter.unusedSimpArgs false
namespace Go.Proofs.YtgkfebbifgkkeaaDoor
open Go Go.RowKit
attribute [local go_sem] wXor wAnd wOr wAdd wAdd' wSr3 wSr10 wNot wNot'

set_option maxRecDepth 100000 in
theorem rConstants_any (w : World) :
    Calls Tryd.prog 34 #[] w fun e w' => e = .returned (.slice (some ⟨w.heap.size, 0, none⟩) 64 64) ∧ Bk w' w.heap.size 53 (kL.map uv) ∧ Below w.heap.size w w' ∧ w'.heap.size = w.heap.size + 1 := by
  go_enter Tryd.func34, Tryd.ntmps34
  go_wp2
  go_ret
  exact ⟨rfl, (heap_alloc_new w _).trans (by kernel_rfl), (Below.refl _ _).alloc (Nat.le_refl _) _, by simp⟩

def W8.cells (s : W8) : List Value := [.int .u32 (ui s.a), .int .u32 (ui s.b), .int .u32 (ui s.c), .int .u32 (ui s.d), .int .u32 (ui s.e), .int .u32 (ui s.f), .int .u32 (ui s.g), .int .u32 (ui s.h)]

/-- The first i of them more by those of v. -/
def W8.mixed (s v : W8) (i : Nat) : List Value := (s.plus v).cells.take i ++ s.cells.drop i
theorem mixed_get (s v : W8) (i : Nat) (hi : i < 8) : (s.mixed v i)[i]? = some (.int .u32 (ui (s.list.getD i 0))) := by
  have ci : i = 0 ∨ i = 1 ∨ i = 2 ∨ i = 3 ∨ i = 4 ∨ i = 5 ∨ i = 6 ∨ i = 7 := by omega
  rcases ci with rfl | rfl | rfl | rfl | rfl | rfl | rfl | rfl <;> rfl
theorem cells_get (v : W8) (i : Nat) (hi : i < 8) : v.cells[i]? = some (.int .u32 (ui (v.list.getD i 0))) := by
  have ci : i = 0 ∨ i = 1 ∨ i = 2 ∨ i = 3 ∨ i = 4 ∨ i = 5 ∨ i = 6 ∨ i = 7 := by omega
  rcases ci with rfl | rfl | rfl | rfl | rfl | rfl | rfl | rfl <;> rfl
theorem mixed_set (s v : W8) (i : Nat) (hi : i < 8) : (s.mixed v i).set i (.int .u32 (ui (s.list.getD i 0 + v.list.getD i 0))) = s.mixed v (i + 1) := by
  have ci : i = 0 ∨ i = 1 ∨ i = 2 ∨ i = 3 ∨ i = 4 ∨ i = 5 ∨ i = 6 ∨ i = 7 := by omega
  rcases ci with rfl | rfl | rfl | rfl | rfl | rfl | rfl | rfl <;> rfl

set_option maxRecDepth 100000 in
set_option maxHeartbeats 2000000 in
theorem rTake_any (s : W8) (A : Option Addr) (c : Nat) (bs : List UInt8) (w : World) (hr : Rd w w.heap.size 1 A 64 (bs.map bv)) :
    Calls Tryd.prog 26 #[s.val, .slice A 64 c] w fun e w' => e = .returned (takeB s bs).val ∧ Below w.heap.size w w' := by
  obtain ⟨a, b, cc, d, e, f, g, h⟩ := s
  have HR := Lib.hid hr
  clear hr
  unfold W8.val uv
  go_enter Tryd.func26, Tryd.ntmps26
  go_wp2_with fail
  obtain ⟨W0, hW0, hb0, hb1, hs0, hbw⟩ : ∃ W0, W0 = (w.alloc (.cells #[.int .u32 (ui a), .int .u32 (ui b), .int .u32 (ui cc), .int .u32 (ui d), .int .u32 (ui e), .int .u32 (ui f), .int .u32 (ui g), .int .u32 (ui h)] 54)).alloc
      (.cells #[.int .u32 0, .int .u32 0, .int .u32 0, .int .u32 0, .int .u32 0, .int .u32 0, .int .u32 0, .int .u32 0] 54) ∧ Bk W0 w.heap.size 54 (W8.cells ⟨a, b, cc, d, e, f, g, h⟩) ∧
      Bk W0 (w.heap.size + 1) 54 (zU 8) ∧ W0.heap.size = w.heap.size + 2 ∧ Below w.heap.size w W0 :=
    ⟨_, rfl, (Bk.new w _ _).alloc _, Bk.newAt _ (zU 8) (by simp), by simp, ((Below.refl _ _).alloc (Nat.le_refl _) _).alloc (by simp) _⟩
  rw [← hW0]
  clear hW0
  refine (rWords_any A c bs W0 ((HR.out.below hbw).more (by omega))).mono ?_
  rintro e0 W1 ⟨Aw, cw, rfl, how, hbW⟩
  have hb01 := hb0.later hbW
  have hb11 := hb1.later hbW
  have hbw1 := hbw.trans (hbW.mono hbw.size)
  have hsz1 : w.heap.size + 2 ≤ W1.heap.size := by have := hbW.size; omega
  clear hb0 hb1 hbw hbW hs0
  go_wp2_with fail
  refine (rConstants_any W1).mono ?_
  rintro e0 W2 ⟨rfl, hkk, hbK, hsz2⟩
  have hb02 := hb01.later hbK
  have hb12 := hb11.later hbK
  have hbw2 := hbw1.trans (hbK.mono hbw1.size)
  have how2 : Rd W2 W1.heap.size 1 Aw 64 ((spreadL bs).map uv) := how.rd.below hbK
  have HS2 := Lib.hid hsz2
  clear hb01 hb11 hbw1 hbK how hsz2
  have cells0 : W2.heap[w.heap.size]? = some (.cells (W8.cells ⟨a, b, cc, d, e, f, g, h⟩).toArray 54 (0, 0)) := hb02
  go_wp2_with (first
    | (refine wpList_load_row (P := Tryd.prog) rfl 54 _ rfl w.heap.size rfl _ _ _ _ cells0 Tryd.underlying54 rfl (by kernel_rfl) ?_)
    | (refine wpList_store_new rfl 54 _ _ rfl W2 _ (W8.cells ⟨a, b, cc, d, e, f, g, h⟩).toArray rfl rfl (by kernel_rfl) (by rfl) (by simp [W8.cells, Value.oneCell']) ?_))
  clear cells0
  obtain ⟨W3, hW3, hv3, hb3⟩ : ∃ W3, W3 = W2.alloc (.cells (W8.cells ⟨a, b, cc, d, e, f, g, h⟩).toArray 54) ∧ Bk W3 W2.heap.size 54 (W8.cells ⟨a, b, cc, d, e, f, g, h⟩) ∧ Below W2.heap.size W2 W3 :=
    ⟨_, rfl, Bk.new _ _ _, (Below.refl _ _).alloc (Nat.le_refl _) _⟩
  rw [← hW3]
  clear hW3
  have HB0 := Lib.hid (hb02.later hb3)
  have HB1 := Lib.hid (hb12.later hb3)
  have HBW := Lib.hid (hbw2.trans (hb3.mono hbw2.size))
  have HK := Lib.hid (fun (j : Nat) (hj : j < 64) => (show W3.cell? ⟨W1.heap.size, j, none⟩ = some (.int .u32 (ui (kL.getD j 0))) by
    rw [(hkk.later hb3).cell, List.getElem?_map, List.getD, List.getElem?_eq_getElem (by rw [kL_len]; exact hj)]
    rfl))
  obtain ⟨bw, ow, hA, hbwl, hwc⟩ := (how2.below (hb3.mono (by have := HS2.out; omega))).2 (by omega)
  subst hA
  have HWC := Lib.hid (fun (j : Nat) (hj : j < 64) => (show W3.cell? ⟨bw, ow + j, none⟩ = some (.int .u32 (ui ((spreadL bs).getD j 0))) from hwc j (uv ((spreadL bs).getD j 0)) (by
    rw [List.getElem?_map, List.getD, List.getElem?_eq_getElem (by rw [spreadL_len]; exact hj)]
    rfl)))
  have hlt3 : W2.heap.size < W3.heap.size := hv3.lt
  clear hwc how2 hkk hb02 hb12 hbw2 hb3
  go_loopw [8] (fun p wr => ∃ (i : Nat) (v : W8), i ≤ 64 ∧ p = .int .i64 (i : Int) ∧ v = rnds (spreadL bs) ⟨a, b, cc, d, e, f, g, h⟩ i ∧ Bk wr W2.heap.size 54 v.cells ∧ Below W2.heap.size W3 wr)
    (fun p _ => 64 - (intOf p).toNat)
  case atStart => exact ⟨0, _, by omega, rfl, rfl, hv3, Below.refl _ _⟩
  case round =>
    clear hv3
    obtain ⟨i, ⟨va, vb, vc, vd, ve, vf, vg, vh⟩, hi, rfl, hvv, hv, hbb⟩ := hrel
    have HV := Lib.hid hvv
    clear hvv
    have hW12 : W1.heap.size < W2.heap.size := by have := HS2.out; omega
    by_cases hlt : i < 64
    · have hci : (i : Int) < 64 := by omega
      have c0 := hv.cell 0
      have c1 := hv.cell 1
      have c2 := hv.cell 2
      have c3 := hv.cell 3
      have c4 := hv.cell 4
      have c5 := hv.cell 5
      have c6 := hv.cell 6
      have c7 := hv.cell 7
      simp only [W8.cells, List.getElem?_cons_succ, List.getElem?_cons_zero] at c0 c1 c2 c3 c4 c5 c6 c7
      have ck := (hbb.cell (p := ⟨W1.heap.size, i, none⟩) hW12).trans (HK.out i hlt)
      have cw := (hbb.cell (p := ⟨bw, ow + i, none⟩) (by show bw < _; omega)).trans (HWC.out i hlt)
      have HR := Lib.hid (show rnds (spreadL bs) ⟨a, b, cc, d, e, f, g, h⟩ (i + 1) = rnd (rnds (spreadL bs) ⟨a, b, cc, d, e, f, g, h⟩ i) (kL.getD i 0) ((spreadL bs).getD i 0) from rfl)
      rw [← HV.out] at HR
      generalize kL.getD i 0 = kk at *
      generalize (spreadL bs).getD i 0 = ww at *
      go_wp2
      go_quiet (fail)
      have hvq := hv.drewN nq
      have hbq := belowDrewN hbb nq
      have ckq : (wr.drewN nq).cell? ⟨W1.heap.size, i, none⟩ = some (.int .u32 (ui kk)) := ck
      have cwq : (wr.drewN nq).cell? ⟨bw, ow + i, none⟩ = some (.int .u32 (ui ww)) := cw
      have c3q : (wr.drewN nq).cell? ⟨W2.heap.size, 3, none⟩ = some (.int .u32 (ui vd)) := c3
      have c7q : (wr.drewN nq).cell? ⟨W2.heap.size, 7, none⟩ = some (.int .u32 (ui vh)) := c7
      clear hv hbb ck cw c0 c1 c2 c3 c4 c5 c6 c7
      generalize wr.drewN nq = W4 at *
      go_wp2
      go_quiet ((go_at_call 35; exact Calls.quiet_of_same (rRotQ _ _ _ (by decide) (by decide))))
      have hvr := hvq.drewN nq
      have hbr := belowDrewN hbq nq
      have c3r : (W4.drewN nq).cell? ⟨W2.heap.size, 3, none⟩ = some (.int .u32 (ui vd)) := c3q
      clear hvq hbq ckq cwq c3q c7q
      generalize W4.drewN nq = W5 at *
      go_wp2_with (first
        | (go_at_call 35; refine (rRot_any _ _ _ (by decide) (by decide)).mono ?_; rintro e w' ⟨rfl, rfl⟩)
        | (refine wpList_store_row (P := Tryd.prog) rfl 54 (.tmp 7) (.tmp 101) rfl W2.heap.size (rnd ⟨va, vb, vc, vd, ve, vf, vg, vh⟩ kk ww).cells.toArray rfl (by rfl) _ _ hvr (by kernel_rfl) (by rfl) (by simp [W8.cells, Value.oneCell']) ?_))
      go_roundw
      case rel => exact ⟨i + 1, rnd ⟨va, vb, vc, vd, ve, vf, vg, vh⟩ kk ww, by omega, by go_num, HR.out.symm, hvr.setRow_same _, below_setRow hbr (Nat.le_refl _) _⟩
      case measure => simp [intOf]; omega
    · obtain rfl : i = 64 := by omega
      clear hlt hi
      rw [show ((64 : Nat) : Int) = 64 from rfl]
      have hB0 := HB0.out.below hbb (by have := HS2.out; omega)
      have hB1 := HB1.out.below hbb (by have := HS2.out; omega)
      have hBW := HBW.out.trans (hbb.mono (by have := HS2.out; omega))
      have HPL := Lib.hid (show takeB ⟨a, b, cc, d, e, f, g, h⟩ bs = W8.plus ⟨a, b, cc, d, e, f, g, h⟩ ⟨va, vb, vc, vd, ve, vf, vg, vh⟩ from by rw [HV.out]; rfl)
      generalize hvv : (⟨va, vb, vc, vd, ve, vf, vg, vh⟩ : W8) = v at *
      generalize hss : (⟨a, b, cc, d, e, f, g, h⟩ : W8) = s at *
      have HSS := Lib.hid hss
      clear hvv hss HB0 HB1 HBW HK HWC HV
      go_wp2
      obtain ⟨wo, hwo⟩ : ∃ wo : World, wo = wr := ⟨_, rfl⟩
      clear hwo
      go_loopw [17] (fun p wr => ∃ i : Nat, i ≤ 8 ∧ p = .int .i64 (i : Int) ∧ Bk wr w.heap.size 54 (s.mixed v i) ∧ Bk wr (w.heap.size + 1) 54 (zU 8) ∧ Bk wr W2.heap.size 54 v.cells ∧ Below w.heap.size w wr)
        (fun p _ => 8 - (intOf p).toNat)
      case atStart => exact ⟨0, by omega, rfl, hB0, hB1, hv, hBW⟩
      case round =>
        clear hB0 hB1 hv hBW hbb
        obtain ⟨i, hi, rfl, hB0, hB1, hv, hBW⟩ := hrel
        by_cases hlt : i < 8
        · have hci : (i : Int) < 8 := by omega
          have ch := hB0.cell i
          rw [mixed_get s v i hlt] at ch
          have cv := hv.cell i
          rw [cells_get v i hlt] at cv
          have fh := hB0.frozen i
          have HB := Lib.hid (hB0.drew.set_ i (.int .u32 (ui (s.list.getD i 0 + v.list.getD i 0))))
          rw [mixed_set s v i hlt] at HB
          have HB1 := Lib.hid (hB1.drew.far (p := ⟨w.heap.size, i, none⟩) (by simp) (.int .u32 (ui (s.list.getD i 0 + v.list.getD i 0))))
          have HB2 := Lib.hid (hv.drew.far (p := ⟨w.heap.size, i, none⟩) (by have := HS2.out; simp; omega) (.int .u32 (ui (s.list.getD i 0 + v.list.getD i 0))))
          have HBW := Lib.hid (hBW.drew.setCell (p := ⟨w.heap.size, i, none⟩) (Nat.le_refl _) (.int .u32 (ui (s.list.getD i 0 + v.list.getD i 0))))
          generalize s.list.getD i 0 = x at *
          generalize v.list.getD i 0 = y at *
          clear hB0 hB1 hv hBW
          go_wp2
          go_still_tail 9, (by kernel_rfl)
          have fh' : wr.drew.frozen? ⟨w.heap.size, i, none⟩ = false := fh
          have ch' : wr.drew.cell? ⟨w.heap.size, i, none⟩ = some (.int .u32 (ui x)) := ch
          clear ch fh cv
          show wpList _ _ _ _ _ wr.drew
          go_wp2
          go_roundw
          case rel => exact ⟨i + 1, by omega, by go_num, HB.out, HB1.out, HB2.out, HBW.out⟩
          case measure => simp [intOf]; omega
        · obtain rfl : i = 8 := by omega
          clear hlt hi
          have cells0 : wr.heap[w.heap.size]? = some (.cells (s.plus v).cells.toArray 54 (0, 0)) := hB0
          go_wp2_with (first
            | (refine wpList_load_row (P := Tryd.prog) rfl 54 _ rfl w.heap.size rfl _ _ _ _ cells0 Tryd.underlying54 rfl (by kernel_rfl) ?_)
            | (refine wpList_store_row (P := Tryd.prog) rfl 54 _ _ rfl (w.heap.size + 1) (s.plus v).cells.toArray rfl rfl _ _ hB1 (by kernel_rfl) (by rfl) (by simp [W8.cells, Value.oneCell']) ?_))
          refine bodyPost_ret (v := (W8.plus s v).val) (results_cell_row rfl _ _ (w.heap.size + 1) _ _ _ _ rfl (setRow_heap wr (w.heap.size + 1) _ _ _ _ hB1) Tryd.underlying54 rfl (by kernel_rfl)) rfl ⟨?_, below_setRow hBW (by omega) _⟩
          rw [HSS.out, HPL.out]
          rfl
end Go.Proofs.YtgkfebbifgkkeaaDoor
