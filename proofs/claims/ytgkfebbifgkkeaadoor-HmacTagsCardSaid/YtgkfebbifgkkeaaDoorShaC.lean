/- Layer 2 (sha): a block taken into words, by the code. -/
import Derived.Test.YtgkfebbifgkkeaaDoorShaB
import Derived.Deep.MidRow
set_option linter.unusedVariables false
namespace Go.Proofs.YtgkfebbifgkkeaaDoor
open Go Go.RowKit
attribute [local go_sem] wXor wAnd wOr wAdd wAdd' wSr3 wSr10 wNot wNot'

theorem Bk.setRow_far {w : World} {g k : Nat} {t : TypeId} {cs : List Value} (h : Bk w g t cs) (hne : g ≠ k) (l : Array Value) : Bk (w.setRow k l) g t cs := (setRow_other w k g l hne).trans h
theorem Bk.setRow_same {w : World} {g : Nat} {t : TypeId} {cs : List Value} (h : Bk w g t cs) (l : List Value) : Bk (w.setRow g l.toArray) g t l := setRow_heap w g _ _ _ _ h
theorem Bk.drewN {w : World} {g : Nat} {t : TypeId} {cs : List Value} (h : Bk w g t cs) (n : Nat) : Bk (w.drewN n) g t cs := h
theorem belowDrewN {B : Nat} {a w : World} (h : Below B a w) (n : Nat) : Below B a (w.drewN n) := ⟨h.os, h.tape, h.output, h.size, h.block⟩
theorem rotQ (x : UInt32) (k : Int) (w : World) (h0 : 0 < k) (h1 : k < 32) :
    Calls Tryd.prog 40 #[.int .u32 (ui x), .int .i64 k] w fun e w' => e = .returned (.int .u32 (ui (rr x k.toNat))) ∧ w' = w :=
  (rot_any x k w h0 h1).mono fun _ _ ⟨he, hw⟩ => ⟨he, hw.symm⟩
def W8.val (s : W8) : Value := .agg #[uv s.a, uv s.b, uv s.c, uv s.d, uv s.e, uv s.f, uv s.g, uv s.h]

/-- The two tables lie in memory. -/
def Tab (w : World) : Prop := w.rangeAt 0 0 (firstW.list.map uv) ∧ w.rangeAt 1 0 (kL.map uv)
theorem Tab.k {w : World} (h : Tab w) (i : Nat) (hi : i < 64) : w.cell? ⟨1, i, none⟩ = some (.int .u32 (ui (kL.getD i 0))) := by
  have := h.2 i (uv (kL.getD i 0)) (by rw [List.getElem?_map, List.getD, List.getElem?_eq_getElem (by rw [kL_len]; exact hi)]; rfl)
  rw [Nat.zero_add] at this
  exact this
theorem Tab.lt {w : World} (h : Tab w) : 1 < w.heap.size := block_lt_of_cell (h.k 0 (by omega))
theorem Tab.lt0 {w : World} (h : Tab w) : 0 < w.heap.size := by
  have := block_lt_of_cell (h.1 0 (uv firstW.a) rfl)
  exact this
theorem Tab.below {w w' : World} (h : Tab w) (hb : Below w.heap.size w w') : Tab w' := by
  have hl := h.lt
  have hl0 := h.lt0
  refine ⟨fun j v hv => ?_, fun j v hv => ?_⟩
  · rw [hb.cell (by show 0 < _; omega)]
    exact h.1 j v hv
  · rw [hb.cell (by show 1 < _; omega)]
    exact h.2 j v hv

set_option maxRecDepth 100000 in
set_option maxHeartbeats 1000000 in
theorem take_any (s : W8) (bs : List UInt8) (w : World) (hl : bs.length = 64) (ht : Tab w) :
    Calls Tryd.prog 36 #[s.val, .agg (bs.map bv).toArray] w fun e w' => e = .returned (takeB s bs).val ∧ Below w.heap.size w w' := by
  obtain ⟨a, b, c, d, e, f, g, h⟩ := s
  have HL := Lib.hid hl
  have HT := Lib.hid ht
  clear hl ht
  unfold W8.val uv
  go_enter Tryd.func36, Tryd.ntmps36
  go_wp2
  obtain ⟨W0, hW0, hb0, hb1, hb2, hs0, hbw⟩ : ∃ W0, W0 = (((w.alloc (.cells #[.int .u32 (ui a), .int .u32 (ui b), .int .u32 (ui c), .int .u32 (ui d), .int .u32 (ui e), .int .u32 (ui f), .int .u32 (ui g), .int .u32 (ui h)] 71)).alloc (.cells (bs.map bv).toArray 45)).alloc
      (.cells #[.int .u32 0, .int .u32 0, .int .u32 0, .int .u32 0, .int .u32 0, .int .u32 0, .int .u32 0, .int .u32 0] 71)) ∧ Bk W0 w.heap.size 71 [.int .u32 (ui a), .int .u32 (ui b), .int .u32 (ui c), .int .u32 (ui d), .int .u32 (ui e), .int .u32 (ui f), .int .u32 (ui g), .int .u32 (ui h)] ∧
      Bk W0 (w.heap.size + 1) 45 (bs.map bv) ∧ Bk W0 (w.heap.size + 1 + 1) 71 (zU 8) ∧ W0.heap.size = w.heap.size + 3 ∧ Below w.heap.size w W0 :=
    ⟨_, rfl, ((Bk.new w _ _).alloc _).alloc _, (Bk.newAt _ (bs.map bv) (by simp)).alloc _, Bk.newAt _ (zU 8) (by simp), by simp, (((Below.refl _ _).alloc (Nat.le_refl _) _).alloc (by simp) _).alloc (by simp; omega) _⟩
  rw [← hW0]
  clear hW0
  have c0 := hb0.cell 0
  have c1 := hb0.cell 1
  have c2 := hb0.cell 2
  have c3 := hb0.cell 3
  have c4 := hb0.cell 4
  have c5 := hb0.cell 5
  have c6 := hb0.cell 6
  have c7 := hb0.cell 7
  simp only [List.getElem?_cons_succ, List.getElem?_cons_zero] at c0 c1 c2 c3 c4 c5 c6 c7
  go_quiet (fail)
  have hb0' : Bk (W0.drewN nq) w.heap.size _ _ := hb0
  have hb1' : Bk (W0.drewN nq) (w.heap.size + 1) _ _ := hb1
  have hb2' : Bk (W0.drewN nq) (w.heap.size + 1 + 1) _ _ := hb2
  have hbw' : Below w.heap.size w (W0.drewN nq) := ⟨hbw.os, hbw.tape, hbw.output, hbw.size, hbw.block⟩
  have hs0' : (W0.drewN nq).heap.size = w.heap.size + 3 := hs0
  clear hb0 hb1 hb2 hbw hs0 c0 c1 c2 c3 c4 c5 c6 c7
  generalize W0.drewN nq = W1 at *
  have HS := Lib.hid hs0'
  clear hs0'
  have hsz64 : (Tryd.prog.info? 45).map (·.size) = some (bs.map bv).toArray.size := by
    rw [List.size_toArray, List.length_map, HL.out]
    kernel_rfl
  have hsz32 : (Tryd.prog.info? 86).map (·.size) = some ((spreadL bs).map uv).toArray.size := by
    rw [List.size_toArray, List.length_map, spreadL_len]
    kernel_rfl
  go_wp2_with (first
    | (refine wpList_load_row (P := Tryd.prog) rfl 45 _ rfl (w.heap.size + 1) rfl _ _ _ _ hb1' Tryd.underlying45 rfl hsz64 ?_)
    | (go_at_call 39; refine (spread_any bs _ HL.out).mono ?_; rintro e W2 ⟨rfl, hbS⟩)
    | (refine wpList_store_row (P := Tryd.prog) rfl 86 _ _ rfl W2.heap.size _ rfl rfl _ _ (heap_alloc_new W2 _) hsz32 (by simp [spreadL_len]) (by simp [uv, Value.oneCell']) ?_))
  have q0 := (hb0'.later hbS).alloc (.cells (zU 64).toArray 86)
  have q2 := (hb2'.later hbS).alloc (.cells (zU 64).toArray 86)
  have hW2 : w.heap.size + 3 ≤ W2.heap.size := by have := hbS.size; have := HS.out; omega
  have q3 := (Bk.newAt (w := W2) 86 (zU 64) rfl).setRow_same ((spreadL bs).map uv)
  have r0 := q0.setRow_far (k := W2.heap.size) (by omega) ((spreadL bs).map uv).toArray
  have r2 := q2.setRow_far (k := W2.heap.size) (by omega) ((spreadL bs).map uv).toArray
  have rb := below_setRow ((hbw'.trans (hbS.mono (by have := HS.out; omega))).alloc (by omega) (.cells (zU 64).toArray 86)) (g := W2.heap.size) (by omega) ((spreadL bs).map uv).toArray
  clear q0 q2 hb0' hb1' hb2' hbw'
  go_loopw [5, 6, 7, 8, 9, 10, 11, 12, 35] (fun p5 p6 p7 p8 p9 p10 p11 p12 p wr => ∃ (i : Nat) (v : W8), i ≤ 64 ∧ p = .int .i64 (i : Int) ∧ p5 = .int .u32 (ui v.a) ∧ p6 = .int .u32 (ui v.b) ∧ p7 = .int .u32 (ui v.c) ∧ p8 = .int .u32 (ui v.d) ∧ p9 = .int .u32 (ui v.e) ∧ p10 = .int .u32 (ui v.f) ∧ p11 = .int .u32 (ui v.g) ∧ p12 = .int .u32 (ui v.h) ∧
      v = rnds (spreadL bs) ⟨a, b, c, d, e, f, g, h⟩ i ∧ Bk wr w.heap.size 71 [.int .u32 (ui a), .int .u32 (ui b), .int .u32 (ui c), .int .u32 (ui d), .int .u32 (ui e), .int .u32 (ui f), .int .u32 (ui g), .int .u32 (ui h)] ∧
      Bk wr (w.heap.size + 1 + 1) 71 (zU 8) ∧ Bk wr W2.heap.size 86 ((spreadL bs).map uv) ∧ Below w.heap.size w wr) (fun p5 p6 p7 p8 p9 p10 p11 p12 p _ => 64 - (intOf p).toNat)
  case atStart => exact ⟨0, ⟨a, b, c, d, e, f, g, h⟩, by omega, rfl, rfl, rfl, rfl, rfl, rfl, rfl, rfl, rfl, rfl, r0, r2, q3, rb⟩
  case round =>
    clear r0 r2 q3 rb hbS
    obtain ⟨i, ⟨va, vb, vc, vd, ve, vf, vg, vh⟩, hi, rfl, rfl, rfl, rfl, rfl, rfl, rfl, rfl, rfl, hv, r0, r2, q3, rb⟩ := hrel
    have HV := Lib.hid hv
    clear hv
    by_cases hlt : i < 64
    · have hci : (i : Int) < 64 := by omega
      have ck := (HT.out.below rb).k i hlt
      have cw : wr.cell? ⟨W2.heap.size, i, none⟩ = some (.int .u32 (ui ((spreadL bs).getD i 0))) := by
        rw [q3.cell, List.getElem?_map, List.getD, List.getElem?_eq_getElem (by rw [spreadL_len]; exact hlt)]
        rfl
      have HR := Lib.hid (show rnds (spreadL bs) ⟨a, b, c, d, e, f, g, h⟩ (i + 1) = rnd (rnds (spreadL bs) ⟨a, b, c, d, e, f, g, h⟩ i) (kL.getD i 0) ((spreadL bs).getD i 0) from rfl)
      rw [← HV.out] at HR
      generalize kL.getD i 0 = kk at *
      generalize (spreadL bs).getD i 0 = ww at *
      go_wp2
      go_quiet ((go_at_call 40; exact Calls.quiet_of_same (rotQ _ _ _ (by decide) (by decide))))
      have r0' := r0.drewN nq
      have r2' := r2.drewN nq
      have q3' := q3.drewN nq
      have rb' := belowDrewN rb nq
      clear r0 r2 q3 rb ck cw
      generalize wr.drewN nq = W4 at *
      go_wp2_with (go_at_call 40; refine (rot_any _ _ _ (by decide) (by decide)).mono ?_; rintro e w' ⟨rfl, rfl⟩)
      go_roundw
      case rel => exact ⟨i + 1, rnd ⟨va, vb, vc, vd, ve, vf, vg, vh⟩ kk ww, by omega, by go_num, rfl, rfl, rfl, rfl, rfl, rfl, rfl, rfl, HR.out.symm, r0', r2', q3', rb'⟩
      case measure => simp [intOf]; omega
    · obtain rfl : i = 64 := by omega
      clear hlt hi
      have HX := Lib.hid (show takeB ⟨a, b, c, d, e, f, g, h⟩ bs = W8.plus ⟨a, b, c, d, e, f, g, h⟩ ⟨va, vb, vc, vd, ve, vf, vg, vh⟩ from by rw [HV.out]; rfl)
      have c0 := r0.cell 0
      have c1 := r0.cell 1
      have c2 := r0.cell 2
      have c3 := r0.cell 3
      have c4 := r0.cell 4
      have c5 := r0.cell 5
      have c6 := r0.cell 6
      have c7 := r0.cell 7
      simp only [List.getElem?_cons_succ, List.getElem?_cons_zero] at c0 c1 c2 c3 c4 c5 c6 c7
      go_wp2_with (refine wpList_store_row (P := Tryd.prog) rfl 71 _ _ rfl (w.heap.size + 1 + 1) _ rfl rfl _ _ r2 (by kernel_rfl) (by simp [zU]) (by simp [Value.oneCell']) ?_)
      refine bodyPost_ret (v := (W8.plus ⟨a, b, c, d, e, f, g, h⟩ ⟨va, vb, vc, vd, ve, vf, vg, vh⟩).val) (results_cell_row rfl _ _ (w.heap.size + 1 + 1) _ _ _ _ rfl (setRow_heap wr (w.heap.size + 1 + 1) _ _ _ _ r2) Tryd.underlying71 rfl (by kernel_rfl)) rfl ⟨?_, below_setRow rb (by omega) _⟩
      rw [HX.out]
      rfl
end Go.Proofs.YtgkfebbifgkkeaaDoor
