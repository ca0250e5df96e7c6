/- Layer 11 (safe), the laws: how terms, atoms, literals and clauses are written out. -/
import Derived.Test.YtggnhgfickkgdaaSaQ
set_option linter.unusedVariables false
set_option linter.unusedSimpArgs false
namespace Go.Proofs.Ytggnhgfickkgdaa
open Go Go.RowKit

set_option maxRecDepth 100000 in
set_option maxHeartbeats 1000000 in
theorem lV_any (x : Int) (w : World) : Calls Try.prog 15 #[.int .u32 x] w fun e w' => e = .returned (.agg #[.bool true, .int .u32 x]) ∧ Below w.heap.size w w' := by
  have hbw : Below w.heap.size w (w.alloc (.cells #[.bool true, .int .u32 x] 48)) := (Below.refl _ _).alloc (Nat.le_refl _) _
  go_enter Try.func15, Try.ntmps15
  repeat (first | go_skip | go_guarded | go_step)
  refine bodyPost_ret (v := .agg #[.bool true, .int .u32 x]) (results_cell_row rfl _ _ w.heap.size _ _ _ _ rfl (heap_alloc_new w _) Try.underlying48 rfl (by kernel_rfl)) rfl ⟨rfl, hbw⟩
set_option maxRecDepth 100000 in
set_option maxHeartbeats 1000000 in
theorem lS_any (x : Int) (w : World) : Calls Try.prog 18 #[.int .u32 x] w fun e w' => e = .returned (.agg #[.bool false, .int .u32 x]) ∧ Below w.heap.size w w' := by
  have hbw : Below w.heap.size w (w.alloc (.cells #[.bool false, .int .u32 x] 48)) := (Below.refl _ _).alloc (Nat.le_refl _) _
  go_enter Try.func18, Try.ntmps18
  repeat (first | go_skip | go_guarded | go_step)
  refine bodyPost_ret (v := .agg #[.bool false, .int .u32 x]) (results_cell_row rfl _ _ w.heap.size _ _ _ _ rfl (heap_alloc_new w _) Try.underlying48 rfl (by kernel_rfl)) rfl ⟨rfl, hbw⟩
set_option maxRecDepth 100000 in
set_option maxHeartbeats 1000000 in
theorem lA_any (p : Int) (A : Option Addr) (n c : Nat) (w : World) : Calls Try.prog 14 #[.int .u32 p, .slice A n c] w fun e w' => e = .returned (.agg #[.int .u32 p, .slice A n c]) ∧ Below w.heap.size w w' := by
  have hbw : Below w.heap.size w (w.alloc (.cells #[.int .u32 p, .slice A n c] 33)) := (Below.refl _ _).alloc (Nat.le_refl _) _
  go_enter Try.func14, Try.ntmps14
  repeat (first | go_skip | go_guarded | go_step)
  refine bodyPost_ret (v := .agg #[.int .u32 p, .slice A n c]) (results_cell_row rfl _ _ w.heap.size _ _ _ _ rfl (heap_alloc_new w _) Try.underlying33 rfl (by kernel_rfl)) rfl ⟨rfl, hbw⟩
set_option maxRecDepth 100000 in
set_option maxHeartbeats 1000000 in
theorem lIf_any (p : Int) (A : Option Addr) (n c : Nat) (A1 : Option Addr) (n1 c1 : Nat) (w : World) : Calls Try.prog 13 #[.agg #[.int .u32 p, .slice A n c], .slice A1 n1 c1] w fun e w' => e = .returned (.agg #[.int .u32 p, .slice A n c, .slice A1 n1 c1]) ∧ Below w.heap.size w w' := by
  have hbw : Below w.heap.size w ((w.alloc (.cells #[.int .u32 p, .slice A n c] 33)).alloc (.cells #[.int .u32 p, .slice A n c, .slice A1 n1 c1] 36)) := below2 _ _ _
  have hk := Bk.second w (.cells #[.int .u32 p, .slice A n c] 33) 36 [.int .u32 p, .slice A n c, .slice A1 n1 c1]
  have HK := Lib.hid hk
  clear hk
  go_enter Try.func13, Try.ntmps13
  repeat (first | go_skip | go_guarded | go_step)
  refine bodyPost_ret (v := .agg #[.int .u32 p, .slice A n c, .slice A1 n1 c1]) (results_cell_row rfl _ _ (w.heap.size + 1) _ _ _ _ rfl HK.out Try.underlying36 rfl (by kernel_rfl)) rfl ⟨rfl, hbw⟩
set_option maxRecDepth 100000 in
set_option maxHeartbeats 1000000 in
theorem lYes_any (p : Int) (A : Option Addr) (n c : Nat) (w : World) : Calls Try.prog 16 #[.int .u32 p, .slice A n c] w fun e w' => e = .returned (.agg #[.bool false, .int .u32 p, .slice A n c]) ∧ Below w.heap.size w w' := by
  have hb0 : Below w.heap.size w (w.alloc (.cells #[.bool false, .int .u32 0, .slice none 0 0] 38)) := (Below.refl _ _).alloc (Nat.le_refl _) _
  have hk0 := Bk.new w 38 [.bool false, .int .u32 0, .slice none 0 0]
  have HB0 := Lib.hid hb0
  have HK0 := Lib.hid hk0
  clear hb0 hk0
  go_enter Try.func16, Try.ntmps16
  repeat (first | go_skip | go_guarded | go_step)
  refine (lA_any p A n c _).mono ?_
  rintro e w2 ⟨rfl, hb2⟩
  have hbk := HK0.out.later hb2
  have HBK := Lib.hid hbk
  have HB2 := Lib.hid (HB0.out.trans (hb2.mono HB0.out.size))
  have q0 := hbk.read (Below.refl _ _) 0 rfl
  have q1 := hbk.read (Below.refl _ _) 1 rfl
  have q2 := hbk.read (Below.refl _ _) 2 rfl
  have f0 := hbk.frozen 0
  have f1 := hbk.frozen 1
  have f2 := hbk.frozen 2
  clear hb2 hbk
  dsimp only
  repeat (first | go_skip | go_guarded | go_step)
  have hz : Bk (((w2.setCell ⟨w.heap.size, 0, none⟩ (.bool false)).setCell ⟨w.heap.size, 1, none⟩ (.int .u32 p)).setCell ⟨w.heap.size, 2, none⟩ (.slice A n c)) w.heap.size 38 [.bool false, .int .u32 p, .slice A n c] := ((HBK.out.set_ 0 (.bool false)).set_ 1 (.int .u32 p)).set_ 2 (.slice A n c)
  have hb : Below w.heap.size w (((w2.setCell ⟨w.heap.size, 0, none⟩ (.bool false)).setCell ⟨w.heap.size, 1, none⟩ (.int .u32 p)).setCell ⟨w.heap.size, 2, none⟩ (.slice A n c)) := ((HB2.out.setCell (p := ⟨w.heap.size, 0, none⟩) (Nat.le_refl _) _).setCell (p := ⟨w.heap.size, 1, none⟩) (Nat.le_refl _) _).setCell (p := ⟨w.heap.size, 2, none⟩) (Nat.le_refl _) _
  refine bodyPost_ret (v := .agg #[.bool false, .int .u32 p, .slice A n c]) (results_cell_row rfl _ _ w.heap.size _ _ _ _ rfl hz Try.underlying38 rfl (by kernel_rfl)) rfl ⟨rfl, hb⟩
set_option maxRecDepth 100000 in
set_option maxHeartbeats 1000000 in
theorem lNo_any (p : Int) (A : Option Addr) (n c : Nat) (w : World) : Calls Try.prog 17 #[.int .u32 p, .slice A n c] w fun e w' => e = .returned (.agg #[.bool true, .int .u32 p, .slice A n c]) ∧ Below w.heap.size w w' := by
  have hb0 : Below w.heap.size w (w.alloc (.cells #[.bool false, .int .u32 0, .slice none 0 0] 38)) := (Below.refl _ _).alloc (Nat.le_refl _) _
  have hk0 := Bk.new w 38 [.bool false, .int .u32 0, .slice none 0 0]
  have HB0 := Lib.hid hb0
  have HK0 := Lib.hid hk0
  clear hb0 hk0
  go_enter Try.func17, Try.ntmps17
  repeat (first | go_skip | go_guarded | go_step)
  refine (lA_any p A n c _).mono ?_
  rintro e w2 ⟨rfl, hb2⟩
  have hbk := HK0.out.later hb2
  have HBK := Lib.hid hbk
  have HB2 := Lib.hid (HB0.out.trans (hb2.mono HB0.out.size))
  have q0 := hbk.read (Below.refl _ _) 0 rfl
  have q1 := hbk.read (Below.refl _ _) 1 rfl
  have q2 := hbk.read (Below.refl _ _) 2 rfl
  have f0 := hbk.frozen 0
  have f1 := hbk.frozen 1
  have f2 := hbk.frozen 2
  clear hb2 hbk
  dsimp only
  repeat (first | go_skip | go_guarded | go_step)
  have hz : Bk (((w2.setCell ⟨w.heap.size, 0, none⟩ (.bool true)).setCell ⟨w.heap.size, 1, none⟩ (.int .u32 p)).setCell ⟨w.heap.size, 2, none⟩ (.slice A n c)) w.heap.size 38 [.bool true, .int .u32 p, .slice A n c] := ((HBK.out.set_ 0 (.bool true)).set_ 1 (.int .u32 p)).set_ 2 (.slice A n c)
  have hb : Below w.heap.size w (((w2.setCell ⟨w.heap.size, 0, none⟩ (.bool true)).setCell ⟨w.heap.size, 1, none⟩ (.int .u32 p)).setCell ⟨w.heap.size, 2, none⟩ (.slice A n c)) := ((HB2.out.setCell (p := ⟨w.heap.size, 0, none⟩) (Nat.le_refl _) _).setCell (p := ⟨w.heap.size, 1, none⟩) (Nat.le_refl _) _).setCell (p := ⟨w.heap.size, 2, none⟩) (Nat.le_refl _) _
  refine bodyPost_ret (v := .agg #[.bool true, .int .u32 p, .slice A n c]) (results_cell_row rfl _ _ w.heap.size _ _ _ _ rfl hz Try.underlying38 rfl (by kernel_rfl)) rfl ⟨rfl, hb⟩
end Go.Proofs.Ytggnhgfickkgdaa
