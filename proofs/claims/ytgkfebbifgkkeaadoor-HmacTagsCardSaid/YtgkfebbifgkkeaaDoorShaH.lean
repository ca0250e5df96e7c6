/- Layer 2 (sha): the sums. -/
import Derived.Test.YtgkfebbifgkkeaaDoorShaG
set_option linter.unusedVariables false
namespace Go.Proofs.YtgkfebbifgkkeaaDoor
open Go Go.RowKit

abbrev tagV (bs : List UInt8) : Value := .agg ((shaL bs).map bv).toArray
theorem st_final {w : World} {g : Nat} {bs : List UInt8} (h : St w g (bs ++ tailP bs.length)) :
    ∃ s : W8, tagL s = shaL bs ∧ w.rangeAt g 0 [uv s.a, uv s.b, uv s.c, uv s.d, uv s.e, uv s.f, uv s.g, uv s.h] := by
  obtain ⟨rest, _, _, hbk⟩ := h
  refine ⟨_, ?_, st_words hbk⟩
  rw [List.length_append]
  rfl
theorem zero27 (w : World) : ∃ W0, W0 = w.alloc (.cells #[.int .u8 0, .int .u8 0, .int .u8 0, .int .u8 0, .int .u8 0, .int .u8 0, .int .u8 0, .int .u8 0, .int .u8 0, .int .u8 0, .int .u8 0, .int .u8 0, .int .u8 0, .int .u8 0, .int .u8 0, .int .u8 0, .int .u8 0, .int .u8 0, .int .u8 0, .int .u8 0, .int .u8 0, .int .u8 0, .int .u8 0, .int .u8 0, .int .u8 0, .int .u8 0, .int .u8 0, .int .u8 0, .int .u8 0, .int .u8 0, .int .u8 0, .int .u8 0] 28) ∧ Bk W0 w.heap.size 28 (zB 32) ∧ Below w.heap.size w W0 ∧ W0.heap.size = w.heap.size + 1 :=
  ⟨_, rfl, Bk.new w _ (zB 32), (Below.refl _ _).alloc (Nat.le_refl _) _, by simp⟩
set_option maxRecDepth 100000 in
theorem sumM_nil (w : World) :
    Calls Tryd.prog 29 #[.pointer none] w fun e w' => e = .returned (.agg (zB 32).toArray) ∧ Below w.heap.size w w' := by
  obtain ⟨W0, hW0, hb0, hbw, _⟩ := zero27 w
  have hsz : (Tryd.prog.info? 28).map (·.size) = some (zB 32).toArray.size := by kernel_rfl
  have hb0' := hW0 ▸ hb0
  have HW0 := Lib.hid hW0
  clear hW0
  go_enter Tryd.func29, Tryd.ntmps29
  go_wp2_with (first
    | (refine wpList_built rfl 28 _ rfl (zB 32).toArray (by kernel_rfl) ?_)
    | (refine wpList_store_row (P := Tryd.prog) rfl 28 _ _ rfl w.heap.size _ rfl rfl _ _ hb0' hsz rfl (by simp [zB, Value.oneCell']) ?_))
  rw [← HW0.out]
  refine bodyPost_ret (v := .agg (zB 32).toArray) (results_cell_row rfl _ _ w.heap.size _ _ _ _ rfl (setRow_heap W0 w.heap.size _ _ _ _ hb0) Tryd.underlying28 rfl hsz) rfl ⟨rfl, below_setRow hbw (Nat.le_refl _) _⟩

set_option maxRecDepth 100000 in
set_option maxHeartbeats 1000000 in
theorem sumM_any (g : Nat) (bs : List UInt8) (w : World) (hst : St w g bs) (hbd : bs.length ≤ 1125899906842624) (ht : Tab w) :
    Calls Tryd.prog 29 #[.pointer (some ⟨g, 0, none⟩)] w fun e w' => e = .returned (tagV bs) ∧ Below w.heap.size w w' := by
  obtain ⟨rest, hrl, htk, hbk⟩ := hst
  have HRL := Lib.hid hrl
  have HTK := Lib.hid htk
  have HT := Lib.hid ht
  have hlt := ht.lt
  have hlt0 := ht.lt0
  have hsz : (Tryd.prog.info? 73).map (·.size) = some (stCells (runB (bs.length / 64) firstW bs) rest bs.length).toArray.size := by
    rw [List.size_toArray, st_len _ _ _ hrl]
    kernel_rfl
  have hz := zero52
  have h73z : (stCells zeroW zero64 0).length = 73 := rfl
  have h73 := Lib.hid (st_len (runB (bs.length / 64) firstW bs) rest bs.length hrl)
  obtain ⟨W0, hW0, hz0, hbw0, hs0⟩ := zero27 w
  have hbk1 : Bk W0 g 73 _ := hbk.later hbw0
  have hq : Bk (W0.alloc (.cells (stCells zeroW zero64 0).toArray 73)) (w.heap.size + 1) 73 (stCells zeroW zero64 0) := Bk.newAt _ _ hs0
  have HN2 := Lib.hid (hq.setRow_same (stCells (runB (bs.length / 64) firstW bs) rest bs.length))
  have HT0 := Lib.hid ((hz0.alloc (.cells (stCells zeroW zero64 0).toArray 73)).setRow_far (k := w.heap.size + 1) (by omega) (stCells (runB (bs.length / 64) firstW bs) rest bs.length).toArray)
  have HB0 := Lib.hid (below_setRow (hbw0.alloc (by omega) (.cells (stCells zeroW zero64 0).toArray 73)) (g := w.heap.size + 1) (by omega) (stCells (runB (bs.length / 64) firstW bs) rest bs.length).toArray)
  have hbk1' := hW0 ▸ hbk1
  have hq' := hW0 ▸ hq
  have HW0 := Lib.hid hW0
  clear hW0 hbk1 hq
  clear hrl htk ht hbk
  go_enter Tryd.func29, Tryd.ntmps29
  go_wp2_with (first
    | (refine wpList_load_row (P := Tryd.prog) rfl 73 _ rfl g rfl _ _ _ _ hbk1' Tryd.underlying73 rfl hsz ?_)
    | (refine wpList_store_row (P := Tryd.prog) rfl 73 _ _ rfl (w.heap.size + 1) _ rfl rfl _ _ hq' hsz (h73z.trans h73.out.symm) (by simp [stCells, W8.list, uv, bv, Value.oneCell']) ?_))
  have hn2 := HN2.out
  have ht0 := HT0.out
  have hb0 := HB0.out
  rw [← HW0.out]
  generalize World.setRow (W0.alloc (.cells (stCells zeroW zero64 0).toArray 73)) (w.heap.size + 1) (stCells (runB (bs.length / 64) firstW bs) rest bs.length).toArray = W1 at *
  clear hbk1' hq' hz h73z hsz
  have HT1 := Lib.hid (HT.out.below hb0)
  have hW1 : w.heap.size + 1 < W1.heap.size := hn2.lt
  go_wp2_with fail
  refine (pad_any (w.heap.size + 1) bs W1 ⟨rest, HRL.out, HTK.out, hn2⟩ hbd HT1.out (by omega) (by omega)).mono ?_
  rintro e W2 ⟨⟨v, rfl⟩, hst2, hgr2⟩
  obtain ⟨s, hts, hw3⟩ := st_final hst2
  have hb2 := hb0.grown hgr2 hb0.size (fun k hk => by cases hk; omega)
  have ht2 : Bk W2 w.heap.size 28 (zB 32) := (hgr2.block _ (by omega) (by simp)).trans ht0
  have HTS := Lib.hid hts
  clear hts hst2 hgr2 hn2 ht0
  have HS2 := Lib.hid hb2.size
  have hsz2 : (Tryd.prog.info? 28).map (·.size) = some ((tagL s).map bv).toArray.size := by
    rw [List.size_toArray, List.length_map, tagL_len]
    kernel_rfl
  go_wp2_with (first
    | (refine wpList_load_mid rfl 71 _ rfl (w.heap.size + 1) 0 rfl _ _ hw3 Tryd.underlying71 rfl (by kernel_rfl) ?_)
    | (go_at_call 38; refine (tag_any s _).mono ?_; rintro e W3 ⟨rfl, hb3⟩)
    | (refine wpList_store_row (P := Tryd.prog) rfl 28 _ _ rfl w.heap.size _ rfl rfl _ _ (ht2.later hb3) hsz2 (by simp [zB, tagL_len]) (by simp [bv, Value.oneCell']) ?_))
  refine bodyPost_ret (v := .agg ((tagL s).map bv).toArray) (results_cell_row rfl _ _ w.heap.size _ _ _ _ rfl (setRow_heap W3 w.heap.size _ _ _ _ (ht2.later hb3)) Tryd.underlying28 rfl hsz2) rfl ⟨by rw [HTS.out], below_setRow (hb2.trans (hb3.mono HS2.out)) (Nat.le_refl _) _⟩
end Go.Proofs.YtgkfebbifgkkeaaDoor
