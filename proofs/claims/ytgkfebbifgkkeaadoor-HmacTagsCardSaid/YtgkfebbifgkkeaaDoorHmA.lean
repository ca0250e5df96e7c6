/- Layer 3 (hmac): the block of a key; a state that was begun with one. -/
import Derived.Test.YtgkfebbifgkkeaaDoorHmM
import Derived.Test.YtgkfebbifgkkeaaDoorShaO
set_option linter.unusedVariables false
namespace Go.Proofs.YtgkfebbifgkkeaaDoor
open Go Go.RowKit

theorem zero64v (w : World) : (zeroValue 45).run Tryd.prog w = .ok (.agg (zB 64).toArray) w := by kernel_rfl
theorem Bk.rdg {w : World} {g k n : Nat} {t : TypeId} {cs : List UInt8} (h : Bk w k t (cs.map bv)) (hne : k ≠ g) (hl : cs.length = n) : Rdg w g (some ⟨k, 0, none⟩) n cs :=
  ⟨hl, fun _ => ⟨k, 0, rfl, hne, h.lt, fun j u hu => by
    rw [Nat.zero_add, h.cell, List.getElem?_map, hu]
    rfl⟩⟩

set_option maxRecDepth 100000 in
set_option maxHeartbeats 1000000 in
theorem begun_any (blk : List UInt8) (m : UInt8) (w : World) (hl : blk.length = 64) (ht : Tab w) :
    Calls Tryd.prog 22 #[.agg (blk.map bv).toArray, .int .u8 (un m)] w fun e w' => ∃ g, e = .returned (.pointer (some ⟨g, 0, none⟩)) ∧ w.heap.size ≤ g ∧ St w' g (xorL m blk) ∧ Below w.heap.size w w' := by
  have HT := Lib.hid ht
  have HL := Lib.hid hl
  have hlt := ht.lt
  have hlt0 := ht.lt0
  obtain ⟨cs, hcs⟩ : ∃ cs, cs = blk.map bv := ⟨_, rfl⟩
  have hb0 := Bk.new w 45 cs
  have hbw0 := (Below.refl w.heap.size w).alloc (Nat.le_refl _) (.cells cs.toArray 45)
  rw [← hcs]
  have HCS := Lib.hid hcs
  clear ht hcs
  go_enter Tryd.func22, Tryd.ntmps22
  go_wp2
  generalize w.alloc (.cells cs.toArray 45) = W0 at *
  go_loopw [7] (fun p wr => ∃ i : Nat, i ≤ 64 ∧ p = .int .i64 (i : Int) ∧ Bk wr w.heap.size 45 ((xorT m blk i).map bv) ∧ Below w.heap.size w wr)
    (fun p _ => 64 - (intOf p).toNat)
  case atStart => exact ⟨0, by omega, rfl, by rw [xorT_zero, ← HCS.out]; exact hb0, hbw0⟩
  case round =>
    clear hb0 hbw0
    obtain ⟨i, hi, rfl, hb, hbw⟩ := hrel
    by_cases hlt : i < 64
    · have hci : (i : Int) < 64 := by omega
      have hx : blk[i]? = some (blk[i]'(by omega)) := List.getElem?_eq_getElem (by omega)
      generalize blk[i]'(by omega) = x at hx
      have cx := hb.cell i
      rw [List.getElem?_map, xorT_get m blk i x hx, Option.map_some, bvU] at cx
      have fx := hb.frozen i
      have xx := xorU x m
      have h2 := hb.set_ i (bv (x ^^^ m))
      rw [xorT_set m blk i x hx, bvU] at h2
      have h3 := hbw.setCell (p := ⟨w.heap.size, i, none⟩) (Nat.le_refl _) (.int .u8 (un (x ^^^ m)))
      have H2 := Lib.hid h2
      have H3 := Lib.hid h3
      clear h2 h3 hx hb hbw
      go_wp2
      go_roundw
      case rel => exact ⟨i + 1, by omega, by go_num, H2.out, H3.out⟩
      case measure => simp [intOf]; omega
    · obtain rfl : i = 64 := by omega
      clear hlt hi
      rw [xorT_all m blk 64 hl] at hb
      have hbr := HT.out.below hbw
      go_wp2_with fail
      refine (new_any wr hbr).mono ?_
      rintro e W1 ⟨rfl, hst1, hb1, hs1⟩
      have hz := hb.lt
      have hbB := hb.later hb1
      have hbw1 := hbw.trans (hb1.mono hbw.size)
      have hbs := hbw.size
      have hrg : Rdg W1 wr.heap.size (some ⟨w.heap.size, 0, none⟩) 64 (xorL m blk) := hbB.rdg (by omega) (by rw [xorL_len]; exact HL.out)
      have hwg := hbw.trans (hb1.mono hbw.size)
      clear hb hbB hb1 hs1 hbr
      go_wp2_with fail
      refine (write_any wr.heap.size [] _ 64 64 (xorL m blk) W1 hst1 hrg (by omega) (by simp) (HT.out.below hbw1) (by omega) (by omega)).mono ?_
      rintro e W2 ⟨rfl, hst2, hg2⟩
      have hb2 := hbw1.grown hg2 hbw1.size (fun k hk => by cases hk; omega)
      rw [List.nil_append] at hst2
      clear hst1 hrg hwg hg2 hbw hbw1
      go_wp2
      go_ret
      exact ⟨_, rfl, hbs, hst2, hb2⟩
end Go.Proofs.YtgkfebbifgkkeaaDoor
