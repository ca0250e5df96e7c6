/- Layer 3 (hmac): the block of a key. -/
import Derived.Test.YtgkfebbifgkkeaaDoorHmA
import Derived.Test.YtgkfebbifgkkeaaDoorShaI
import Derived.Laws.CopyOwn
set_option linter.unusedVariables false
namespace Go.Proofs.YtgkfebbifgkkeaaDoor
open Go Go.RowKit

theorem splice_fill (ks : List UInt8) : splice (zB 64) 0 (ks.map bv) = (fillB ks).map bv := by
  unfold splice fillB zB
  simp only [List.take_zero, List.nil_append, Nat.zero_add, List.length_map, List.drop_replicate, List.map_append, List.map_replicate]
  rfl
theorem blkSize (l : List UInt8) (h : l.length = 64) : (Tryd.prog.info? 45).map (·.size) = some (l.map bv).toArray.size := by
  rw [List.size_toArray, List.length_map, h]
  kernel_rfl
theorem bvOne (l : List UInt8) : (l.map bv).toArray.all (·.oneCell') = true := by simp [bv, Value.oneCell']

set_option maxRecDepth 100000 in
set_option maxHeartbeats 1000000 in
theorem blockOf_any (A : Option Addr) (n c : Nat) (key : List UInt8) (w : World) (hr : Rd w w.heap.size 1 A n (key.map bv)) (hnc : n ≤ c) (hbd : n ≤ 1125899906842624) (ht : Tab w) :
    Calls Tryd.prog 21 #[.slice A n c] w fun e w' => e = .returned (.agg ((keyB key).map bv).toArray) ∧ Below w.heap.size w w' := by
  have HT := Lib.hid ht
  have hl : key.length = n := by simpa using hr.len1
  have HL := Lib.hid hl
  have HR := Lib.hid hr
  obtain ⟨W1, hW1, hy1, hz1, hb1, hs1⟩ : ∃ W1, W1 = (w.alloc (.cells (zB 64).toArray 45)).alloc (.cells (zB 64).toArray 45) ∧ Bk W1 w.heap.size 45 (zB 64) ∧ Bk W1 (w.heap.size + 1) 45 (zB 64) ∧ Below w.heap.size w W1 ∧ W1.heap.size = w.heap.size + 1 + 1 :=
    ⟨_, rfl, (Bk.new w _ (zB 64)).alloc _, Bk.newAt _ (zB 64) (by simp), ((Below.refl _ _).alloc (Nat.le_refl _) _).alloc (by simp) _, by simp⟩
  have HW1 := Lib.hid hW1
  have hz := zero64v
  have hks := keyS_le key
  have hsz : (Tryd.prog.info? 45).map (·.size) = some ((keyB key).map bv).toArray.size := blkSize _ (keyB_len key)
  have h64 : (zB 64).toArray.size = ((keyB key).map bv).toArray.size := by rw [List.size_toArray, List.size_toArray, List.length_map, keyB_len]; rfl
  have HSP := Lib.hid (splice_fill (keyS key))
  have HK := Lib.hid (show keyB key = fillB (keyS key) from rfl)
  have H64 := Lib.hid h64
  clear hr ht hl h64
  by_cases hlt : 64 < n
  · have hci : (64 : Int) < (n : Int) := by omega
    have hkl := keyS_long key (by have := HL.out; omega)
    have HKL := Lib.hid hkl
    clear hW1 hkl
    go_enter Tryd.func21, Tryd.ntmps21
    go_wp2_with fail
    rw [← HW1.out]
    have hw1 : (W1.alloc (.cells #[.slice A n c] 22)).heap.size = w.heap.size + 1 + 1 + 1 := by simp [hs1]
    have hl1 := Rws.lit1 22 ((HR.out.below hb1).more hb1.size) hnc
    rw [hs1] at hl1
    have hba := hb1.alloc hb1.size (.cells #[.slice A n c] 22)
    have hya := hy1.alloc (.cells #[.slice A n c] 22)
    have hza := hz1.alloc (.cells #[.slice A n c] 22)
    generalize W1.alloc (.cells #[.slice A n c] 22) = Wa at *
    refine (sum_any _ 1 1 _ [key] Wa hl1 (by have := HL.out; simp; omega) (by omega) (HT.out.below hba)).mono ?_
    rintro e W2 ⟨rfl, hb2⟩
    rw [show [key].flatten = key from by simp]
    have hy2 := hya.later hb2
    have hz2 := hza.later hb2
    have hbw2 := hba.trans (hb2.mono hba.size)
    have hw2 := hz2.lt
    clear hl1 hba hya hza hb2 hy1 hz1 hb1 hs1 hw1
    have hy3 := hy2.alloc (.cells ((shaL key).map bv).toArray 28)
    have hz3 := hz2.alloc (.cells ((shaL key).map bv).toArray 28)
    have hbw3 := hbw2.alloc hbw2.size (.cells ((shaL key).map bv).toArray 28)
    have ht3 := Bk.new W2 28 ((shaL key).map bv)
    clear hy2 hz2 hbw2
    obtain ⟨W3, hW3⟩ : ∃ W3, W3 = W2.alloc (.cells ((shaL key).map bv).toArray 28) := ⟨_, rfl⟩
    rw [← hW3] at hy3 hz3 hbw3 ht3
    have hcp : ∀ j v, ((keyS key).map bv)[j]? = some v → W3.cell? ((⟨W2.heap.size, 0, none⟩ : Addr).add j) = some v := fun j v hv => by
      rw [HKL.out] at hv
      rw [addPlain, Nat.zero_add, ht3.cell]
      exact hv
    have hcn : ((keyS key).map bv).length = Nat.min 32 64 := by rw [HKL.out, List.length_map, shaL_len]; rfl
    have hcl : ((keyS key).map bv).length ≤ 64 := by rw [hcn]; exact Nat.min_le_right _ _
    have HCP : Hid (0 < ((keyS key).map bv).length → ∃ ad, (some ⟨W2.heap.size, 0, none⟩ : Option Addr) = some ad ∧ ∀ j v, ((keyS key).map bv)[j]? = some v → W3.cell? (ad.add j) = some v) := fun _ => ⟨_, rfl, hcp⟩
    have HCN := Lib.hid hcn
    have HCL : Hid (0 + ((keyS key).map bv).length ≤ (zB 64).length) := by
      show _ ≤ _
      rw [Nat.zero_add]
      exact hcl
    have HW3 := Lib.hid hW3
    clear hcp hcn hcl hW3
    go_wp2_with (first
      | (refine wpList_store_new rfl 28 _ _ rfl W2 _ _ rfl rfl (tagSize key) rfl (tagOne key) ?_; rw [← HW3.out])
      | (with_reducible refine wpList_copy_splice (o := ⟨some 14, _, _, _, _, _⟩) ?hg (.tmp 12) (.tmp 13) 22 22 ?ho 5 Tryd.underlying22 ?hsz (some ⟨w.heap.size + 1, 0, none⟩) (some ⟨W2.heap.size, 0, none⟩) 64 64 32 32 ?hd ?hs (w.heap.size + 1) 0 (zB 64) 45 ?hz ((keyS key).map bv) ?hn ?hp ?hf ?h1 (w.heap.size + 1) W3 ?hb (Nat.le_refl _) ?hh
         go_loud
           (skip
            case hg => rfl
            case ho => rfl
            case hsz => kernel_rfl
            case hz => exact hz3
            case h1 => exact bv_one _
            case hd => rfl
            case hs => rfl
            case hn => exact HCN.out
            case hp => exact fun h => ⟨rfl, HCP.out h⟩
            case hb => exact Below.refl _ _
            case hf => exact HCL.out)
         intro W4 hg4 hb4
         have hz4 : Bk W4 (w.heap.size + 1) 45 ((keyB key).map bv) := by
           have h := hg4.out
           rw [HSP.out, ← HK.out] at h
           exact h
         have hy4 : Bk W4 w.heap.size 45 (zB 64) := hy3.below hb4 (by omega)
         have hbw4 : Below w.heap.size w W4 := hbw3.trans (hb4.mono (by omega)))
      | (refine wpList_load_row (P := Tryd.prog) rfl 45 _ rfl (w.heap.size + 1) rfl _ _ _ _ hz4 Tryd.underlying45 rfl hsz ?_)
      | (refine wpList_store_row (P := Tryd.prog) rfl 45 _ _ rfl w.heap.size _ rfl rfl _ _ hy4 hsz H64.out (bvOne _) ?_))
    refine bodyPost_ret (v := .agg ((keyB key).map bv).toArray) (results_cell_row rfl _ _ w.heap.size _ _ _ _ rfl (setRow_heap W4 w.heap.size _ _ _ _ hy4) Tryd.underlying45 rfl hsz) rfl ⟨rfl, below_setRow hbw4 (Nat.le_refl _) _⟩
  · have hci : (n : Int) ≤ 64 := by omega
    have hkl := keyS_short key (by have := HL.out; omega)
    have hcp : 0 < ((keyS key).map bv).length → ∃ ad, A = some ad ∧ ∀ j v, ((keyS key).map bv)[j]? = some v → W1.cell? (ad.add j) = some v := fun h => by
      rw [hkl] at h ⊢
      obtain ⟨b, o, e, hb, hc⟩ := (HR.out.below hb1).2 (by simpa [HL.out] using h)
      exact ⟨_, e, fun j v hv => by rw [addPlain]; exact hc j v hv⟩
    have hcn : ((keyS key).map bv).length = Nat.min n 64 := by rw [hkl, List.length_map, HL.out]; exact (Nat.min_eq_left (by omega)).symm
    have hcl : ((keyS key).map bv).length ≤ 64 := by rw [hcn]; exact Nat.min_le_right _ _
    have HCP := Lib.hid hcp
    have HCN := Lib.hid hcn
    have HCL : Hid (0 + ((keyS key).map bv).length ≤ (zB 64).length) := by
      show _ ≤ _
      rw [Nat.zero_add]
      exact hcl
    have HHY := Lib.hid hy1
    have HHZ := Lib.hid hz1
    have HHB := Lib.hid hb1
    rw [hW1] at HHZ HCP
    clear hcp hcn hcl hkl hy1 hz1 hb1 hW1 hs1
    go_enter Tryd.func21, Tryd.ntmps21
    go_wp2_with (first
      | (with_reducible refine wpList_copy_splice (o := ⟨some 14, _, _, _, _, _⟩) ?khg (.tmp 12) (.tmp 13) 22 22 ?kho 5 Tryd.underlying22 ?khsz (some ⟨w.heap.size + 1, 0, none⟩) A 64 64 n c ?khd ?khs (w.heap.size + 1) 0 (zB 64) 45 ?khz ((keyS key).map bv) ?khn ?khp ?khf ?kh1 (w.heap.size + 1) W1 ?khb (Nat.le_refl _) ?khh
         go_loud
           (skip
            case khg => rfl
            case kho => rfl
            case khsz => kernel_rfl
            case khz => exact HHZ.out
            case kh1 => exact bv_one _
            case khd => rfl
            case khs => rfl
            case khn => exact HCN.out
            case khp => exact fun h => ⟨rfl, HCP.out h⟩
            case khf => exact HCL.out
            case khb => rw [HW1.out]; exact Below.refl _ _)
         intro W4 hg4 hb4
         have hz4 : Bk W4 (w.heap.size + 1) 45 ((keyB key).map bv) := by
           have h := hg4.out
           rw [HSP.out, ← HK.out] at h
           exact h
         have hy4 : Bk W4 w.heap.size 45 (zB 64) := HHY.out.below hb4 (by omega)
         have hbw4 : Below w.heap.size w W4 := HHB.out.trans (hb4.mono (by omega)))
      | (refine wpList_load_row (P := Tryd.prog) rfl 45 _ rfl (w.heap.size + 1) rfl _ _ _ _ hz4 Tryd.underlying45 rfl hsz ?_)
      | (refine wpList_store_row (P := Tryd.prog) rfl 45 _ _ rfl w.heap.size _ rfl rfl _ _ hy4 hsz H64.out (bvOne _) ?_))
    refine bodyPost_ret (v := .agg ((keyB key).map bv).toArray) (results_cell_row rfl _ _ w.heap.size _ _ _ _ rfl (setRow_heap W4 w.heap.size _ _ _ _ hy4) Tryd.underlying45 rfl hsz) rfl ⟨rfl, below_setRow hbw4 (Nat.le_refl _) _⟩
end Go.Proofs.YtgkfebbifgkkeaaDoor
