/- Layer 3 (hmac): the anchor of the statements. -/
import Derived.Test.YtgkfebbifgkkeaaDoorHmE
import Derived.Test.YtgkfebbifgkkeaaDoorHmK
set_option linter.unusedVariables false
set_option linter.unusedSimpArgs false
namespace Go.Proofs.YtgkfebbifgkkeaaDoor
open Go Go.RowKit

def mk11 (i : Nat) : List Value := List.replicate i (.int .u8 11) ++ List.replicate (20 - i) (.int .u8 0)
theorem mk11_len (i : Nat) (h : i ≤ 20) : (mk11 i).length = 20 := by simp [mk11]; omega
theorem mk11_set (i : Nat) (h : i < 20) : (mk11 i).set i (.int .u8 11) = mk11 (i + 1) := by
  unfold mk11
  obtain ⟨m, hm⟩ : ∃ m, 20 - i = m + 1 := ⟨20 - i - 1, by omega⟩
  have hm' : 20 - (i + 1) = m := by omega
  rw [hm, hm', List.set_append_right _ _ (by simp), List.length_replicate, Nat.sub_self, List.replicate_succ, List.set_cons_zero, List.replicate_succ']
  simp
theorem mk11_all : mk11 20 = key11.map bv := by rfl

theorem hexT (bs : List UInt8) (g : Nat) (w : World) (h : Bk w g 28 (bs.map bv)) (hl : bs.length = 32) (hx : List UInt8) (he : hexL bs = hx) :
    Calls Tryd.prog 16 #[.slice (some ⟨g, 0, none⟩) 32 32] w fun e w' => e = .returned (.string ⟨hx.toArray⟩) ∧ ∃ m, w' = w.drewN m := by
  have hr := h.rd 32 (by simp [hl])
  rw [List.take_of_length_le (by simp [hl])] at hr
  rw [← he]
  exact hex_any _ 32 32 bs w hr (by omega)
theorem tagSz (bs : List UInt8) (h : bs.length = 32) : (Tryd.prog.info? 28).map (·.size) = some (bs.map bv).toArray.size := by
  rw [List.size_toArray, List.length_map, h]
  kernel_rfl
theorem tag32 (bs : List UInt8) (h : bs.length = 32) : (zB 32).toArray.size = (bs.map bv).toArray.size := by simp [zB, h]

/-- A whole row is loaded by a guarded operation whose guard holds. -/
theorem wpListG_load_row {P : Program} {ops : Array Oper} {rest : List Oper} {o : Oper} {a : Act} {w : World} {Q : Exit → Act → World → Prop} (hw : Region.wanted o (yielded ops a.tmps) = true) (ty : TypeId) (x : Operand) (ho : o.op = .load ty x)
    (g : Nat) (hx : a.eval x = .pointer (some ⟨g, 0, none⟩)) (t : TypeId) (cs : Array Value) (fr : Nat × Nat) (d : TypeDesc) (hg : w.heap[g]? = some (.cells cs t fr))
    (hu : P.underlying ty = some d) (hd : (match d with | .struct _ | .array _ _ => true | _ => false) = true) (hi : (P.info? ty).map (·.size) = some cs.size)
    (h : wpList P ops Q rest (a.put o.dst (.agg cs)) w) : wpList P ops Q (o :: rest) a w := by
  show (if Region.wanted o (yielded ops a.tmps) = true then _ ∨ _ else _)
  rw [if_pos hw]
  exact .inl (wp_load_row ty x ho g hx t cs fr d hg hu hd hi h)

set_option maxRecDepth 100000 in
set_option maxHeartbeats 1000000 in
theorem works_any (w : World) (ht : Tab w) : Calls Tryd.prog 7 #[] w fun e w' => e = .returned (.bool true) ∧ Below w.heap.size w w' := by
  have kc := run_const8
  have HT := Lib.hid ht
  obtain ⟨Wa, hWa, ra, rb, hab⟩ : ∃ Wa, Wa = (w.alloc (.cells #[.int .u8 74, .int .u8 101, .int .u8 102, .int .u8 101] 5 (4, 5))).alloc (.cells #[.int .u8 119, .int .u8 104, .int .u8 97, .int .u8 116, .int .u8 32, .int .u8 100, .int .u8 111, .int .u8 32, .int .u8 121, .int .u8 97, .int .u8 32, .int .u8 119, .int .u8 97, .int .u8 110, .int .u8 116, .int .u8 32, .int .u8 102, .int .u8 111, .int .u8 114, .int .u8 32, .int .u8 110, .int .u8 111, .int .u8 116, .int .u8 104, .int .u8 105, .int .u8 110, .int .u8 103, .int .u8 63] 5 (28, 29)) ∧
      Rd Wa Wa.heap.size 1 (some ⟨w.heap.size, 0, none⟩) 4 (jefe.map bv) ∧ Rd Wa Wa.heap.size 1 (some ⟨w.heap.size + 1, 0, none⟩) 28 (whatJ.map bv) ∧ Below w.heap.size w Wa := by
    refine ⟨_, rfl, ?_, ?_, ?_⟩
    · exact ((rdNew (w := w) (H := w.heap.size) 5 (jefe.map bv) (4, 5) rfl (w.heap.size + 1) (by omega)).below ((Below.refl _ _).alloc (by simp) _)).more (by simp)
    · exact (rdNew (w := w.alloc (.cells (jefe.map bv).toArray 5 (4, 5))) (H := w.heap.size + 1) 5 (whatJ.map bv) (28, 29) (by simp) (w.heap.size + 2) (by omega)).more (by simp)
    · exact ((Below.refl _ _).alloc (Nat.le_refl _) _).alloc (by simp) _
  have HWa := Lib.hid hWa
  have hta := ht.below hab
  obtain ⟨i0, hi, hz0, hz1, hz2⟩ := info_parts u8info
  clear hWa ht
  go_enter Tryd.func7, Tryd.ntmps7
  go_wp2_with fail
  rw [← HWa.out]
  refine (hTag_any _ _ 4 4 28 28 jefe whatJ Wa ra (by omega) rb (by omega) (by omega) (by omega) hta).mono ?_
  rintro e W1 ⟨rfl, hb1⟩
  have hJ := tagJ
  have hne := tagJI
  have hlA := hmacL_len jefe whatJ
  unfold tagH
  generalize hmacL jefe whatJ = tA at *
  have hbw1 := hab.trans (hb1.mono hab.size)
  obtain ⟨W2, hW2, hA2, hbw2, hs2⟩ : ∃ W2, W2 = W1.alloc (.cells (tA.map bv).toArray 28) ∧ Bk W2 W1.heap.size 28 (tA.map bv) ∧ Below w.heap.size w W2 ∧ W2.heap.size = W1.heap.size + 1 :=
    ⟨_, rfl, Bk.new W1 _ _, hbw1.alloc hbw1.size _, by simp⟩
  have HW2 := Lib.hid hW2
  have HS2 := Lib.hid hs2
  have HJ := Lib.hid hJ
  have HNE := Lib.hid hne
  have HLA := Lib.hid hlA
  clear hW2 hs2 hJ hne hlA ra rb hab hta hb1 hbw1
  go_wp2_with (first
    | (refine wpList_store_new rfl 28 _ _ rfl W1 _ _ rfl rfl (tagSz _ HLA.out) (tag32 _ HLA.out) (bvOne _) ?_; rw [← HW2.out])
    | (at_make; refine wpList_make_bk _ rfl _ _ 22 rfl 5 i0 (.int .u8 0) Tryd.underlying22 hi hz0 hz1 rfl _ _ _ _ 20 20 rfl rfl (by rfl) (by rfl) (by omega) (by rw [hz2]; omega) (by simp only [maxLen]; omega) ?_; intro w3 hB3 hb3 hs3; clear hi hz0 hz1 hz2 hs3))
  go_loopw [3] (fun p wr => ∃ i : Nat, i ≤ 20 ∧ p = .int .i64 (i : Int) ∧ Bk wr W2.heap.size 5 (mk11 i) ∧ Below W2.heap.size W2 wr)
    (fun p _ => 20 - (intOf p).toNat)
  case atStart => exact ⟨0, by omega, rfl, hB3, hb3⟩
  case round =>
    clear hB3 hb3
    obtain ⟨i, hi, rfl, hB, hb⟩ := hrel
    by_cases hlt : i < 20
    · have hci : (i : Int) < 20 := by omega
      have cu := hB.cell i
      rw [List.getElem?_eq_getElem (by rw [mk11_len _ hi]; omega)] at cu
      have fu := hB.frozen i
      have h2 := hB.set_ i (.int .u8 11)
      rw [mk11_set i hlt] at h2
      have h3 := hb.setCell (p := ⟨W2.heap.size, i, none⟩) (Nat.le_refl _) (.int .u8 11)
      have H2 := Lib.hid h2
      have H3 := Lib.hid h3
      clear h2 h3 hB hb
      go_wp2
      go_roundw
      case rel => exact ⟨i + 1, by omega, by go_num, H2.out, H3.out⟩
      case measure => simp [intOf]; omega
    · obtain rfl : i = 20 := by omega
      clear hlt hi
      rw [mk11_all] at hB
      have hr := hB.rd 20 (by simp [key11])
      rw [List.take_of_length_le (by simp [key11])] at hr
      have hA3 := hA2.later hb
      have hbw3 := hbw2.trans (hb.mono hbw2.size)
      clear hA2 hbw2 hb hB
      go_wp2_with fail
      refine (newMac_any _ 20 20 key11 wr hr (by omega) (by omega) (HT.out.below hbw3)).mono ?_
      rintro e W3 ⟨g, rfl, hg, hm3, hb3⟩
      have hA4 := hA3.later hb3
      have hbw4 := hbw3.trans (hb3.mono hbw3.size)
      clear hA3 hbw3 hb3 hr hg
      obtain ⟨Wb, hWb, hAb, hmb, hrb, hbwb, hsb⟩ : ∃ Wb, Wb = ((W3.alloc (.cells #[.int .u8 72, .int .u8 105, .int .u8 32] 5 (3, 4))).alloc (.cells #[.int .u8 84, .int .u8 104, .int .u8 101, .int .u8 114, .int .u8 101] 5 (5, 6))).alloc (.cells #[.slice (some ⟨W3.heap.size, 0, none⟩) 3 3, .slice (some ⟨W3.heap.size + 1, 0, none⟩) 5 5] 22) ∧
          Bk Wb W1.heap.size 28 (tA.map bv) ∧ Mac Wb g key11 ∧ Rws Wb Wb.heap.size (some ⟨W3.heap.size + 1 + 1, 0, none⟩) 2 [(some ⟨W3.heap.size, 0, none⟩, 3, 3), (some ⟨W3.heap.size + 1, 0, none⟩, 5, 5)] [[72, 105, 32], [84, 104, 101, 114, 101]] ∧ Below w.heap.size w Wb ∧ W1.heap.size < Wb.heap.size := by
        have hbx : Below W3.heap.size W3 (((W3.alloc (.cells #[.int .u8 72, .int .u8 105, .int .u8 32] 5 (3, 4))).alloc (.cells #[.int .u8 84, .int .u8 104, .int .u8 101, .int .u8 114, .int .u8 101] 5 (5, 6))).alloc (.cells #[.slice (some ⟨W3.heap.size, 0, none⟩) 3 3, .slice (some ⟨W3.heap.size + 1, 0, none⟩) 5 5] 22)) :=
          (((Below.refl _ _).alloc (Nat.le_refl _) _).alloc (by simp) _).alloc (by simp; omega) _
        refine ⟨_, rfl, hA4.later hbx, hm3.later hbx, ?_, hbw4.trans (hbx.mono hbw4.size), by have := hA4.lt; simp; omega⟩
        refine Rws.mk2 (rdNew _ [_, _] _ (by simp) _ (by simp)) ⟨?_, Nat.le_refl _⟩ ⟨?_, Nat.le_refl _⟩
        · exact (((rdNew (w := W3) (H := W3.heap.size) 5 (([72, 105, 32] : List UInt8).map bv) (3, 4) rfl (W3.heap.size + 1) (by omega)).below ((Below.refl _ _).alloc (by simp) _)).below ((Below.refl _ _).alloc (by simp) _)).more (by simp)
        · exact ((rdNew (w := W3.alloc (.cells (([72, 105, 32] : List UInt8).map bv).toArray 5 (3, 4))) (H := W3.heap.size + 1) 5 (([84, 104, 101, 114, 101] : List UInt8).map bv) (5, 6) (by simp) (W3.heap.size + 2) (by omega)).below ((Below.refl _ _).alloc (by simp) _)).more (by simp)
      have HWb := Lib.hid hWb
      clear hWb hA4 hm3 hbw4
      go_wp2_with fail
      rw [← HWb.out]
      refine (macTag_any g key11 _ 2 2 _ _ Wb hmb hrb (by simp) (by omega) (HT.out.below hbwb)).mono ?_
      rintro e W4 ⟨rfl, hb4⟩
      rw [show ([[72, 105, 32], [84, 104, 101, 114, 101]] : List (List UInt8)).flatten = hiT from rfl]
      have hI := tagI
      have hlB := hmacL_len key11 hiT
      unfold tagH
      have HM := Lib.hid hmb
      generalize hBE : hmacL key11 hiT = tB at *
      have HBE := Lib.hid hBE
      clear hBE
      have hAb4 := hAb.later hb4
      have hm4 := HM.out.later hb4
      have hbw4 := hbwb.trans (hb4.mono hbwb.size)
      obtain ⟨W5, hW5, hA5, hB5, hm5, hbw5, hs5⟩ : ∃ W5, W5 = W4.alloc (.cells (tB.map bv).toArray 28) ∧ Bk W5 W1.heap.size 28 (tA.map bv) ∧ Bk W5 W4.heap.size 28 (tB.map bv) ∧ Mac W5 g key11 ∧ Below w.heap.size w W5 ∧ W5.heap.size = W4.heap.size + 1 :=
        ⟨_, rfl, hAb4.alloc _, Bk.new W4 _ _, hm4.later ((Below.refl _ _).alloc (Nat.le_refl _) _), hbw4.alloc hbw4.size _, by simp⟩
      have HW5 := Lib.hid hW5
      have HI := Lib.hid hI
      have HLB := Lib.hid hlB
      have HA5 := Lib.hid hA5
      have HB5 := Lib.hid hB5
      have HM5 := Lib.hid hm5
      have HBW5 := Lib.hid hbw5
      have hsa := tagSz tA HLA.out
      clear hW5 hs5 hI hlB hAb hAb4 hmb hrb hm4 hbwb hb4 hbw4 hA5 hB5 hm5 hbw5
      go_wp2_with (refine wpList_store_new rfl 28 _ _ rfl W4 _ _ rfl rfl (tagSz _ HLB.out) (tag32 _ HLB.out) (bvOne _) ?_; rw [← HW5.out])
      refine (hexT tA W1.heap.size W5 HA5.out HLA.out [53, 98, 100, 99, 99, 49, 52, 54, 98, 102, 54, 48, 55, 53, 52, 101, 54, 97, 48, 52, 50, 52, 50, 54, 48, 56, 57, 53, 55, 53, 99, 55, 53, 97, 48, 48, 51, 102, 48, 56, 57, 100, 50, 55, 51, 57, 56, 51, 57, 100, 101, 99, 53, 56, 98, 57, 54, 52, 101, 99, 51, 56, 52, 51] HJ.out).mono ?_
      rintro e V0 ⟨rfl, m1, rfl⟩
      go_wp2_with fail
      refine (hexT tB W4.heap.size _ (HB5.out.below (belowDrewN (Below.refl _ _) m1) HB5.out.lt) HLB.out [98, 48, 51, 52, 52, 99, 54, 49, 100, 56, 100, 98, 51, 56, 53, 51, 53, 99, 97, 56, 97, 102, 99, 101, 97, 102, 48, 98, 102, 49, 50, 98, 56, 56, 49, 100, 99, 50, 48, 48, 99, 57, 56, 51, 51, 100, 97, 55, 50, 54, 101, 57, 51, 55, 54, 99, 50, 101, 51, 50, 99, 102, 102, 55] HI.out).mono ?_
      rintro e V0 ⟨rfl, m2, rfl⟩
      have hv2 : Below W5.heap.size W5 ((W5.drewN m1).drewN m2) := belowDrewN (belowDrewN (Below.refl _ _) _) _
      generalize (W5.drewN m1).drewN m2 = V2 at *
      have hA2 := HA5.out.later hv2
      have hB2 := HB5.out.later hv2
      go_wp2_with (first
        | (refine wpListG_load_row (P := Tryd.prog) (by rfl) 28 (.tmp 1) rfl W1.heap.size rfl _ _ _ _ hA2 Tryd.underlying28 rfl (tagSz _ HLA.out) ?_)
        | (refine wpListG_load_row (P := Tryd.prog) (by rfl) 28 (.tmp 5) rfl W4.heap.size rfl _ _ _ _ hB2 Tryd.underlying28 rfl (tagSz _ HLB.out) ?_))
      refine (same_any tA tA V2 HLA.out HLA.out).mono ?_
      rintro e V3 ⟨rfl, hb3⟩
      rw [show (tA == tA) = true by simp]
      have hA3 := hA2.later hb3
      have hB3 := hB2.later hb3
      have hv3 := hv2.trans (hb3.mono hv2.size)
      clear hA2 hB2 hv2 hb3
      go_wp2_with (first
        | (refine wpListG_load_row (P := Tryd.prog) (by rfl) 28 (.tmp 1) rfl W1.heap.size rfl _ _ _ _ hA3 Tryd.underlying28 rfl (tagSz _ HLA.out) ?_)
        | (refine wpListG_load_row (P := Tryd.prog) (by rfl) 28 (.tmp 5) rfl W4.heap.size rfl _ _ _ _ hB3 Tryd.underlying28 rfl (tagSz _ HLB.out) ?_))
      refine (same_any tA tB V3 HLA.out HLB.out).mono ?_
      rintro e V4 ⟨rfl, hb4⟩
      rw [show (tA == tB) = false from beq_false_of_ne HNE.out]
      have hA4 := hA3.later hb4
      have hB4 := hB3.later hb4
      have hv4 := hv3.trans (hb4.mono hv3.size)
      clear hA3 hB3 hv3 hb4
      have HFH := Lib.hid (show [hiT].flatten = hiT from rfl)
      obtain ⟨Wc4, hWc, hrc, hbc⟩ : ∃ Wc, Wc = (V4.alloc (.cells #[.int .u8 72, .int .u8 105, .int .u8 32, .int .u8 84, .int .u8 104, .int .u8 101, .int .u8 114, .int .u8 101] 5 (8, 9))).alloc (.cells #[.slice (some ⟨V4.heap.size, 0, none⟩) 8 8] 22) ∧ Rws Wc Wc.heap.size (some ⟨V4.heap.size + 1, 0, none⟩) 1 [(some ⟨V4.heap.size, 0, none⟩, 8, 8)] [hiT] ∧ Below V4.heap.size V4 Wc := by
        refine ⟨_, rfl, ?_, ((Below.refl _ _).alloc (Nat.le_refl _) _).alloc (by simp) _⟩
        refine Rws.mk1 (rdNew _ [_] _ (by simp) _ (by simp)) ⟨?_, Nat.le_refl _⟩
        exact ((rdNew (w := V4) (H := V4.heap.size) 5 (hiT.map bv) (8, 9) rfl (V4.heap.size + 1) (by omega)).below ((Below.refl _ _).alloc (by simp) _)).more (by simp)
      have HWc4 := Lib.hid hWc
      have HRC4 := Lib.hid hrc
      have HBC4 := Lib.hid hbc
      clear hWc hrc hbc
      have HVV4 := Lib.hid hv4
      go_wp2_with (first
        | (refine wpListG_load_row (P := Tryd.prog) (by rfl) 28 (.tmp 1) rfl W1.heap.size rfl _ _ _ _ hA4 Tryd.underlying28 rfl (tagSz _ HLA.out) ?_)
        | (refine wpListG_load_row (P := Tryd.prog) (by rfl) 28 (.tmp 5) rfl W4.heap.size rfl _ _ _ _ hB4 Tryd.underlying28 rfl (tagSz _ HLB.out) ?_))
      rw [← HWc4.out]
      refine (right_yes g key11 tB _ 1 1 _ [hiT] Wc4 ((HM5.out.later hv4).later HBC4.out) HRC4.out (by simp [hiT]) (by omega) (HT.out.below (HBW5.out.trans ((hv4.trans (HBC4.out.mono hv4.size)).mono HBW5.out.size))) HLB.out (by rw [HFH.out, HBE.out]; simp)).mono ?_
      rintro e V5 ⟨rfl, hd5⟩
      have hb5 : Below V4.heap.size V4 V5 := HBC4.out.trans (hd5.mono HBC4.out.size)
      clear hd5
      have hA5 := hA4.later hb5
      have hB5 := hB4.later hb5
      have hv5 := hv4.trans (hb5.mono hv4.size)
      clear hA4 hB4 hv4 hb5
      obtain ⟨Wc5, hWc, hrc, hbc⟩ : ∃ Wc, Wc = (V5.alloc (.cells #[.int .u8 72, .int .u8 105, .int .u8 32, .int .u8 84, .int .u8 104, .int .u8 101, .int .u8 114, .int .u8 101] 5 (8, 9))).alloc (.cells #[.slice (some ⟨V5.heap.size, 0, none⟩) 8 8] 22) ∧ Rws Wc Wc.heap.size (some ⟨V5.heap.size + 1, 0, none⟩) 1 [(some ⟨V5.heap.size, 0, none⟩, 8, 8)] [hiT] ∧ Below V5.heap.size V5 Wc := by
        refine ⟨_, rfl, ?_, ((Below.refl _ _).alloc (Nat.le_refl _) _).alloc (by simp) _⟩
        refine Rws.mk1 (rdNew _ [_] _ (by simp) _ (by simp)) ⟨?_, Nat.le_refl _⟩
        exact ((rdNew (w := V5) (H := V5.heap.size) 5 (hiT.map bv) (8, 9) rfl (V5.heap.size + 1) (by omega)).below ((Below.refl _ _).alloc (by simp) _)).more (by simp)
      have HWc5 := Lib.hid hWc
      have HRC5 := Lib.hid hrc
      have HBC5 := Lib.hid hbc
      clear hWc hrc hbc
      have HVV5 := Lib.hid hv5
      go_wp2_with (first
        | (refine wpListG_load_row (P := Tryd.prog) (by rfl) 28 (.tmp 1) rfl W1.heap.size rfl _ _ _ _ hA5 Tryd.underlying28 rfl (tagSz _ HLA.out) ?_)
        | (refine wpListG_load_row (P := Tryd.prog) (by rfl) 28 (.tmp 5) rfl W4.heap.size rfl _ _ _ _ hB5 Tryd.underlying28 rfl (tagSz _ HLB.out) ?_))
      rw [← HWc5.out]
      refine (right_no g key11 tA _ 1 1 _ [hiT] Wc5 ((HM5.out.later hv5).later HBC5.out) HRC5.out (by simp [hiT]) (by omega) (HT.out.below (HBW5.out.trans ((hv5.trans (HBC5.out.mono hv5.size)).mono HBW5.out.size))) HLA.out (by rw [HFH.out, HBE.out]; exact beq_false_of_ne HNE.out)).mono ?_
      rintro e V6 ⟨rfl, hd6⟩
      have hb6 : Below V5.heap.size V5 V6 := HBC5.out.trans (hd6.mono HBC5.out.size)
      clear hd6
      have hA6 := hA5.later hb6
      have hB6 := hB5.later hb6
      have hv6 := hv5.trans (hb6.mono hv5.size)
      clear hA5 hB5 hv5 hb6
      go_wp2_with fail
      refine (is_same 12 V6).mono ?_
      rintro e V7 ⟨rfl, hb7⟩
      go_wp2
      go_ret
      exact ⟨rfl, HBW5.out.trans ((hv6.trans (hb7.mono hv6.size)).mono HBW5.out.size)⟩
end Go.Proofs.YtgkfebbifgkkeaaDoor
