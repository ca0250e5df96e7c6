/- Layer 3 (hmac): the document's answer: with, Block, Tag. -/
import Derived.Test.YtgkfebbifgkkeaaDoorHmP
set_option linter.unusedVariables false
set_option linter.unusedSimpArgs false
namespace Go.Proofs.YtgkfebbifgkkeaaDoor
open Go Go.RowKit

set_option maxRecDepth 100000 in
set_option maxHeartbeats 1000000 in
theorem with_any (A : Option Addr) (n c : Nat) (k : Int) (x : UInt8) (hk : k = un x) (bs : List UInt8) (w : World) (hr : Rd w w.heap.size 1 A n (bs.map bv)) (hn : n ≤ 1099511627776) :
    Calls Tryd.prog 19 #[.slice A n c, .int .u8 k] w fun e w' => ∃ A' c', e = .returned (.slice A' n c') ∧ Ow w' w.heap.size A' c' n (xorL x bs) ∧ Below w.heap.size w w' := by
  subst hk
  have hl : bs.length = n := by simpa using hr.len1
  have HL := Lib.hid hl
  have HR := Lib.hid hr
  clear hr hl
  go_enter Tryd.func19, Tryd.ntmps19
  repeat go_step
  go_loopw [5, 6] (fun q p wr => ∃ (i : Nat) (Ao : Option Addr) (co : Nat), i ≤ n ∧ p = .int .i64 (i : Int) ∧ q = .slice Ao i co ∧ Ow wr w.heap.size Ao co i (xorL x (bs.take i)) ∧ Below w.heap.size w wr)
    (fun _ p _ => n - (intOf p).toNat)
  case atStart => exact ⟨0, none, 0, by omega, rfl, rfl, owNil _ _, Below.refl _ _⟩
  case round =>
    obtain ⟨i, Ao, co, hi, rfl, rfl, ho, hbw⟩ := hrel
    by_cases hlt : i < n
    · have hci : (i : Int) < (n : Int) := by omega
      obtain ⟨b, o, u, hA, hb, hu, hc⟩ := (HR.out.below hbw).at1 hlt
      subst hA
      have hbi : bs[i]? = some (bs[i]'(by have := HL.out; omega)) := List.getElem?_eq_getElem _
      generalize bs[i]'(by have := HL.out; omega) = y at hbi
      rw [List.getElem?_map, hbi] at hu
      simp only [Option.map_some, Option.some.injEq] at hu
      subst hu
      rw [bvU] at hc
      have xx := xorU y x
      have hone : ∀ (W : World), Rd (W.alloc (.cells #[.int .u8 (un (y ^^^ x))] 5)) (W.heap.size + 1) 1 (some ⟨W.heap.size, 0, none⟩) 1 ([y ^^^ x].map bv) := fun W => rdOne W (y ^^^ x)
      have HONE := Lib.hid hone
      have hst : xorL x (bs.take (i + 1)) = xorL x (bs.take i) ++ [y ^^^ x] := by
        unfold xorL
        rw [List.take_add_one, hbi]
        simp
      have HST := Lib.hid hst
      have hi9 : i + 1 ≤ 70368744177664 := by omega
      clear hone hst hbi
      go_wp2_with (at_builtin; refine app8 _ rfl (.tmp 13) (.tmp 20) rfl w.heap.size Ao co i _ rfl (ho.alloc _) (wr.heap.size + 1) (some ⟨wr.heap.size, 0, none⟩) 1 1 [y ^^^ x] rfl (HONE.out wr) (by omega) (by have := hbw.size; simp; omega) ?_; intro A4 c4 w4 ho4 hb4 _)
      go_roundw
      case rel => exact ⟨i + 1, A4, c4, by omega, by go_num, rfl, by rw [HST.out]; exact ho4, (hbw.alloc hbw.size _).trans hb4⟩
      case measure => simp [intOf]; omega
    · obtain rfl : n = i := by omega
      rw [List.take_of_length_le (by have := HL.out; omega)] at ho
      repeat go_step
      go_ret
      exact ⟨Ao, co, rfl, ho, hbw⟩

set_option maxRecDepth 100000 in
set_option maxHeartbeats 1000000 in
theorem rBlock_any (A : Option Addr) (n c : Nat) (key : List UInt8) (w : World) (hr : Rd w w.heap.size 1 A n (key.map bv)) (hn : n ≤ 1099511627776) :
    Calls Tryd.prog 20 #[.slice A n c] w fun e w' => ∃ A' c', e = .returned (.slice A' 64 c') ∧ Ow w' w.heap.size A' c' 64 (keyB key) ∧ Below w.heap.size w w' := by
  have hl : key.length = n := by simpa using hr.len1
  have HL := Lib.hid hl
  have HR := Lib.hid hr
  have HKB := Lib.hid (show keyB key = fillB (keyS key) from rfl)
  have hks := keyS_le key
  clear hr hl
  have h000 : ∀ (W : World), Rd (W.alloc (.cells #[.int .u8 0] 5)) (W.heap.size + 1) 1 (some ⟨W.heap.size, 0, none⟩) 1 ([0].map bv) := fun W => rdOne W 0
  have H000 := Lib.hid h000
  clear h000
  by_cases hlt : 64 < n
  · have hd : decide ((64 : Int) < (n : Int)) = true := by simp; omega
    have HKL := Lib.hid (keyS_long key (by have := HL.out; omega))
    go_enter Tryd.func20, Tryd.ntmps20
    repeat (first | (at_builtin; refine app8 _ rfl (.tmp 5) (.tmp 6) rfl w.heap.size _ _ 0 [] rfl (owLit0 w _ (Nat.le_refl _)) w.heap.size A n c key rfl (HR.out.below ((Below.refl _ _).alloc (by omega) _)) (by omega) (by simp) ?_; intro A1 c1 W1 ho1 hb1 _) | go_step)
    have hbw1 : Below w.heap.size w W1 := ((Below.refl _ _).alloc (Nat.le_refl _) _).trans hb1
    clear hb1 ho1
    repeat go_step
    refine (rSum_any A n c key W1 ((HR.out.below hbw1).more hbw1.size) hn).mono ?_
    rintro e W2 ⟨rfl, hb2⟩
    have hbw2 := hbw1.trans (hb2.mono hbw1.size)
    obtain ⟨W3, hW3, hs3, hbw3⟩ : ∃ W3, W3 = W2.alloc (.cells ((shaL key).map bv).toArray 28) ∧ Bk W3 W2.heap.size 28 ((shaL key).map bv) ∧ Below w.heap.size w W3 :=
      ⟨_, rfl, Bk.new W2 _ _, hbw2.alloc hbw2.size _⟩
    have HW3 := Lib.hid hW3
    have hr3 : Rd W3 W3.heap.size 1 (some ⟨W2.heap.size, 0, none⟩) 32 ((shaL key).map bv) := by
      have h2 := hs3.rd 32 (by simp [shaL_len])
      rwa [List.take_of_length_le (by simp [shaL_len])] at h2
    have hz3 := hbw3.size
    clear hW3 hb2 hbw1 hbw2
    unfold tagV
    dsimp only
    repeat (first
      | (refine wpList_store_new rfl 28 _ _ rfl W2 _ _ rfl rfl (tagSz _ (shaL_len key)) (tag32 _ (shaL_len key)) (bvOne _) ?_; rw [← HW3.out])
      | (at_builtin; refine app8 _ rfl (.tmp 13) (.tmp 14) rfl w.heap.size _ _ 0 [] rfl (owLit0 W3 _ hz3) W3.heap.size (some ⟨W2.heap.size, 0, none⟩) 32 32 (shaL key) rfl (hr3.alloc (Nat.le_refl _) _) (by omega) (by simp; omega) ?_; intro A4 c4 W4 ho4 hb4 _)
      | go_step)
    rw [Nat.zero_add, List.nil_append, ← HKL.out] at ho4
    have hbw4 := (hbw3.alloc hbw3.size _).trans hb4
    have hsl : (keyS key).length = 32 := ho4.len
    clear hr3 hs3 hbw3 hb4
    repeat go_step
    go_loopw [3] (fun p wr => ∃ (m : Nat) (Ao : Option Addr) (co : Nat), 32 ≤ m ∧ m ≤ 64 ∧ p = .slice Ao m co ∧ Ow wr w.heap.size Ao co m (keyS key ++ List.replicate (m - 32) 0) ∧ Below w.heap.size w wr)
      (fun p _ => match p with | .slice _ m _ => 64 - m | _ => 0)
    case atStart => exact ⟨32, A4, c4, by omega, by omega, by first | rfl | (rw [Nat.zero_add]), by simpa using ho4, hbw4⟩
    case round =>
      clear ho4 hbw4
      obtain ⟨m, Ao, co, hm0, hm, rfl, ho, hbw⟩ := hrel
      by_cases hlm : m < 64
      · have hcm : (m : Int) < 64 := by omega
        have hst : keyS key ++ List.replicate (m + 1 - 32) 0 = (keyS key ++ List.replicate (m - 32) 0) ++ [0] := by
          rw [show m + 1 - 32 = (m - 32) + 1 by omega, List.replicate_succ', List.append_assoc]
        have HST := Lib.hid hst
        clear hst
        go_wp2_with (at_builtin; refine app8 _ rfl (.tmp 19) (.tmp 20) rfl w.heap.size Ao co m _ rfl (ho.alloc _) (wr.heap.size + 1) (some ⟨wr.heap.size, 0, none⟩) 1 1 [0] rfl (H000.out wr) (by omega) (by have := hbw.size; simp; omega) ?_; intro A6 c6 w6 ho6 hb6 _)
        go_roundw
        case rel => exact ⟨m + 1, A6, c6, by omega, by omega, rfl, by rw [HST.out]; exact ho6, (hbw.alloc hbw.size _).trans hb6⟩
        case measure => simp; omega
      · obtain rfl : m = 64 := by omega
        have he : keyS key ++ List.replicate (64 - 32) 0 = keyB key := by
          rw [HKB.out]
          unfold fillB
          rw [hsl]
        rw [he] at ho
        repeat go_step
        go_ret
        exact ⟨Ao, co, rfl, ho, hbw⟩
  · have hd : decide ((64 : Int) < (n : Int)) = false := by simp; omega
    have HKL := Lib.hid (keyS_short key (by have := HL.out; omega))
    go_enter Tryd.func20, Tryd.ntmps20
    repeat (first | (at_builtin; refine app8 _ rfl (.tmp 5) (.tmp 6) rfl w.heap.size _ _ 0 [] rfl (owLit0 w _ (Nat.le_refl _)) w.heap.size A n c key rfl (HR.out.below ((Below.refl _ _).alloc (by omega) _)) (by omega) (by simp) ?_; intro A4 c4 W4 ho4 hb4 _) | go_step)
    rw [Nat.zero_add, List.nil_append, ← HKL.out] at ho4
    have hbw4 : Below w.heap.size w W4 := ((Below.refl _ _).alloc (Nat.le_refl _) _).trans hb4
    have hsl : (keyS key).length = n := ho4.len
    clear hb4
    repeat go_step
    go_loopw [3] (fun p wr => ∃ (m : Nat) (Ao : Option Addr) (co : Nat), n ≤ m ∧ m ≤ 64 ∧ p = .slice Ao m co ∧ Ow wr w.heap.size Ao co m (keyS key ++ List.replicate (m - n) 0) ∧ Below w.heap.size w wr)
      (fun p _ => match p with | .slice _ m _ => 64 - m | _ => 0)
    case atStart => exact ⟨n, A4, c4, by omega, by omega, by first | rfl | (rw [Nat.zero_add]), by simpa using ho4, hbw4⟩
    case round =>
      clear ho4 hbw4
      obtain ⟨m, Ao, co, hm0, hm, rfl, ho, hbw⟩ := hrel
      by_cases hlm : m < 64
      · have hcm : (m : Int) < 64 := by omega
        have hst : keyS key ++ List.replicate (m + 1 - n) 0 = (keyS key ++ List.replicate (m - n) 0) ++ [0] := by
          rw [show m + 1 - n = (m - n) + 1 by omega, List.replicate_succ', List.append_assoc]
        have HST := Lib.hid hst
        clear hst
        go_wp2_with (at_builtin; refine app8 _ rfl (.tmp 19) (.tmp 20) rfl w.heap.size Ao co m _ rfl (ho.alloc _) (wr.heap.size + 1) (some ⟨wr.heap.size, 0, none⟩) 1 1 [0] rfl (H000.out wr) (by omega) (by have := hbw.size; simp; omega) ?_; intro A6 c6 w6 ho6 hb6 _)
        go_roundw
        case rel => exact ⟨m + 1, A6, c6, by omega, by omega, rfl, by rw [HST.out]; exact ho6, (hbw.alloc hbw.size _).trans hb6⟩
        case measure => simp; omega
      · obtain rfl : m = 64 := by omega
        have he : keyS key ++ List.replicate (64 - n) 0 = keyB key := by
          rw [HKB.out]
          unfold fillB
          rw [hsl]
        rw [he] at ho
        repeat go_step
        go_ret
        exact ⟨Ao, co, rfl, ho, hbw⟩

set_option maxRecDepth 100000 in
set_option maxHeartbeats 2000000 in
theorem rTag_any (A0 A1 : Option Addr) (n0 c0 n1 c1 : Nat) (key msg : List UInt8) (w : World) (h0 : Rd w w.heap.size 1 A0 n0 (key.map bv)) (h1 : Rd w w.heap.size 1 A1 n1 (msg.map bv)) (hb0 : n0 ≤ 1099511627776) (hb1 : n1 ≤ 1099511627000) :
    Calls Tryd.prog 9 #[.slice A0 n0 c0, .slice A1 n1 c1] w fun e w' => e = .returned (tagH key msg) ∧ Below w.heap.size w w' := by
  obtain ⟨W0, hW0, hz0, hbw0, hs0⟩ := zero27 w
  have HW0 := Lib.hid hW0
  have H0 := Lib.hid h0
  have H1 := Lib.hid h1
  have HZ0 := hbw0.size
  clear hW0 hs0 h0 h1
  go_enter Tryd.func9, Tryd.ntmps9
  go_wp2_with fail
  rw [← HW0.out]
  refine (rBlock_any A0 n0 c0 key W0 ((H0.out.below hbw0).more HZ0) hb0).mono ?_
  rintro e W1 ⟨Aa, ca, rfl, ho1, hb1⟩
  have hz1 := hz0.later hb1
  have hbw1 := hbw0.trans (hb1.mono HZ0)
  clear hz0 hb1
  dsimp only
  repeat go_step
  refine (with_any Aa 64 ca 54 54 rfl (keyB key) W1 ho1.rd (by omega)).mono ?_
  rintro e W2 ⟨Ab, cb, rfl, ho2, hb2⟩
  have hz2 := hz1.later hb2
  have hbw2 := hbw1.trans (hb2.mono hbw1.size)
  have hZ1 := hbw1.size
  have hZ12 := hb2.size
  have hzl := hz1.lt
  clear hz1 hb2 ho1
  dsimp only
  repeat (first | (at_builtin; refine app8 _ rfl (.tmp 8) (.tmp 9) rfl W1.heap.size Ab cb 64 _ rfl ho2 w.heap.size A1 n1 c1 msg rfl (H1.out.below hbw2) (by omega) hZ12 ?_; intro A3 c3 W3 ho3 hb3 _) | go_step)
  have hz3 := hz2.below hb3 hzl
  have hbw3 := hbw2.trans (hb3.mono hZ1)
  clear hz2 hbw2 hb3 ho2
  repeat go_step
  refine (rSum_any A3 (64 + n1) c3 (xorL 54 (keyB key) ++ msg) W3 ho3.rd (by omega)).mono ?_
  rintro e W4 ⟨rfl, hb4⟩
  have hz4 := hz3.later hb4
  have hbw4 := hbw3.trans (hb4.mono hbw3.size)
  clear hz3 hbw3 hb4 ho3
  obtain ⟨iT, HIT⟩ : ∃ iT, Hid (shaL (xorL 54 (keyB key) ++ msg) = iT) := ⟨_, rfl⟩
  have hli : iT.length = 32 := by rw [← HIT.out]; exact shaL_len _
  unfold tagV
  rw [HIT.out]
  obtain ⟨U, hU, hsU, hzU, hwU⟩ : ∃ U, U = W4.alloc (.cells (iT.map bv).toArray 28) ∧ Bk U W4.heap.size 28 (iT.map bv) ∧ Bk U w.heap.size 28 (zB 32) ∧ Below w.heap.size w U :=
    ⟨_, rfl, Bk.new W4 _ _, hz4.alloc _, hbw4.alloc hbw4.size _⟩
  have HU := Lib.hid hU
  have hZU := hwU.size
  have hzl' := hzU.lt
  clear hU hz4 hbw4
  dsimp only
  repeat (first | (refine wpList_store_new rfl 28 _ _ rfl W4 _ _ rfl rfl (tagSz _ hli) (tag32 _ hli) (bvOne _) ?_; rw [← HU.out]) | go_step)
  have h0w : ∀ (W : World), Below U.heap.size U W → Rd W W.heap.size 1 A0 n0 (key.map bv) := fun W h => (H0.out.below (hwU.trans (h.mono hZU))).more (Nat.le_trans hZU h.size)
  have hiw : ∀ (W : World), Below U.heap.size U W → Rd W U.heap.size 1 (some ⟨W4.heap.size, 0, none⟩) 32 (iT.map bv) := fun W h => by
    have h2 := hsU.rd 32 (by simp [hli])
    rw [List.take_of_length_le (by simp [hli])] at h2
    exact h2.below h
  have hsz2 := tagSizeH key msg
  refine wp_region_any (by kernel_rfl) ?_
  try (change wpAny _ _ _ _ _ _ _ (World.drew _))
  have hf0 : Below U.heap.size U U.drew := belowDrewN (Below.refl _ _) 1
  refine wpAny_take (i := 0) (oi := ?oid2) (v := ?vd2) ?hod2 (by kernel_rfl) ?hfd2 ?hrd2 ?hQd2 ?hyd2 ?restd2
  case hod2 => (simp only [List.getElem?_toArray, List.getElem?_cons_succ, List.getElem?_cons_zero]; exact rfl)
  case hfd2 => kernel_rfl
  case hrd2 => kernel_rfl
  case hQd2 => exact fun _ _ _ h => h
  case hyd2 =>
    refine Or.inl ⟨by rfl, ?_⟩
    intro w
    go_simp
    (try with_reducible rfl)
  try simp only [Act.put, List.setIfInBounds_toArray, List.set_cons_zero, List.set_cons_succ]
  refine wpAny_take (i := 3) (oi := ?oid3) (v := ?vd3) ?hod3 (by kernel_rfl) ?hfd3 ?hrd3 ?hQd3 ?hyd3 ?restd3
  case hod3 => (simp only [List.getElem?_toArray, List.getElem?_cons_succ, List.getElem?_cons_zero]; exact rfl)
  case hfd3 => kernel_rfl
  case hrd3 => kernel_rfl
  case hQd3 => exact fun _ _ _ h => h
  case hyd3 =>
    refine Or.inl ⟨by rfl, ?_⟩
    intro w
    go_simp
    (try with_reducible rfl)
  try simp only [Act.put, List.setIfInBounds_toArray, List.set_cons_zero, List.set_cons_succ]
  refine wpAny_ready (rs := [1]) (by kernel_rfl) (by simp) ?_
  refine AllReady.cons (o := ?od4) ?hod4 (fun K hK => ?kd4) ?md4
  case hod4 => (simp only [List.getElem?_toArray, List.getElem?_cons_succ, List.getElem?_cons_zero]; exact rfl)
  case kd4 =>
    go_simp
    refine (rBlock_any A0 n0 c0 key _ (h0w _ (by exact hf0)) hb0).mono ?_
    rintro e Vd4 ⟨Ad4, cd4, rfl, hod4, hvd4⟩
    have hqd4 : U.heap.size ≤ Vd4.heap.size := Nat.le_trans (hf0).size hvd4.size
    have hfd4 : Below U.heap.size U Vd4 := Below.trans (by exact hf0) (hvd4.mono (hf0).size)
    (try dsimp only)
    refine hK _ _ ?_
    clear hK K
    try simp only [Act.put, List.setIfInBounds_toArray, List.set_cons_zero, List.set_cons_succ]
    refine wpAny_ready (rs := [2]) (by kernel_rfl) (by simp) ?_
    refine AllReady.cons (o := ?od5) ?hod5 (fun K hK => ?kd5) ?md5
    case hod5 => (simp only [List.getElem?_toArray, List.getElem?_cons_succ, List.getElem?_cons_zero]; exact rfl)
    case kd5 =>
      go_simp
      refine (with_any Ad4 64 cd4 92 92 rfl (keyB key) _ (hod4.rd) (by omega)).mono ?_
      rintro e Vd5 ⟨Ad5, cd5, rfl, hod5, hvd5⟩
      replace hod5 := hod5.base hqd4
      have hfd5 : Below U.heap.size U Vd5 := Below.trans (by exact hfd4) (hvd5.mono (hfd4).size)
      (try dsimp only)
      refine hK _ _ ?_
      clear hK K
      try simp only [Act.put, List.setIfInBounds_toArray, List.set_cons_zero, List.set_cons_succ]
      refine wpAny_ready (rs := [4]) (by kernel_rfl) (by simp) ?_
      refine AllReady.cons (o := ?od6) ?hod6 (fun K hK => ?kd6) ?md6
      case hod6 => (simp only [List.getElem?_toArray, List.getElem?_cons_succ, List.getElem?_cons_zero]; exact rfl)
      case kd6 =>
        refine anyd_app8 (by rfl) (.tmp 14) (.tmp 15) rfl U.heap.size Ad5 cd5 64 _ (by rfl) (by exact hod5) U.heap.size (some ⟨W4.heap.size, 0, none⟩) 32 32 iT (by rfl) (hiw _ (by exact hfd5)) (by omega) (hfd5).size ?_
        intro Ad6 cd6 Vd6 hod6 hvd6
        have hfd6 : Below U.heap.size U Vd6 := Below.trans (by exact hfd5) hvd6
        refine hK _ _ ?_
        clear hK K
        try simp only [Act.put, List.setIfInBounds_toArray, List.set_cons_zero, List.set_cons_succ]
        refine wpAny_ready (rs := [5]) (by kernel_rfl) (by simp) ?_
        refine AllReady.cons (o := ?od7) ?hod7 (fun K hK => ?kd7) ?md7
        case hod7 => (simp only [List.getElem?_toArray, List.getElem?_cons_succ, List.getElem?_cons_zero]; exact rfl)
        case kd7 =>
          go_simp
          refine (rSum_any Ad6 (64 + 32) cd6 (xorL 92 (keyB key) ++ iT) _ (hod6.rd) (by omega)).mono ?_
          rintro e Vd7 ⟨rfl, hvd7⟩
          rw [← HIT.out, show tagV (xorL 92 (keyB key) ++ shaL (xorL 54 (keyB key) ++ msg)) = tagH key msg from rfl]
          unfold tagH
          have hfd7 : Below U.heap.size U Vd7 := Below.trans (by exact hfd6) (hvd7.mono (hfd6).size)
          (try dsimp only)
          refine hK _ _ ?_
          clear hK K
          try simp only [Act.put, List.setIfInBounds_toArray, List.set_cons_zero, List.set_cons_succ]
          refine wpAny_ready (rs := [6]) (by kernel_rfl) (by simp) ?_
          refine AllReady.cons (o := ?od8) ?hod8 (fun K hK => ?kd8) ?md8
          case hod8 => (simp only [List.getElem?_toArray, List.getElem?_cons_succ, List.getElem?_cons_zero]; exact rfl)
          case kd8 =>
            refine any_store_row (by rfl) 28 _ _ rfl w.heap.size _ (by rfl) (by rfl) _ _ (hzU.later (by exact hfd7)) hsz2 (by simp [zB, hmacL_len]) (by simp [bv, Value.oneCell']) ?_
            refine hK _ _ ?_
            clear hK K
            try simp only [Act.put, List.setIfInBounds_toArray, List.set_cons_zero, List.set_cons_succ]
            refine wpAny_done (by kernel_rfl) ?_ _
            repeat go_step
            refine bodyPost_ret (v := .agg ((hmacL key msg).map bv).toArray) (results_cell_row rfl _ _ w.heap.size _ _ _ _ rfl (setRow_heap Vd7 w.heap.size _ _ _ _ (hzU.later (by exact hfd7))) Tryd.underlying28 rfl hsz2) rfl ⟨rfl, below_setRow (hwU.trans (Below.mono (by exact hfd7) hZU)) (Nat.le_refl _) _⟩
          exact AllReady.nil
        exact AllReady.nil
      exact AllReady.nil
    exact AllReady.nil
  exact AllReady.nil
end Go.Proofs.YtgkfebbifgkkeaaDoor
