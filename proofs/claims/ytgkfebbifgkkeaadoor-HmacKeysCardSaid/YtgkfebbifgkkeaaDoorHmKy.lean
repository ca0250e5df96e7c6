/- HmacKeys: a key of at most 64 bytes and the same with 00 behind make the same tags; a longer one makes those of its sum: the walks. -/
import Derived.Test.YtgkfebbifgkkeaaDoorHmO
set_option linter.unusedVariables false
set_option linter.unusedSimpArgs false
namespace Go.Proofs.YtgkfebbifgkkeaaDoor
open Go Go.RowKit

namespace hmacKeys
set_option maxRecDepth 100000 in
set_option maxHeartbeats 1000000 in
theorem walkVast (A0 A1 : Option Addr) (n0 c0 n1 c1 : Nat) (mo kv : Nat) (w : World) (ht : Tab w) (hv : 2000 < n0 ∨ 4096 < n1) :
    Calls Tryd.prog 4 #[.slice A0 n0 c0, .slice A1 n1 c1, .int .u8 (mo : Int), .int .u16 (kv : Int)] w fun e w' => e = .returned (.bool true) ∧ Below w.heap.size w w' := by
  by_cases h : 2000 < n0
  · have hd : decide ((2000 : Int) < (n0 : Int)) = true := by simp; omega
    go_enter Tryd.func4, Tryd.ntmps4
    go_wp2_with (go_at_call 7; refine (works_any _ ht).mono ?_; rintro e w2 ⟨rfl, hb2⟩)
    go_ret
    exact ⟨rfl, hb2⟩
  · have hd : decide ((2000 : Int) < (n0 : Int)) = false := by simp; omega
    have hd1 : decide ((4096 : Int) < (n1 : Int)) = true := by simp; omega
    go_enter Tryd.func4, Tryd.ntmps4
    go_wp2_with (go_at_call 7; refine (works_any _ ht).mono ?_; rintro e w2 ⟨rfl, hb2⟩)
    go_ret
    exact ⟨rfl, hb2⟩

set_option maxRecDepth 100000 in
set_option maxHeartbeats 4000000 in
theorem walk (A0 A1 : Option Addr) (n0 c0 n1 c1 : Nat) (key msg : List UInt8) (mo kv : Nat) (w : World) (ht : Tab w) (h0 : Rd w w.heap.size 1 A0 n0 (key.map bv)) (k0 : n0 ≤ c0) (h1 : Rd w w.heap.size 1 A1 n1 (msg.map bv)) (k1 : n1 ≤ c1) (hn0 : n0 ≤ 2000) (hn1 : n1 ≤ 4096) (hc1 : c1 ≤ 140737488351232) (hmo : mo < 256) (hkv : kv < 65536) :
    Calls Tryd.prog 4 #[.slice A0 n0 c0, .slice A1 n1 c1, .int .u8 (mo : Int), .int .u16 (kv : Int)] w fun e w' => e = .returned (.bool true) ∧ Below w.heap.size w w' := by
  have hd : decide ((2000 : Int) < (n0 : Int)) = false := by simp; omega
  have hd1 : decide ((4096 : Int) < (n1 : Int)) = false := by simp; omega
  have HT := Lib.hid ht
  have H0 := Lib.hid h0
  have H1 := Lib.hid h1
  have hl0 : key.length = n0 := by simpa using h0.len1
  have hl1 : msg.length = n1 := by simpa using h1.len1
  have HL0 := Lib.hid hl0
  have HL1 := Lib.hid hl1
  clear ht h0 h1 hl0 hl1
  go_enter Tryd.func4, Tryd.ntmps4
  go_wp2_with fail
  refine (hTag_any A0 A1 n0 c0 n1 c1 key msg w H0.out k0 H1.out k1 (by omega) (by omega) HT.out).mono ?_
  rintro e W1 ⟨rfl, hb1⟩
  have hlA := hmacL_len key msg
  have HLA := Lib.hid hlA
  unfold tagH
  obtain ⟨tA, HTA⟩ : ∃ tA, Hid (hmacL key msg = tA) := ⟨_, rfl⟩
  rw [HTA.out] at HLA ⊢
  obtain ⟨W2, hW2, hA2, hbw2, hs2⟩ : ∃ W2, W2 = W1.alloc (.cells (tA.map bv).toArray 28) ∧ Bk W2 W1.heap.size 28 (tA.map bv) ∧ Below w.heap.size w W2 ∧ W2.heap.size = W1.heap.size + 1 :=
    ⟨_, rfl, Bk.new W1 _ _, hb1.alloc hb1.size _, by simp⟩
  have HW2 := Lib.hid hW2
  have HZ1 := hb1.size
  clear hW2 hb1 hlA
  obtain ⟨kk, hkk⟩ : ∃ kk, kk = kv % (n1 + 1) := ⟨_, rfl⟩
  have hk1 : kk ≤ n1 := by have := Nat.mod_lt kv (show 0 < n1 + 1 by omega); omega
  have etm : (kv : Int).tmod ((n1 : Int) + 1) = (kk : Int) := by
    rw [Int.tmod_eq_emod_of_nonneg (by omega), hkk]
    simp
  have etm2 : (kv : Int) % ((n1 : Int) + 1) = (kk : Int) := by
    rw [hkk]
    simp
  have hkv0 : 0 ≤ (kv : Int) := by omega
  have hkv1 : (kv : Int) < 65536 := by omega
  have hkc : kk ≤ c1 := by omega
  have hkci : (kk : Int) ≤ (c1 : Int) := by omega
  clear hkk
  go_wp2_with (refine wpList_store_new rfl 28 _ _ rfl W1 _ _ rfl rfl (tagSz _ HLA.out) (tag32 _ HLA.out) (bvOne _) ?_; rw [← HW2.out])
  refine (newMac_any A0 n0 c0 key W2 ((H0.out.below hbw2).more hbw2.size) k0 (by omega) (HT.out.below hbw2)).mono ?_
  rintro e W3 ⟨g, rfl, hg, hm3, hb3⟩
  have hA3 := hA2.later hb3
  have hbw3 := hbw2.trans (hb3.mono hbw2.size)
  have HZ3 := hbw3.size
  have HA3 := Lib.hid hA3
  have HM3 := Lib.hid hm3
  have HBW3 := Lib.hid hbw3
  clear hA2 hbw2 hb3 hA3 hm3 hbw3 hg hs2
  go_wp2_with fail
  have hrg : ∀ (W : World), Below W3.heap.size W3 W → W.rangeAt W1.heap.size 0 (tA.map bv) := fun W h j v hv => by
    rw [Nat.zero_add, (HA3.out.later h).cell]
    exact hv
  have hsl : (Tryd.prog.info? 28).map (·.size) = some (tA.map bv).length := by rw [← HTA.out]; exact tagLen _ _
  have HSL := Lib.hid hsl
  have h1w : ∀ (W : World), Below W3.heap.size W3 W → Rd W W.heap.size 1 A1 n1 (msg.map bv) := fun W h => (H1.out.below (HBW3.out.trans (h.mono HZ3))).more (Nat.le_trans HZ3 h.size)
  have htw : ∀ (W : World), Below W3.heap.size W3 W → Tab W := fun W h => HT.out.below (HBW3.out.trans (h.mono HZ3))
  have eqA : ∀ W : World, (Op.equalIn 10000 28 (.agg (tA.map bv).toArray) (.agg (tA.map bv).toArray)).run Tryd.prog W = .ok true W := fun W => by rw [← HTA.out]; exact eqH _ _ _
  clear hsl
  refine wp_region_any (by kernel_rfl) ?_
  try (change wpAny _ _ _ _ _ _ _ (World.drew _))
  refine wpAny_meet (b := ?ad1) (fun V => Below W3.heap.size W3 V) ?cd1 ?rd1
  case rd1 =>
    intro hEnd
    have hf0 : Below W3.heap.size W3 W3.drew := belowDrewN (Below.refl _ _) 1
    refine wpAny_take (i := 0) (oi := ?oid2) (v := ?vd2) ?hod2 (by kernel_rfl) ?hfd2 ?hrd2 ?hQd2 ?hyd2 ?restd2
    case hod2 => (simp only [List.getElem?_toArray, List.getElem?_cons_succ, List.getElem?_cons_zero]; exact rfl)
    case hfd2 => kernel_rfl
    case hrd2 => kernel_rfl
    case hQd2 => exact fun _ _ _ h => h
    case hyd2 =>
      refine Or.inl ⟨by rfl, ?_⟩
      intro w
      go_simp
      (try with_reducible rfl)
    try simp only [Act.put, List.setIfInBounds_toArray, List.set_cons_zero, List.set_cons_succ]
    refine wpAny_take (i := 1) (oi := ?oid3) (v := ?vd3) ?hod3 (by kernel_rfl) ?hfd3 ?hrd3 ?hQd3 ?hyd3 ?restd3
    case hod3 => (simp only [List.getElem?_toArray, List.getElem?_cons_succ, List.getElem?_cons_zero]; exact rfl)
    case hfd3 => kernel_rfl
    case hrd3 => kernel_rfl
    case hQd3 => exact fun _ _ _ h => h
    case hyd3 =>
      refine Or.inl ⟨by rfl, ?_⟩
      intro w
      go_simp
      (try with_reducible rfl)
    try simp only [Act.put, List.setIfInBounds_toArray, List.set_cons_zero, List.set_cons_succ]
    refine wpAny_take (i := 2) (oi := ?oid4) (v := ?vd4) ?hod4 (by kernel_rfl) ?hfd4 ?hrd4 ?hQd4 ?hyd4 ?restd4
    case hod4 => (simp only [List.getElem?_toArray, List.getElem?_cons_succ, List.getElem?_cons_zero]; exact rfl)
    case hfd4 => kernel_rfl
    case hrd4 => kernel_rfl
    case hQd4 => exact fun _ _ _ h => h
    case hyd4 =>
      refine Or.inl ⟨by rfl, ?_⟩
      intro w
      go_simp
      (try with_reducible rfl)
    try simp only [Act.put, List.setIfInBounds_toArray, List.set_cons_zero, List.set_cons_succ]
    refine wpAny_take (i := 3) (oi := ?oid5) (v := ?vd5) ?hod5 (by kernel_rfl) ?hfd5 ?hrd5 ?hQd5 ?hyd5 ?restd5
    case hod5 => (simp only [List.getElem?_toArray, List.getElem?_cons_succ, List.getElem?_cons_zero]; exact rfl)
    case hfd5 => kernel_rfl
    case hrd5 => kernel_rfl
    case hQd5 => exact fun _ _ _ h => h
    case hyd5 =>
      refine Or.inl ⟨by rfl, ?_⟩
      intro w
      go_simp
      (try with_reducible rfl)
    try simp only [Act.put, List.setIfInBounds_toArray, List.set_cons_zero, List.set_cons_succ]
    refine wpAny_take (i := 4) (oi := ?oid6) (v := ?vd6) ?hod6 (by kernel_rfl) ?hfd6 ?hrd6 ?hQd6 ?hyd6 ?restd6
    case hod6 => (simp only [List.getElem?_toArray, List.getElem?_cons_succ, List.getElem?_cons_zero]; exact rfl)
    case hfd6 => kernel_rfl
    case hrd6 => kernel_rfl
    case hQd6 => exact fun _ _ _ h => h
    case hyd6 =>
      refine Or.inl ⟨by rfl, ?_⟩
      intro w
      go_simp
      (try with_reducible rfl)
    try simp only [Act.put, List.setIfInBounds_toArray, List.set_cons_zero, List.set_cons_succ]
    refine wpAny_take (i := 5) (oi := ?oid7) (v := ?vd7) ?hod7 (by kernel_rfl) ?hfd7 ?hrd7 ?hQd7 ?hyd7 ?restd7
    case hod7 => (simp only [List.getElem?_toArray, List.getElem?_cons_succ, List.getElem?_cons_zero]; exact rfl)
    case hfd7 => kernel_rfl
    case hrd7 => kernel_rfl
    case hQd7 => exact fun _ _ _ h => h
    case hyd7 =>
      refine Or.inl ⟨by rfl, ?_⟩
      intro w
      go_simp
      (try with_reducible rfl)
    try simp only [Act.put, List.setIfInBounds_toArray, List.set_cons_zero, List.set_cons_succ]
    refine wpAny_take (i := 6) (oi := ?oid8) (v := ?vd8) ?hod8 (by kernel_rfl) ?hfd8 ?hrd8 ?hQd8 ?hyd8 ?restd8
    case hod8 => (simp only [List.getElem?_toArray, List.getElem?_cons_succ, List.getElem?_cons_zero]; exact rfl)
    case hfd8 => kernel_rfl
    case hrd8 => kernel_rfl
    case hQd8 => exact fun _ _ _ h => h
    case hyd8 =>
      refine Or.inl ⟨by rfl, ?_⟩
      intro w
      go_simp
      (try with_reducible rfl)
    try simp only [Act.put, List.setIfInBounds_toArray, List.set_cons_zero, List.set_cons_succ]
    refine wpAny_take (i := 7) (oi := ?oid9) (v := ?vd9) ?hod9 (by kernel_rfl) ?hfd9 ?hrd9 ?hQd9 ?hyd9 ?restd9
    case hod9 => (simp only [List.getElem?_toArray, List.getElem?_cons_succ, List.getElem?_cons_zero]; exact rfl)
    case hfd9 => kernel_rfl
    case hrd9 => kernel_rfl
    case hQd9 => exact fun _ _ _ h => h
    case hyd9 =>
      refine Or.inl ⟨by rfl, ?_⟩
      intro w
      go_simp
      (try with_reducible rfl)
    try simp only [Act.put, List.setIfInBounds_toArray, List.set_cons_zero, List.set_cons_succ]
    refine wpAny_take (i := 8) (oi := ?oid10) (v := ?vd10) ?hod10 (by kernel_rfl) ?hfd10 ?hrd10 ?hQd10 ?hyd10 ?restd10
    case hod10 => (simp only [List.getElem?_toArray, List.getElem?_cons_succ, List.getElem?_cons_zero]; exact rfl)
    case hfd10 => kernel_rfl
    case hrd10 => kernel_rfl
    case hQd10 => exact fun _ _ _ h => h
    case hyd10 =>
      refine Or.inl ⟨by rfl, ?_⟩
      intro w
      go_simp
      (try with_reducible rfl)
    try simp only [Act.put, List.setIfInBounds_toArray, List.set_cons_zero, List.set_cons_succ]
    refine wpAny_take (i := 9) (oi := ?oid11) (v := ?vd11) ?hod11 (by kernel_rfl) ?hfd11 ?hrd11 ?hQd11 ?hyd11 ?restd11
    case hod11 => (simp only [List.getElem?_toArray, List.getElem?_cons_succ, List.getElem?_cons_zero]; exact rfl)
    case hfd11 => kernel_rfl
    case hrd11 => kernel_rfl
    case hQd11 => exact fun _ _ _ h => h
    case hyd11 =>
      refine Or.inl ⟨by rfl, ?_⟩
      intro w
      go_simp
      (try with_reducible rfl)
    try simp only [Act.put, List.setIfInBounds_toArray, List.set_cons_zero, List.set_cons_succ]
    refine wpAny_ready (rs := [10, 12]) (by kernel_rfl) (by simp) ?_
    refine AllReady.cons (o := ?od12) ?hod12 (fun K hK => ?kd12) ?md12
    case hod12 => (simp only [List.getElem?_toArray, List.getElem?_cons_succ, List.getElem?_cons_zero]; exact rfl)
    case kd12 =>
      refine any_lit2 (by rfl) (.tmp 40) (.tmp 43) rfl _ _ _ _ _ _ (msg.take kk) (msg.drop kk) (by rfl) (by rfl) (rd_take (h1w _ (by exact hf0)) kk (by omega)) (by omega) (rd_drop (h1w _ (by exact hf0)) kk (by omega) c1 k1) (by omega) ?_
      intro Vd12 hrd hbd
      have hfd12 : Below W3.heap.size W3 Vd12 := Below.trans (by exact hf0) (hbd.mono (by have := (hf0).size; exact this))
      refine hK _ _ ?_
      clear hK K
      try simp only [Act.put, List.setIfInBounds_toArray, List.set_cons_zero, List.set_cons_succ]
      refine wpAny_ready (rs := [11, 12]) (by kernel_rfl) (by simp) ?_
      refine AllReady.cons (o := ?od13) ?hod13 (fun K hK => ?kd13) ?md13
      case hod13 => (simp only [List.getElem?_toArray, List.getElem?_cons_succ, List.getElem?_cons_zero]; exact rfl)
      case kd13 =>
        go_simp
        refine (macTag_any g key _ 2 2 _ [msg.take kk, msg.drop kk] _ (HM3.out.later (by exact hfd12)) (by exact hrd) (by have := HL1.out; simp; omega) (by omega) (htw _ (by exact hfd12))).mono ?_
        rintro e Vd13 ⟨rfl, hvd13⟩
        rw [flat2, List.take_append_drop]
        unfold tagH
        rw [HTA.out]
        have hfd13 : Below W3.heap.size W3 Vd13 := Below.trans (by exact hfd12) (hvd13.mono (hfd12).size)
        (try dsimp only)
        refine hK _ _ ?_
        clear hK K
        try simp only [Act.put, List.setIfInBounds_toArray, List.set_cons_zero, List.set_cons_succ]
        refine wpAny_ready (rs := [12]) (by kernel_rfl) (by simp) ?_
        refine AllReady.cons (o := ?od14) ?hod14 (fun K hK => ?kd14) ?md14
        case hod14 => (simp only [List.getElem?_toArray, List.getElem?_cons_succ, List.getElem?_cons_zero]; exact rfl)
        case kd14 =>
          refine any_load_mid (by rfl) 28 (.tmp 9) rfl W1.heap.size 0 rfl (tA.map bv) _ (hrg _ (by exact hfd13)) Tryd.underlying28 rfl HSL.out ?_
          refine hK _ _ ?_
          clear hK K
          try simp only [Act.put, List.setIfInBounds_toArray, List.set_cons_zero, List.set_cons_succ]
          refine wpAny_take (i := 13) (oi := ?oid15) (v := ?vd15) ?hod15 (by kernel_rfl) ?hfd15 ?hrd15 ?hQd15 ?hyd15 ?restd15
          case hod15 => (simp only [List.getElem?_toArray, List.getElem?_cons_succ, List.getElem?_cons_zero]; exact rfl)
          case hfd15 => kernel_rfl
          case hrd15 => kernel_rfl
          case hQd15 => exact fun _ _ _ h => h
          case hyd15 =>
            refine Or.inl ⟨by rfl, ?_⟩
            intro w
            go_simp
            (try with_reducible rfl)
          try simp only [Act.put, List.setIfInBounds_toArray, List.set_cons_zero, List.set_cons_succ]
          refine wpAny_take (i := 14) (oi := ?oid16) (v := ?vd16) ?hod16 (by kernel_rfl) ?hfd16 ?hrd16 ?hQd16 ?hyd16 ?restd16
          case hod16 => (simp only [List.getElem?_toArray, List.getElem?_cons_succ, List.getElem?_cons_zero]; exact rfl)
          case hfd16 => kernel_rfl
          case hrd16 => kernel_rfl
          case hQd16 => exact fun _ _ _ h => h
          case hyd16 =>
            refine Or.inl ⟨by rfl, ?_⟩
            intro w
            go_simp
            (try with_reducible rfl)
          try simp only [Act.put, List.setIfInBounds_toArray, List.set_cons_zero, List.set_cons_succ]
          exact wpAny_done (by kernel_rfl) (hEnd _ hfd13) _
        exact AllReady.nil
      refine AllReady.cons (o := ?od17) ?hod17 (fun K hK => ?kd17) ?md17
      case hod17 => (simp only [List.getElem?_toArray, List.getElem?_cons_succ, List.getElem?_cons_zero]; exact rfl)
      case kd17 =>
        refine any_load_mid (by rfl) 28 (.tmp 9) rfl W1.heap.size 0 rfl (tA.map bv) _ (hrg _ (by exact hfd12)) Tryd.underlying28 rfl HSL.out ?_
        refine hK _ _ ?_
        clear hK K
        try simp only [Act.put, List.setIfInBounds_toArray, List.set_cons_zero, List.set_cons_succ]
        refine wpAny_ready (rs := [11]) (by kernel_rfl) (by simp) ?_
        refine AllReady.cons (o := ?od18) ?hod18 (fun K hK => ?kd18) ?md18
        case hod18 => (simp only [List.getElem?_toArray, List.getElem?_cons_succ, List.getElem?_cons_zero]; exact rfl)
        case kd18 =>
          go_simp
          refine (macTag_any g key _ 2 2 _ [msg.take kk, msg.drop kk] _ (HM3.out.later (by exact hfd12)) (by exact hrd) (by have := HL1.out; simp; omega) (by omega) (htw _ (by exact hfd12))).mono ?_
          rintro e Vd18 ⟨rfl, hvd18⟩
          rw [flat2, List.take_append_drop]
          unfold tagH
          rw [HTA.out]
          have hfd18 : Below W3.heap.size W3 Vd18 := Below.trans (by exact hfd12) (hvd18.mono (hfd12).size)
          (try dsimp only)
          refine hK _ _ ?_
          clear hK K
          try simp only [Act.put, List.setIfInBounds_toArray, List.set_cons_zero, List.set_cons_succ]
          refine wpAny_take (i := 13) (oi := ?oid19) (v := ?vd19) ?hod19 (by kernel_rfl) ?hfd19 ?hrd19 ?hQd19 ?hyd19 ?restd19
          case hod19 => (simp only [List.getElem?_toArray, List.getElem?_cons_succ, List.getElem?_cons_zero]; exact rfl)
          case hfd19 => kernel_rfl
          case hrd19 => kernel_rfl
          case hQd19 => exact fun _ _ _ h => h
          case hyd19 =>
            refine Or.inl ⟨by rfl, ?_⟩
            intro w
            go_simp
            (try with_reducible rfl)
          try simp only [Act.put, List.setIfInBounds_toArray, List.set_cons_zero, List.set_cons_succ]
          refine wpAny_take (i := 14) (oi := ?oid20) (v := ?vd20) ?hod20 (by kernel_rfl) ?hfd20 ?hrd20 ?hQd20 ?hyd20 ?restd20
          case hod20 => (simp only [List.getElem?_toArray, List.getElem?_cons_succ, List.getElem?_cons_zero]; exact rfl)
          case hfd20 => kernel_rfl
          case hrd20 => kernel_rfl
          case hQd20 => exact fun _ _ _ h => h
          case hyd20 =>
            refine Or.inl ⟨by rfl, ?_⟩
            intro w
            go_simp
            (try with_reducible rfl)
          try simp only [Act.put, List.setIfInBounds_toArray, List.set_cons_zero, List.set_cons_succ]
          exact wpAny_done (by kernel_rfl) (hEnd _ hfd18) _
        exact AllReady.nil
      exact AllReady.nil
    refine AllReady.cons (o := ?od21) ?hod21 (fun K hK => ?kd21) ?md21
    case hod21 => (simp only [List.getElem?_toArray, List.getElem?_cons_succ, List.getElem?_cons_zero]; exact rfl)
    case kd21 =>
      refine any_load_mid (by rfl) 28 (.tmp 9) rfl W1.heap.size 0 rfl (tA.map bv) _ (hrg _ (by exact hf0)) Tryd.underlying28 rfl HSL.out ?_
      refine hK _ _ ?_
      clear hK K
      try simp only [Act.put, List.setIfInBounds_toArray, List.set_cons_zero, List.set_cons_succ]
      refine wpAny_ready (rs := [10]) (by kernel_rfl) (by simp) ?_
      refine AllReady.cons (o := ?od22) ?hod22 (fun K hK => ?kd22) ?md22
      case hod22 => (simp only [List.getElem?_toArray, List.getElem?_cons_succ, List.getElem?_cons_zero]; exact rfl)
      case kd22 =>
        refine any_lit2 (by rfl) (.tmp 40) (.tmp 43) rfl _ _ _ _ _ _ (msg.take kk) (msg.drop kk) (by rfl) (by rfl) (rd_take (h1w _ (by exact hf0)) kk (by omega)) (by omega) (rd_drop (h1w _ (by exact hf0)) kk (by omega) c1 k1) (by omega) ?_
        intro Vd22 hrd hbd
        have hfd22 : Below W3.heap.size W3 Vd22 := Below.trans (by exact hf0) (hbd.mono (by have := (hf0).size; exact this))
        refine hK _ _ ?_
        clear hK K
        try simp only [Act.put, List.setIfInBounds_toArray, List.set_cons_zero, List.set_cons_succ]
        refine wpAny_ready (rs := [11]) (by kernel_rfl) (by simp) ?_
        refine AllReady.cons (o := ?od23) ?hod23 (fun K hK => ?kd23) ?md23
        case hod23 => (simp only [List.getElem?_toArray, List.getElem?_cons_succ, List.getElem?_cons_zero]; exact rfl)
        case kd23 =>
          go_simp
          refine (macTag_any g key _ 2 2 _ [msg.take kk, msg.drop kk] _ (HM3.out.later (by exact hfd22)) (by exact hrd) (by have := HL1.out; simp; omega) (by omega) (htw _ (by exact hfd22))).mono ?_
          rintro e Vd23 ⟨rfl, hvd23⟩
          rw [flat2, List.take_append_drop]
          unfold tagH
          rw [HTA.out]
          have hfd23 : Below W3.heap.size W3 Vd23 := Below.trans (by exact hfd22) (hvd23.mono (hfd22).size)
          (try dsimp only)
          refine hK _ _ ?_
          clear hK K
          try simp only [Act.put, List.setIfInBounds_toArray, List.set_cons_zero, List.set_cons_succ]
          refine wpAny_take (i := 13) (oi := ?oid24) (v := ?vd24) ?hod24 (by kernel_rfl) ?hfd24 ?hrd24 ?hQd24 ?hyd24 ?restd24
          case hod24 => (simp only [List.getElem?_toArray, List.getElem?_cons_succ, List.getElem?_cons_zero]; exact rfl)
          case hfd24 => kernel_rfl
          case hrd24 => kernel_rfl
          case hQd24 => exact fun _ _ _ h => h
          case hyd24 =>
            refine Or.inl ⟨by rfl, ?_⟩
            intro w
            go_simp
            (try with_reducible rfl)
          try simp only [Act.put, List.setIfInBounds_toArray, List.set_cons_zero, List.set_cons_succ]
          refine wpAny_take (i := 14) (oi := ?oid25) (v := ?vd25) ?hod25 (by kernel_rfl) ?hfd25 ?hrd25 ?hQd25 ?hyd25 ?restd25
          case hod25 => (simp only [List.getElem?_toArray, List.getElem?_cons_succ, List.getElem?_cons_zero]; exact rfl)
          case hfd25 => kernel_rfl
          case hrd25 => kernel_rfl
          case hQd25 => exact fun _ _ _ h => h
          case hyd25 =>
            refine Or.inl ⟨by rfl, ?_⟩
            intro w
            go_simp
            (try with_reducible rfl)
          try simp only [Act.put, List.setIfInBounds_toArray, List.set_cons_zero, List.set_cons_succ]
          exact wpAny_done (by kernel_rfl) (hEnd _ hfd23) _
        exact AllReady.nil
      exact AllReady.nil
    exact AllReady.nil
  case cd1 =>
    intro V hV
    by_cases hlt : 64 < n0
    · have hd64 : decide ((64 : Int) < (n0 : Int)) = true := by simp; omega
      repeat go_step
      refine (rSum_any A0 n0 c0 key V ((H0.out.below (HBW3.out.trans (hV.mono HZ3))).more (Nat.le_trans HZ3 hV.size)) (by omega)).mono ?_
      rintro e V2 ⟨rfl, hb2⟩
      obtain ⟨U, hU, hsU, hUB⟩ : ∃ U, U = V2.alloc (.cells ((shaL key).map bv).toArray 28) ∧ Bk U V2.heap.size 28 ((shaL key).map bv) ∧ Below W3.heap.size W3 U :=
        ⟨_, rfl, Bk.new V2 _ _, (hV.trans (hb2.mono hV.size)).alloc (Nat.le_trans hV.size hb2.size) _⟩
      have HU := Lib.hid hU
      clear hU hb2
      unfold tagV
      dsimp only
      repeat (first | (refine wpList_store_new rfl 28 _ _ rfl V2 _ _ rfl rfl (tagSz _ (shaL_len key)) (tag32 _ (shaL_len key)) (bvOne _) ?_; rw [← HU.out]) | go_step)
      have hVU : ∀ W : World, Below U.heap.size U W → Below W3.heap.size W3 W := fun W h => hUB.trans (h.mono hUB.size)
      have hsr : ∀ W : World, Below U.heap.size U W → Rd W W.heap.size 1 (some ⟨V2.heap.size, 0, none⟩) 32 ((shaL key).map bv) := fun W h => by
        have h2 := (hsU.later h).rd 32 (by simp [shaL_len])
        rwa [List.take_of_length_le (by simp [shaL_len])] at h2
      refine wp_region_any (by kernel_rfl) ?_
      try (change wpAny _ _ _ _ _ _ _ (World.drew _))
      refine wpAny_meet (b := ?ad26) (fun V => Below U.heap.size U V) ?cd26 ?rd26
      case rd26 =>
        intro hEnd
        have hf0 : Below U.heap.size U U.drew := belowDrewN (Below.refl _ _) 1
        refine wpAny_take (i := 0) (oi := ?oid27) (v := ?vd27) ?hod27 (by kernel_rfl) ?hfd27 ?hrd27 ?hQd27 ?hyd27 ?restd27
        case hod27 => (simp only [List.getElem?_toArray, List.getElem?_cons_succ, List.getElem?_cons_zero]; exact rfl)
        case hfd27 => kernel_rfl
        case hrd27 => kernel_rfl
        case hQd27 => exact fun _ _ _ h => h
        case hyd27 =>
          refine Or.inl ⟨by rfl, ?_⟩
          intro w
          go_simp
          (try with_reducible rfl)
        try simp only [Act.put, List.setIfInBounds_toArray, List.set_cons_zero, List.set_cons_succ]
        refine wpAny_take (i := 1) (oi := ?oid28) (v := ?vd28) ?hod28 (by kernel_rfl) ?hfd28 ?hrd28 ?hQd28 ?hyd28 ?restd28
        case hod28 => (simp only [List.getElem?_toArray, List.getElem?_cons_succ, List.getElem?_cons_zero]; exact rfl)
        case hfd28 => kernel_rfl
        case hrd28 => kernel_rfl
        case hQd28 => exact fun _ _ _ h => h
        case hyd28 =>
          refine Or.inl ⟨by rfl, ?_⟩
          intro w
          go_simp
          (try with_reducible rfl)
        try simp only [Act.put, List.setIfInBounds_toArray, List.set_cons_zero, List.set_cons_succ]
        refine wpAny_ready (rs := [2, 3]) (by kernel_rfl) (by simp) ?_
        refine AllReady.cons (o := ?od29) ?hod29 (fun K hK => ?kd29) ?md29
        case hod29 => (simp only [List.getElem?_toArray, List.getElem?_cons_succ, List.getElem?_cons_zero]; exact rfl)
        case kd29 =>
          go_simp
          refine (hTag_any (some ⟨V2.heap.size, 0, none⟩) A1 32 32 n1 c1 (shaL key) msg _ (hsr _ (by exact hf0)) (by omega) (h1w _ (hVU _ (by exact hf0))) k1 (by omega) (by omega) (htw _ (hVU _ (by exact hf0)))).mono ?_
          rintro e Vd29 ⟨rfl, hvd29⟩
          unfold tagH
          rw [hmacL_sum key msg (by have := HL0.out; omega), HTA.out]
          have hfd29 : Below U.heap.size U Vd29 := Below.trans (by exact hf0) (hvd29.mono (hf0).size)
          (try dsimp only)
          refine hK _ _ ?_
          clear hK K
          try simp only [Act.put, List.setIfInBounds_toArray, List.set_cons_zero, List.set_cons_succ]
          refine wpAny_ready (rs := [3]) (by kernel_rfl) (by simp) ?_
          refine AllReady.cons (o := ?od30) ?hod30 (fun K hK => ?kd30) ?md30
          case hod30 => (simp only [List.getElem?_toArray, List.getElem?_cons_succ, List.getElem?_cons_zero]; exact rfl)
          case kd30 =>
            refine any_load_mid (by rfl) 28 (.tmp 9) rfl W1.heap.size 0 rfl (tA.map bv) _ (hrg _ (by exact hVU _ hfd29)) Tryd.underlying28 rfl HSL.out ?_
            refine hK _ _ ?_
            clear hK K
            try simp only [Act.put, List.setIfInBounds_toArray, List.set_cons_zero, List.set_cons_succ]
            refine wpAny_take (i := 4) (oi := ?oid31) (v := ?vd31) ?hod31 (by kernel_rfl) ?hfd31 ?hrd31 ?hQd31 ?hyd31 ?restd31
            case hod31 => (simp only [List.getElem?_toArray, List.getElem?_cons_succ, List.getElem?_cons_zero]; exact rfl)
            case hfd31 => kernel_rfl
            case hrd31 => kernel_rfl
            case hQd31 => exact fun _ _ _ h => h
            case hyd31 =>
              refine Or.inl ⟨by rfl, ?_⟩
              intro w
              go_simp
              (try with_reducible rfl)
            try simp only [Act.put, List.setIfInBounds_toArray, List.set_cons_zero, List.set_cons_succ]
            refine wpAny_take (i := 5) (oi := ?oid32) (v := ?vd32) ?hod32 (by kernel_rfl) ?hfd32 ?hrd32 ?hQd32 ?hyd32 ?restd32
            case hod32 => (simp only [List.getElem?_toArray, List.getElem?_cons_succ, List.getElem?_cons_zero]; exact rfl)
            case hfd32 => kernel_rfl
            case hrd32 => kernel_rfl
            case hQd32 => exact fun _ _ _ h => h
            case hyd32 =>
              refine Or.inl ⟨by rfl, ?_⟩
              intro w
              go_simp
              (try with_reducible rfl)
            try simp only [Act.put, List.setIfInBounds_toArray, List.set_cons_zero, List.set_cons_succ]
            refine wpAny_ready (rs := [6]) (by kernel_rfl) (by simp) ?_
            refine AllReady.cons (o := ?od33) ?hod33 (fun K hK => ?kd33) ?md33
            case hod33 => (simp only [List.getElem?_toArray, List.getElem?_cons_succ, List.getElem?_cons_zero]; exact rfl)
            case kd33 =>
              go_simp
              refine (works_any _ (htw _ (hVU _ (by exact hfd29)))).mono ?_
              rintro e Vd33 ⟨rfl, hvd33⟩
              have hfd33 : Below U.heap.size U Vd33 := Below.trans (by exact hfd29) (hvd33.mono (hfd29).size)
              (try dsimp only)
              refine hK _ _ ?_
              clear hK K
              try simp only [Act.put, List.setIfInBounds_toArray, List.set_cons_zero, List.set_cons_succ]
              refine wpAny_take (i := 7) (oi := ?oid34) (v := ?vd34) ?hod34 (by kernel_rfl) ?hfd34 ?hrd34 ?hQd34 ?hyd34 ?restd34
              case hod34 => (simp only [List.getElem?_toArray, List.getElem?_cons_succ, List.getElem?_cons_zero]; exact rfl)
              case hfd34 => kernel_rfl
              case hrd34 => kernel_rfl
              case hQd34 => exact fun _ _ _ h => h
              case hyd34 =>
                refine Or.inl ⟨by rfl, ?_⟩
                intro w
                go_simp
                (try with_reducible rfl)
              try simp only [Act.put, List.setIfInBounds_toArray, List.set_cons_zero, List.set_cons_succ]
              refine wpAny_take (i := 8) (oi := ?oid35) (v := ?vd35) ?hod35 (by kernel_rfl) ?hfd35 ?hrd35 ?hQd35 ?hyd35 ?restd35
              case hod35 => (simp only [List.getElem?_toArray, List.getElem?_cons_succ, List.getElem?_cons_zero]; exact rfl)
              case hfd35 => kernel_rfl
              case hrd35 => kernel_rfl
              case hQd35 => exact fun _ _ _ h => h
              case hyd35 =>
                refine Or.inl ⟨by rfl, ?_⟩
                intro w
                go_simp
                (try with_reducible rfl)
              try simp only [Act.put, List.setIfInBounds_toArray, List.set_cons_zero, List.set_cons_succ]
              exact wpAny_done (by kernel_rfl) (hEnd _ hfd33) _
            exact AllReady.nil
          exact AllReady.nil
        refine AllReady.cons (o := ?od36) ?hod36 (fun K hK => ?kd36) ?md36
        case hod36 => (simp only [List.getElem?_toArray, List.getElem?_cons_succ, List.getElem?_cons_zero]; exact rfl)
        case kd36 =>
          refine any_load_mid (by rfl) 28 (.tmp 9) rfl W1.heap.size 0 rfl (tA.map bv) _ (hrg _ (by exact hVU _ hf0)) Tryd.underlying28 rfl HSL.out ?_
          refine hK _ _ ?_
          clear hK K
          try simp only [Act.put, List.setIfInBounds_toArray, List.set_cons_zero, List.set_cons_succ]
          refine wpAny_ready (rs := [2]) (by kernel_rfl) (by simp) ?_
          refine AllReady.cons (o := ?od37) ?hod37 (fun K hK => ?kd37) ?md37
          case hod37 => (simp only [List.getElem?_toArray, List.getElem?_cons_succ, List.getElem?_cons_zero]; exact rfl)
          case kd37 =>
            go_simp
            refine (hTag_any (some ⟨V2.heap.size, 0, none⟩) A1 32 32 n1 c1 (shaL key) msg _ (hsr _ (by exact hf0)) (by omega) (h1w _ (hVU _ (by exact hf0))) k1 (by omega) (by omega) (htw _ (hVU _ (by exact hf0)))).mono ?_
            rintro e Vd37 ⟨rfl, hvd37⟩
            unfold tagH
            rw [hmacL_sum key msg (by have := HL0.out; omega), HTA.out]
            have hfd37 : Below U.heap.size U Vd37 := Below.trans (by exact hf0) (hvd37.mono (hf0).size)
            (try dsimp only)
            refine hK _ _ ?_
            clear hK K
            try simp only [Act.put, List.setIfInBounds_toArray, List.set_cons_zero, List.set_cons_succ]
            refine wpAny_take (i := 4) (oi := ?oid38) (v := ?vd38) ?hod38 (by kernel_rfl) ?hfd38 ?hrd38 ?hQd38 ?hyd38 ?restd38
            case hod38 => (simp only [List.getElem?_toArray, List.getElem?_cons_succ, List.getElem?_cons_zero]; exact rfl)
            case hfd38 => kernel_rfl
            case hrd38 => kernel_rfl
            case hQd38 => exact fun _ _ _ h => h
            case hyd38 =>
              refine Or.inl ⟨by rfl, ?_⟩
              intro w
              go_simp
              (try with_reducible rfl)
            try simp only [Act.put, List.setIfInBounds_toArray, List.set_cons_zero, List.set_cons_succ]
            refine wpAny_take (i := 5) (oi := ?oid39) (v := ?vd39) ?hod39 (by kernel_rfl) ?hfd39 ?hrd39 ?hQd39 ?hyd39 ?restd39
            case hod39 => (simp only [List.getElem?_toArray, List.getElem?_cons_succ, List.getElem?_cons_zero]; exact rfl)
            case hfd39 => kernel_rfl
            case hrd39 => kernel_rfl
            case hQd39 => exact fun _ _ _ h => h
            case hyd39 =>
              refine Or.inl ⟨by rfl, ?_⟩
              intro w
              go_simp
              (try with_reducible rfl)
            try simp only [Act.put, List.setIfInBounds_toArray, List.set_cons_zero, List.set_cons_succ]
            refine wpAny_ready (rs := [6]) (by kernel_rfl) (by simp) ?_
            refine AllReady.cons (o := ?od40) ?hod40 (fun K hK => ?kd40) ?md40
            case hod40 => (simp only [List.getElem?_toArray, List.getElem?_cons_succ, List.getElem?_cons_zero]; exact rfl)
            case kd40 =>
              go_simp
              refine (works_any _ (htw _ (hVU _ (by exact hfd37)))).mono ?_
              rintro e Vd40 ⟨rfl, hvd40⟩
              have hfd40 : Below U.heap.size U Vd40 := Below.trans (by exact hfd37) (hvd40.mono (hfd37).size)
              (try dsimp only)
              refine hK _ _ ?_
              clear hK K
              try simp only [Act.put, List.setIfInBounds_toArray, List.set_cons_zero, List.set_cons_succ]
              refine wpAny_take (i := 7) (oi := ?oid41) (v := ?vd41) ?hod41 (by kernel_rfl) ?hfd41 ?hrd41 ?hQd41 ?hyd41 ?restd41
              case hod41 => (simp only [List.getElem?_toArray, List.getElem?_cons_succ, List.getElem?_cons_zero]; exact rfl)
              case hfd41 => kernel_rfl
              case hrd41 => kernel_rfl
              case hQd41 => exact fun _ _ _ h => h
              case hyd41 =>
                refine Or.inl ⟨by rfl, ?_⟩
                intro w
                go_simp
                (try with_reducible rfl)
              try simp only [Act.put, List.setIfInBounds_toArray, List.set_cons_zero, List.set_cons_succ]
              refine wpAny_take (i := 8) (oi := ?oid42) (v := ?vd42) ?hod42 (by kernel_rfl) ?hfd42 ?hrd42 ?hQd42 ?hyd42 ?restd42
              case hod42 => (simp only [List.getElem?_toArray, List.getElem?_cons_succ, List.getElem?_cons_zero]; exact rfl)
              case hfd42 => kernel_rfl
              case hrd42 => kernel_rfl
              case hQd42 => exact fun _ _ _ h => h
              case hyd42 =>
                refine Or.inl ⟨by rfl, ?_⟩
                intro w
                go_simp
                (try with_reducible rfl)
              try simp only [Act.put, List.setIfInBounds_toArray, List.set_cons_zero, List.set_cons_succ]
              exact wpAny_done (by kernel_rfl) (hEnd _ hfd40) _
            exact AllReady.nil
          exact AllReady.nil
        exact AllReady.nil
      case cd26 =>
        intro V5 hV5
        repeat go_step
        go_ret
        exact ⟨rfl, HBW3.out.trans ((hVU _ hV5).mono HZ3)⟩
    · have hd64 : decide ((64 : Int) < (n0 : Int)) = false := by simp; omega
      have h0w : ∀ (W : World), Below W3.heap.size W3 W → Rd W W3.heap.size 1 A0 n0 (key.map bv) := fun W h => (H0.out.below (HBW3.out.trans (h.mono HZ3))).more HZ3
      by_cases hmin : 64 ≤ n0 + mo
      · have hmi : ¬ ((n0 : Int) + (mo : Int) < 64) := by omega
        repeat go_step
        obtain ⟨q, hq⟩ : ∃ q, q = 64 - n0 := ⟨_, rfl⟩
        have hq1 : n0 + q ≤ 64 := by omega
        have hw : IntKind.i64.wrap (64 - (n0 : Int)) = 64 - (n0 : Int) := by rw [IntKind.wrap_i64]; omega
        have hw2 : IntKind.i64.wrap ((n0 : Int) + (mo : Int) - (n0 : Int)) = (n0 : Int) + (mo : Int) - (n0 : Int) := by rw [IntKind.wrap_i64]; omega
        have HQ := Lib.hid hq
        clear hq
        refine wp_region_any (by kernel_rfl) ?_
        try (change wpAny _ _ _ _ _ _ _ (World.drew _))
        have hf0 : Below W3.heap.size W3 V.drew := Below.trans (by exact hV) (belowDrewN (Below.refl _ _) 1)
        refine wpAny_take (i := 1) (oi := ?oid44) (v := ?vd44) ?hod44 (by kernel_rfl) ?hfd44 ?hrd44 ?hQd44 ?hyd44 ?restd44
        case hod44 => (simp only [List.getElem?_toArray, List.getElem?_cons_succ, List.getElem?_cons_zero]; exact rfl)
        case hfd44 => kernel_rfl
        case hrd44 => kernel_rfl
        case hQd44 => exact fun _ _ _ h => h
        case hyd44 =>
          refine Or.inl ⟨by rfl, ?_⟩
          intro w
          go_simp
          (try with_reducible rfl)
        try simp only [Act.put, List.setIfInBounds_toArray, List.set_cons_zero, List.set_cons_succ]
        refine wpAny_take (i := 3) (oi := ?oid45) (v := ?vd45) ?hod45 (by kernel_rfl) ?hfd45 ?hrd45 ?hQd45 ?hyd45 ?restd45
        case hod45 => (simp only [List.getElem?_toArray, List.getElem?_cons_succ, List.getElem?_cons_zero]; exact rfl)
        case hfd45 => kernel_rfl
        case hrd45 => kernel_rfl
        case hQd45 => exact fun _ _ _ h => h
        case hyd45 =>
          refine Or.inl ⟨by rfl, ?_⟩
          intro w
          go_simp
          (try with_reducible rfl)
        try simp only [Act.put, List.setIfInBounds_toArray, List.set_cons_zero, List.set_cons_succ]
        refine wpAny_take (i := 4) (oi := ?oid46) (v := ?vd46) ?hod46 (by kernel_rfl) ?hfd46 ?hrd46 ?hQd46 ?hyd46 ?restd46
        case hod46 => (simp only [List.getElem?_toArray, List.getElem?_cons_succ, List.getElem?_cons_zero]; exact rfl)
        case hfd46 => kernel_rfl
        case hrd46 => kernel_rfl
        case hQd46 => exact fun _ _ _ h => h
        case hyd46 =>
          refine Or.inl ⟨by rfl, ?_⟩
          intro w
          go_simp
          (try with_reducible rfl)
        try simp only [Act.put, List.setIfInBounds_toArray, List.set_cons_zero, List.set_cons_succ]
        refine wpAny_take (i := 5) (oi := ?oid47) (v := ?vd47) ?hod47 (by kernel_rfl) ?hfd47 ?hrd47 ?hQd47 ?hyd47 ?restd47
        case hod47 => (simp only [List.getElem?_toArray, List.getElem?_cons_succ, List.getElem?_cons_zero]; exact rfl)
        case hfd47 => kernel_rfl
        case hrd47 => kernel_rfl
        case hQd47 => exact fun _ _ _ h => h
        case hyd47 =>
          refine Or.inl ⟨by rfl, ?_⟩
          intro w
          go_simp
          (try with_reducible rfl)
        try simp only [Act.put, List.setIfInBounds_toArray, List.set_cons_zero, List.set_cons_succ]
        refine wpAny_take (i := 6) (oi := ?oid48) (v := ?vd48) ?hod48 (by kernel_rfl) ?hfd48 ?hrd48 ?hQd48 ?hyd48 ?restd48
        case hod48 => (simp only [List.getElem?_toArray, List.getElem?_cons_succ, List.getElem?_cons_zero]; exact rfl)
        case hfd48 => kernel_rfl
        case hrd48 => kernel_rfl
        case hQd48 => exact fun _ _ _ h => h
        case hyd48 =>
          refine Or.inl ⟨by rfl, ?_⟩
          intro w
          go_simp
          (try with_reducible rfl)
        try simp only [Act.put, List.setIfInBounds_toArray, List.set_cons_zero, List.set_cons_succ]
        refine wpAny_take (i := 8) (oi := ?oid49) (v := ?vd49) ?hod49 (by kernel_rfl) ?hfd49 ?hrd49 ?hQd49 ?hyd49 ?restd49
        case hod49 => (simp only [List.getElem?_toArray, List.getElem?_cons_succ, List.getElem?_cons_zero]; exact rfl)
        case hfd49 => kernel_rfl
        case hrd49 => kernel_rfl
        case hQd49 => exact fun _ _ _ h => h
        case hyd49 =>
          refine Or.inl ⟨by rfl, ?_⟩
          intro w
          go_simp
          (try with_reducible rfl)
        try simp only [Act.put, List.setIfInBounds_toArray, List.set_cons_zero, List.set_cons_succ]
        refine wpAny_ready (rs := [0, 10]) (by kernel_rfl) (by simp) ?_
        refine AllReady.cons (o := ?od50) ?hod50 (fun K hK => ?kd50) ?md50
        case hod50 => (simp only [List.getElem?_toArray, List.getElem?_cons_succ, List.getElem?_cons_zero]; exact rfl)
        case kd50 =>
          refine any_empty8 (by rfl) rfl W3.heap.size (by have := (hf0).size; exact this) ?_
          intro Vd50 Ad50 cd50 ho hbd
          have hfd50 : Below W3.heap.size W3 Vd50 := Below.trans (by exact hf0) (hbd.mono (hf0).size)
          refine hK _ _ ?_
          clear hK K
          try simp only [Act.put, List.setIfInBounds_toArray, List.set_cons_zero, List.set_cons_succ]
          refine wpAny_ready (rs := [2, 10]) (by kernel_rfl) (by simp) ?_
          refine AllReady.cons (o := ?od51) ?hod51 (fun K hK => ?kd51) ?md51
          case hod51 => (simp only [List.getElem?_toArray, List.getElem?_cons_succ, List.getElem?_cons_zero]; exact rfl)
          case kd51 =>
            refine anyd_app8 (by rfl) (.tmp 68) (.tmp 69) rfl W3.heap.size _ _ 0 [] (by rfl) (by exact ho) W3.heap.size A0 n0 c0 key (by rfl) (h0w _ (by exact hfd50)) (by omega) (hfd50).size ?_
            clear ho
            intro Ad51 cd51 Vd51 ho hbd
            rw [Nat.zero_add, List.nil_append] at ho
            rw [Nat.zero_add]
            have hfd51 : Below W3.heap.size W3 Vd51 := Below.trans (by exact hfd50) hbd
            refine hK _ _ ?_
            clear hK K
            try simp only [Act.put, List.setIfInBounds_toArray, List.set_cons_zero, List.set_cons_succ]
            refine wpAny_ready (rs := [7, 10]) (by kernel_rfl) (by simp) ?_
            refine AllReady.cons (o := ?od52) ?hod52 (fun K hK => ?kd52) ?md52
            case hod52 => (simp only [List.getElem?_toArray, List.getElem?_cons_succ, List.getElem?_cons_zero]; exact rfl)
            case kd52 =>
              refine anyd_zeros8 (by rfl) (.tmp 70) (.tmp 74) rfl W3.heap.size _ _ n0 key (by rfl) (by exact ho) q (by refine congrArg (Value.int .i64) ?_; have := HQ.out; omega) (by omega) (hfd51).size ?_
              clear ho
              intro Ad52 cd52 Vd52 ho hbd
              have hfd52 : Below W3.heap.size W3 Vd52 := Below.trans (by exact hfd51) hbd
              refine hK _ _ ?_
              clear hK K
              try simp only [Act.put, List.setIfInBounds_toArray, List.set_cons_zero, List.set_cons_succ]
              refine wpAny_ready (rs := [9, 10]) (by kernel_rfl) (by simp) ?_
              refine AllReady.cons (o := ?od53) ?hod53 (fun K hK => ?kd53) ?md53
              case hod53 => (simp only [List.getElem?_toArray, List.getElem?_cons_succ, List.getElem?_cons_zero]; exact rfl)
              case kd53 =>
                go_simp
                refine (hTag_any _ A1 (n0 + q) _ n1 c1 (key ++ List.replicate q 0) msg _ (ho.rd) ho.le (h1w _ (by exact hfd52)) k1 (by omega) (by omega) (htw _ (by exact hfd52))).mono ?_
                rintro e Vd53 ⟨rfl, hvd53⟩
                unfold tagH
                rw [hmacL_zeros key msg q (by have := HL0.out; omega), HTA.out]
                have hfd53 : Below W3.heap.size W3 Vd53 := Below.trans (by exact hfd52) (hvd53.mono (hfd52).size)
                (try dsimp only)
                refine hK _ _ ?_
                clear hK K
                try simp only [Act.put, List.setIfInBounds_toArray, List.set_cons_zero, List.set_cons_succ]
                refine wpAny_ready (rs := [10]) (by kernel_rfl) (by simp) ?_
                refine AllReady.cons (o := ?od54) ?hod54 (fun K hK => ?kd54) ?md54
                case hod54 => (simp only [List.getElem?_toArray, List.getElem?_cons_succ, List.getElem?_cons_zero]; exact rfl)
                case kd54 =>
                  refine any_load_mid (by rfl) 28 (.tmp 9) rfl W1.heap.size 0 rfl (tA.map bv) _ (hrg _ (by exact hfd53)) Tryd.underlying28 rfl HSL.out ?_
                  refine hK _ _ ?_
                  clear hK K
                  try simp only [Act.put, List.setIfInBounds_toArray, List.set_cons_zero, List.set_cons_succ]
                  refine wpAny_take (i := 11) (oi := ?oid55) (v := ?vd55) ?hod55 (by kernel_rfl) ?hfd55 ?hrd55 ?hQd55 ?hyd55 ?restd55
                  case hod55 => (simp only [List.getElem?_toArray, List.getElem?_cons_succ, List.getElem?_cons_zero]; exact rfl)
                  case hfd55 => kernel_rfl
                  case hrd55 => kernel_rfl
                  case hQd55 => exact fun _ _ _ h => h
                  case hyd55 =>
                    refine Or.inl ⟨by rfl, ?_⟩
                    intro w
                    go_simp
                    (try with_reducible rfl)
                  try simp only [Act.put, List.setIfInBounds_toArray, List.set_cons_zero, List.set_cons_succ]
                  refine wpAny_take (i := 12) (oi := ?oid56) (v := ?vd56) ?hod56 (by kernel_rfl) ?hfd56 ?hrd56 ?hQd56 ?hyd56 ?restd56
                  case hod56 => (simp only [List.getElem?_toArray, List.getElem?_cons_succ, List.getElem?_cons_zero]; exact rfl)
                  case hfd56 => kernel_rfl
                  case hrd56 => kernel_rfl
                  case hQd56 => exact fun _ _ _ h => h
                  case hyd56 =>
                    refine Or.inl ⟨by rfl, ?_⟩
                    intro w
                    go_simp
                    (try with_reducible rfl)
                  try simp only [Act.put, List.setIfInBounds_toArray, List.set_cons_zero, List.set_cons_succ]
                  refine wpAny_ready (rs := [13]) (by kernel_rfl) (by simp) ?_
                  refine AllReady.cons (o := ?od57) ?hod57 (fun K hK => ?kd57) ?md57
                  case hod57 => (simp only [List.getElem?_toArray, List.getElem?_cons_succ, List.getElem?_cons_zero]; exact rfl)
                  case kd57 =>
                    go_simp
                    refine (works_any _ (htw _ (by exact hfd53))).mono ?_
                    rintro e Vd57 ⟨rfl, hvd57⟩
                    have hfd57 : Below W3.heap.size W3 Vd57 := Below.trans (by exact hfd53) (hvd57.mono (hfd53).size)
                    (try dsimp only)
                    refine hK _ _ ?_
                    clear hK K
                    try simp only [Act.put, List.setIfInBounds_toArray, List.set_cons_zero, List.set_cons_succ]
                    refine wpAny_take (i := 14) (oi := ?oid58) (v := ?vd58) ?hod58 (by kernel_rfl) ?hfd58 ?hrd58 ?hQd58 ?hyd58 ?restd58
                    case hod58 => (simp only [List.getElem?_toArray, List.getElem?_cons_succ, List.getElem?_cons_zero]; exact rfl)
                    case hfd58 => kernel_rfl
                    case hrd58 => kernel_rfl
                    case hQd58 => exact fun _ _ _ h => h
                    case hyd58 =>
                      refine Or.inl ⟨by rfl, ?_⟩
                      intro w
                      go_simp
                      (try with_reducible rfl)
                    try simp only [Act.put, List.setIfInBounds_toArray, List.set_cons_zero, List.set_cons_succ]
                    refine wpAny_take (i := 15) (oi := ?oid59) (v := ?vd59) ?hod59 (by kernel_rfl) ?hfd59 ?hrd59 ?hQd59 ?hyd59 ?restd59
                    case hod59 => (simp only [List.getElem?_toArray, List.getElem?_cons_succ, List.getElem?_cons_zero]; exact rfl)
                    case hfd59 => kernel_rfl
                    case hrd59 => kernel_rfl
                    case hQd59 => exact fun _ _ _ h => h
                    case hyd59 =>
                      refine Or.inl ⟨by rfl, ?_⟩
                      intro w
                      go_simp
                      (try with_reducible rfl)
                    try simp only [Act.put, List.setIfInBounds_toArray, List.set_cons_zero, List.set_cons_succ]
                    refine wpAny_done (by kernel_rfl) ?_ _
                    repeat go_step
                    go_ret
                    exact ⟨rfl, HBW3.out.trans (Below.mono (by exact hfd57) HZ3)⟩
                  exact AllReady.nil
                exact AllReady.nil
              refine AllReady.cons (o := ?od60) ?hod60 (fun K hK => ?kd60) ?md60
              case hod60 => (simp only [List.getElem?_toArray, List.getElem?_cons_succ, List.getElem?_cons_zero]; exact rfl)
              case kd60 =>
                refine any_load_mid (by rfl) 28 (.tmp 9) rfl W1.heap.size 0 rfl (tA.map bv) _ (hrg _ (by exact hfd52)) Tryd.underlying28 rfl HSL.out ?_
                refine hK _ _ ?_
                clear hK K
                try simp only [Act.put, List.setIfInBounds_toArray, List.set_cons_zero, List.set_cons_succ]
                refine wpAny_ready (rs := [9]) (by kernel_rfl) (by simp) ?_
                refine AllReady.cons (o := ?od61) ?hod61 (fun K hK => ?kd61) ?md61
                case hod61 => (simp only [List.getElem?_toArray, List.getElem?_cons_succ, List.getElem?_cons_zero]; exact rfl)
                case kd61 =>
                  go_simp
                  refine (hTag_any _ A1 (n0 + q) _ n1 c1 (key ++ List.replicate q 0) msg _ (ho.rd) ho.le (h1w _ (by exact hfd52)) k1 (by omega) (by omega) (htw _ (by exact hfd52))).mono ?_
                  rintro e Vd61 ⟨rfl, hvd61⟩
                  unfold tagH
                  rw [hmacL_zeros key msg q (by have := HL0.out; omega), HTA.out]
                  have hfd61 : Below W3.heap.size W3 Vd61 := Below.trans (by exact hfd52) (hvd61.mono (hfd52).size)
                  (try dsimp only)
                  refine hK _ _ ?_
                  clear hK K
                  try simp only [Act.put, List.setIfInBounds_toArray, List.set_cons_zero, List.set_cons_succ]
                  refine wpAny_take (i := 11) (oi := ?oid62) (v := ?vd62) ?hod62 (by kernel_rfl) ?hfd62 ?hrd62 ?hQd62 ?hyd62 ?restd62
                  case hod62 => (simp only [List.getElem?_toArray, List.getElem?_cons_succ, List.getElem?_cons_zero]; exact rfl)
                  case hfd62 => kernel_rfl
                  case hrd62 => kernel_rfl
                  case hQd62 => exact fun _ _ _ h => h
                  case hyd62 =>
                    refine Or.inl ⟨by rfl, ?_⟩
                    intro w
                    go_simp
                    (try with_reducible rfl)
                  try simp only [Act.put, List.setIfInBounds_toArray, List.set_cons_zero, List.set_cons_succ]
                  refine wpAny_take (i := 12) (oi := ?oid63) (v := ?vd63) ?hod63 (by kernel_rfl) ?hfd63 ?hrd63 ?hQd63 ?hyd63 ?restd63
                  case hod63 => (simp only [List.getElem?_toArray, List.getElem?_cons_succ, List.getElem?_cons_zero]; exact rfl)
                  case hfd63 => kernel_rfl
                  case hrd63 => kernel_rfl
                  case hQd63 => exact fun _ _ _ h => h
                  case hyd63 =>
                    refine Or.inl ⟨by rfl, ?_⟩
                    intro w
                    go_simp
                    (try with_reducible rfl)
                  try simp only [Act.put, List.setIfInBounds_toArray, List.set_cons_zero, List.set_cons_succ]
                  refine wpAny_ready (rs := [13]) (by kernel_rfl) (by simp) ?_
                  refine AllReady.cons (o := ?od64) ?hod64 (fun K hK => ?kd64) ?md64
                  case hod64 => (simp only [List.getElem?_toArray, List.getElem?_cons_succ, List.getElem?_cons_zero]; exact rfl)
                  case kd64 =>
                    go_simp
                    refine (works_any _ (htw _ (by exact hfd61))).mono ?_
                    rintro e Vd64 ⟨rfl, hvd64⟩
                    have hfd64 : Below W3.heap.size W3 Vd64 := Below.trans (by exact hfd61) (hvd64.mono (hfd61).size)
                    (try dsimp only)
                    refine hK _ _ ?_
                    clear hK K
                    try simp only [Act.put, List.setIfInBounds_toArray, List.set_cons_zero, List.set_cons_succ]
                    refine wpAny_take (i := 14) (oi := ?oid65) (v := ?vd65) ?hod65 (by kernel_rfl) ?hfd65 ?hrd65 ?hQd65 ?hyd65 ?restd65
                    case hod65 => (simp only [List.getElem?_toArray, List.getElem?_cons_succ, List.getElem?_cons_zero]; exact rfl)
                    case hfd65 => kernel_rfl
                    case hrd65 => kernel_rfl
                    case hQd65 => exact fun _ _ _ h => h
                    case hyd65 =>
                      refine Or.inl ⟨by rfl, ?_⟩
                      intro w
                      go_simp
                      (try with_reducible rfl)
                    try simp only [Act.put, List.setIfInBounds_toArray, List.set_cons_zero, List.set_cons_succ]
                    refine wpAny_take (i := 15) (oi := ?oid66) (v := ?vd66) ?hod66 (by kernel_rfl) ?hfd66 ?hrd66 ?hQd66 ?hyd66 ?restd66
                    case hod66 => (simp only [List.getElem?_toArray, List.getElem?_cons_succ, List.getElem?_cons_zero]; exact rfl)
                    case hfd66 => kernel_rfl
                    case hrd66 => kernel_rfl
                    case hQd66 => exact fun _ _ _ h => h
                    case hyd66 =>
                      refine Or.inl ⟨by rfl, ?_⟩
                      intro w
                      go_simp
                      (try with_reducible rfl)
                    try simp only [Act.put, List.setIfInBounds_toArray, List.set_cons_zero, List.set_cons_succ]
                    refine wpAny_done (by kernel_rfl) ?_ _
                    repeat go_step
                    go_ret
                    exact ⟨rfl, HBW3.out.trans (Below.mono (by exact hfd64) HZ3)⟩
                  exact AllReady.nil
                exact AllReady.nil
              exact AllReady.nil
            refine AllReady.cons (o := ?od67) ?hod67 (fun K hK => ?kd67) ?md67
            case hod67 => (simp only [List.getElem?_toArray, List.getElem?_cons_succ, List.getElem?_cons_zero]; exact rfl)
            case kd67 =>
              refine any_load_mid (by rfl) 28 (.tmp 9) rfl W1.heap.size 0 rfl (tA.map bv) _ (hrg _ (by exact hfd51)) Tryd.underlying28 rfl HSL.out ?_
              refine hK _ _ ?_
              clear hK K
              try simp only [Act.put, List.setIfInBounds_toArray, List.set_cons_zero, List.set_cons_succ]
              refine wpAny_ready (rs := [7]) (by kernel_rfl) (by simp) ?_
              refine AllReady.cons (o := ?od68) ?hod68 (fun K hK => ?kd68) ?md68
              case hod68 => (simp only [List.getElem?_toArray, List.getElem?_cons_succ, List.getElem?_cons_zero]; exact rfl)
              case kd68 =>
                refine anyd_zeros8 (by rfl) (.tmp 70) (.tmp 74) rfl W3.heap.size _ _ n0 key (by rfl) (by exact ho) q (by refine congrArg (Value.int .i64) ?_; have := HQ.out; omega) (by omega) (hfd51).size ?_
                clear ho
                intro Ad68 cd68 Vd68 ho hbd
                have hfd68 : Below W3.heap.size W3 Vd68 := Below.trans (by exact hfd51) hbd
                refine hK _ _ ?_
                clear hK K
                try simp only [Act.put, List.setIfInBounds_toArray, List.set_cons_zero, List.set_cons_succ]
                refine wpAny_ready (rs := [9]) (by kernel_rfl) (by simp) ?_
                refine AllReady.cons (o := ?od69) ?hod69 (fun K hK => ?kd69) ?md69
                case hod69 => (simp only [List.getElem?_toArray, List.getElem?_cons_succ, List.getElem?_cons_zero]; exact rfl)
                case kd69 =>
                  go_simp
                  refine (hTag_any _ A1 (n0 + q) _ n1 c1 (key ++ List.replicate q 0) msg _ (ho.rd) ho.le (h1w _ (by exact hfd68)) k1 (by omega) (by omega) (htw _ (by exact hfd68))).mono ?_
                  rintro e Vd69 ⟨rfl, hvd69⟩
                  unfold tagH
                  rw [hmacL_zeros key msg q (by have := HL0.out; omega), HTA.out]
                  have hfd69 : Below W3.heap.size W3 Vd69 := Below.trans (by exact hfd68) (hvd69.mono (hfd68).size)
                  (try dsimp only)
                  refine hK _ _ ?_
                  clear hK K
                  try simp only [Act.put, List.setIfInBounds_toArray, List.set_cons_zero, List.set_cons_succ]
                  refine wpAny_take (i := 11) (oi := ?oid70) (v := ?vd70) ?hod70 (by kernel_rfl) ?hfd70 ?hrd70 ?hQd70 ?hyd70 ?restd70
                  case hod70 => (simp only [List.getElem?_toArray, List.getElem?_cons_succ, List.getElem?_cons_zero]; exact rfl)
                  case hfd70 => kernel_rfl
                  case hrd70 => kernel_rfl
                  case hQd70 => exact fun _ _ _ h => h
                  case hyd70 =>
                    refine Or.inl ⟨by rfl, ?_⟩
                    intro w
                    go_simp
                    (try with_reducible rfl)
                  try simp only [Act.put, List.setIfInBounds_toArray, List.set_cons_zero, List.set_cons_succ]
                  refine wpAny_take (i := 12) (oi := ?oid71) (v := ?vd71) ?hod71 (by kernel_rfl) ?hfd71 ?hrd71 ?hQd71 ?hyd71 ?restd71
                  case hod71 => (simp only [List.getElem?_toArray, List.getElem?_cons_succ, List.getElem?_cons_zero]; exact rfl)
                  case hfd71 => kernel_rfl
                  case hrd71 => kernel_rfl
                  case hQd71 => exact fun _ _ _ h => h
                  case hyd71 =>
                    refine Or.inl ⟨by rfl, ?_⟩
                    intro w
                    go_simp
                    (try with_reducible rfl)
                  try simp only [Act.put, List.setIfInBounds_toArray, List.set_cons_zero, List.set_cons_succ]
                  refine wpAny_ready (rs := [13]) (by kernel_rfl) (by simp) ?_
                  refine AllReady.cons (o := ?od72) ?hod72 (fun K hK => ?kd72) ?md72
                  case hod72 => (simp only [List.getElem?_toArray, List.getElem?_cons_succ, List.getElem?_cons_zero]; exact rfl)
                  case kd72 =>
                    go_simp
                    refine (works_any _ (htw _ (by exact hfd69))).mono ?_
                    rintro e Vd72 ⟨rfl, hvd72⟩
                    have hfd72 : Below W3.heap.size W3 Vd72 := Below.trans (by exact hfd69) (hvd72.mono (hfd69).size)
                    (try dsimp only)
                    refine hK _ _ ?_
                    clear hK K
                    try simp only [Act.put, List.setIfInBounds_toArray, List.set_cons_zero, List.set_cons_succ]
                    refine wpAny_take (i := 14) (oi := ?oid73) (v := ?vd73) ?hod73 (by kernel_rfl) ?hfd73 ?hrd73 ?hQd73 ?hyd73 ?restd73
                    case hod73 => (simp only [List.getElem?_toArray, List.getElem?_cons_succ, List.getElem?_cons_zero]; exact rfl)
                    case hfd73 => kernel_rfl
                    case hrd73 => kernel_rfl
                    case hQd73 => exact fun _ _ _ h => h
                    case hyd73 =>
                      refine Or.inl ⟨by rfl, ?_⟩
                      intro w
                      go_simp
                      (try with_reducible rfl)
                    try simp only [Act.put, List.setIfInBounds_toArray, List.set_cons_zero, List.set_cons_succ]
                    refine wpAny_take (i := 15) (oi := ?oid74) (v := ?vd74) ?hod74 (by kernel_rfl) ?hfd74 ?hrd74 ?hQd74 ?hyd74 ?restd74
                    case hod74 => (simp only [List.getElem?_toArray, List.getElem?_cons_succ, List.getElem?_cons_zero]; exact rfl)
                    case hfd74 => kernel_rfl
                    case hrd74 => kernel_rfl
                    case hQd74 => exact fun _ _ _ h => h
                    case hyd74 =>
                      refine Or.inl ⟨by rfl, ?_⟩
                      intro w
                      go_simp
                      (try with_reducible rfl)
                    try simp only [Act.put, List.setIfInBounds_toArray, List.set_cons_zero, List.set_cons_succ]
                    refine wpAny_done (by kernel_rfl) ?_ _
                    repeat go_step
                    go_ret
                    exact ⟨rfl, HBW3.out.trans (Below.mono (by exact hfd72) HZ3)⟩
                  exact AllReady.nil
                exact AllReady.nil
              exact AllReady.nil
            exact AllReady.nil
          refine AllReady.cons (o := ?od75) ?hod75 (fun K hK => ?kd75) ?md75
          case hod75 => (simp only [List.getElem?_toArray, List.getElem?_cons_succ, List.getElem?_cons_zero]; exact rfl)
          case kd75 =>
            refine any_load_mid (by rfl) 28 (.tmp 9) rfl W1.heap.size 0 rfl (tA.map bv) _ (hrg _ (by exact hfd50)) Tryd.underlying28 rfl HSL.out ?_
            refine hK _ _ ?_
            clear hK K
            try simp only [Act.put, List.setIfInBounds_toArray, List.set_cons_zero, List.set_cons_succ]
            refine wpAny_ready (rs := [2]) (by kernel_rfl) (by simp) ?_
            refine AllReady.cons (o := ?od76) ?hod76 (fun K hK => ?kd76) ?md76
            case hod76 => (simp only [List.getElem?_toArray, List.getElem?_cons_succ, List.getElem?_cons_zero]; exact rfl)
            case kd76 =>
              refine anyd_app8 (by rfl) (.tmp 68) (.tmp 69) rfl W3.heap.size _ _ 0 [] (by rfl) (by exact ho) W3.heap.size A0 n0 c0 key (by rfl) (h0w _ (by exact hfd50)) (by omega) (hfd50).size ?_
              clear ho
              intro Ad76 cd76 Vd76 ho hbd
              rw [Nat.zero_add, List.nil_append] at ho
              rw [Nat.zero_add]
              have hfd76 : Below W3.heap.size W3 Vd76 := Below.trans (by exact hfd50) hbd
              refine hK _ _ ?_
              clear hK K
              try simp only [Act.put, List.setIfInBounds_toArray, List.set_cons_zero, List.set_cons_succ]
              refine wpAny_ready (rs := [7]) (by kernel_rfl) (by simp) ?_
              refine AllReady.cons (o := ?od77) ?hod77 (fun K hK => ?kd77) ?md77
              case hod77 => (simp only [List.getElem?_toArray, List.getElem?_cons_succ, List.getElem?_cons_zero]; exact rfl)
              case kd77 =>
                refine anyd_zeros8 (by rfl) (.tmp 70) (.tmp 74) rfl W3.heap.size _ _ n0 key (by rfl) (by exact ho) q (by refine congrArg (Value.int .i64) ?_; have := HQ.out; omega) (by omega) (hfd76).size ?_
                clear ho
                intro Ad77 cd77 Vd77 ho hbd
                have hfd77 : Below W3.heap.size W3 Vd77 := Below.trans (by exact hfd76) hbd
                refine hK _ _ ?_
                clear hK K
                try simp only [Act.put, List.setIfInBounds_toArray, List.set_cons_zero, List.set_cons_succ]
                refine wpAny_ready (rs := [9]) (by kernel_rfl) (by simp) ?_
                refine AllReady.cons (o := ?od78) ?hod78 (fun K hK => ?kd78) ?md78
                case hod78 => (simp only [List.getElem?_toArray, List.getElem?_cons_succ, List.getElem?_cons_zero]; exact rfl)
                case kd78 =>
                  go_simp
                  refine (hTag_any _ A1 (n0 + q) _ n1 c1 (key ++ List.replicate q 0) msg _ (ho.rd) ho.le (h1w _ (by exact hfd77)) k1 (by omega) (by omega) (htw _ (by exact hfd77))).mono ?_
                  rintro e Vd78 ⟨rfl, hvd78⟩
                  unfold tagH
                  rw [hmacL_zeros key msg q (by have := HL0.out; omega), HTA.out]
                  have hfd78 : Below W3.heap.size W3 Vd78 := Below.trans (by exact hfd77) (hvd78.mono (hfd77).size)
                  (try dsimp only)
                  refine hK _ _ ?_
                  clear hK K
                  try simp only [Act.put, List.setIfInBounds_toArray, List.set_cons_zero, List.set_cons_succ]
                  refine wpAny_take (i := 11) (oi := ?oid79) (v := ?vd79) ?hod79 (by kernel_rfl) ?hfd79 ?hrd79 ?hQd79 ?hyd79 ?restd79
                  case hod79 => (simp only [List.getElem?_toArray, List.getElem?_cons_succ, List.getElem?_cons_zero]; exact rfl)
                  case hfd79 => kernel_rfl
                  case hrd79 => kernel_rfl
                  case hQd79 => exact fun _ _ _ h => h
                  case hyd79 =>
                    refine Or.inl ⟨by rfl, ?_⟩
                    intro w
                    go_simp
                    (try with_reducible rfl)
                  try simp only [Act.put, List.setIfInBounds_toArray, List.set_cons_zero, List.set_cons_succ]
                  refine wpAny_take (i := 12) (oi := ?oid80) (v := ?vd80) ?hod80 (by kernel_rfl) ?hfd80 ?hrd80 ?hQd80 ?hyd80 ?restd80
                  case hod80 => (simp only [List.getElem?_toArray, List.getElem?_cons_succ, List.getElem?_cons_zero]; exact rfl)
                  case hfd80 => kernel_rfl
                  case hrd80 => kernel_rfl
                  case hQd80 => exact fun _ _ _ h => h
                  case hyd80 =>
                    refine Or.inl ⟨by rfl, ?_⟩
                    intro w
                    go_simp
                    (try with_reducible rfl)
                  try simp only [Act.put, List.setIfInBounds_toArray, List.set_cons_zero, List.set_cons_succ]
                  refine wpAny_ready (rs := [13]) (by kernel_rfl) (by simp) ?_
                  refine AllReady.cons (o := ?od81) ?hod81 (fun K hK => ?kd81) ?md81
                  case hod81 => (simp only [List.getElem?_toArray, List.getElem?_cons_succ, List.getElem?_cons_zero]; exact rfl)
                  case kd81 =>
                    go_simp
                    refine (works_any _ (htw _ (by exact hfd78))).mono ?_
                    rintro e Vd81 ⟨rfl, hvd81⟩
                    have hfd81 : Below W3.heap.size W3 Vd81 := Below.trans (by exact hfd78) (hvd81.mono (hfd78).size)
                    (try dsimp only)
                    refine hK _ _ ?_
                    clear hK K
                    try simp only [Act.put, List.setIfInBounds_toArray, List.set_cons_zero, List.set_cons_succ]
                    refine wpAny_take (i := 14) (oi := ?oid82) (v := ?vd82) ?hod82 (by kernel_rfl) ?hfd82 ?hrd82 ?hQd82 ?hyd82 ?restd82
                    case hod82 => (simp only [List.getElem?_toArray, List.getElem?_cons_succ, List.getElem?_cons_zero]; exact rfl)
                    case hfd82 => kernel_rfl
                    case hrd82 => kernel_rfl
                    case hQd82 => exact fun _ _ _ h => h
                    case hyd82 =>
                      refine Or.inl ⟨by rfl, ?_⟩
                      intro w
                      go_simp
                      (try with_reducible rfl)
                    try simp only [Act.put, List.setIfInBounds_toArray, List.set_cons_zero, List.set_cons_succ]
                    refine wpAny_take (i := 15) (oi := ?oid83) (v := ?vd83) ?hod83 (by kernel_rfl) ?hfd83 ?hrd83 ?hQd83 ?hyd83 ?restd83
                    case hod83 => (simp only [List.getElem?_toArray, List.getElem?_cons_succ, List.getElem?_cons_zero]; exact rfl)
                    case hfd83 => kernel_rfl
                    case hrd83 => kernel_rfl
                    case hQd83 => exact fun _ _ _ h => h
                    case hyd83 =>
                      refine Or.inl ⟨by rfl, ?_⟩
                      intro w
                      go_simp
                      (try with_reducible rfl)
                    try simp only [Act.put, List.setIfInBounds_toArray, List.set_cons_zero, List.set_cons_succ]
                    refine wpAny_done (by kernel_rfl) ?_ _
                    repeat go_step
                    go_ret
                    exact ⟨rfl, HBW3.out.trans (Below.mono (by exact hfd81) HZ3)⟩
                  exact AllReady.nil
                exact AllReady.nil
              exact AllReady.nil
            exact AllReady.nil
          exact AllReady.nil
        refine AllReady.cons (o := ?od84) ?hod84 (fun K hK => ?kd84) ?md84
        case hod84 => (simp only [List.getElem?_toArray, List.getElem?_cons_succ, List.getElem?_cons_zero]; exact rfl)
        case kd84 =>
          refine any_load_mid (by rfl) 28 (.tmp 9) rfl W1.heap.size 0 rfl (tA.map bv) _ (hrg _ (by exact hf0)) Tryd.underlying28 rfl HSL.out ?_
          refine hK _ _ ?_
          clear hK K
          try simp only [Act.put, List.setIfInBounds_toArray, List.set_cons_zero, List.set_cons_succ]
          refine wpAny_ready (rs := [0]) (by kernel_rfl) (by simp) ?_
          refine AllReady.cons (o := ?od85) ?hod85 (fun K hK => ?kd85) ?md85
          case hod85 => (simp only [List.getElem?_toArray, List.getElem?_cons_succ, List.getElem?_cons_zero]; exact rfl)
          case kd85 =>
            refine any_empty8 (by rfl) rfl W3.heap.size (by have := (hf0).size; exact this) ?_
            intro Vd85 Ad85 cd85 ho hbd
            have hfd85 : Below W3.heap.size W3 Vd85 := Below.trans (by exact hf0) (hbd.mono (hf0).size)
            refine hK _ _ ?_
            clear hK K
            try simp only [Act.put, List.setIfInBounds_toArray, List.set_cons_zero, List.set_cons_succ]
            refine wpAny_ready (rs := [2]) (by kernel_rfl) (by simp) ?_
            refine AllReady.cons (o := ?od86) ?hod86 (fun K hK => ?kd86) ?md86
            case hod86 => (simp only [List.getElem?_toArray, List.getElem?_cons_succ, List.getElem?_cons_zero]; exact rfl)
            case kd86 =>
              refine anyd_app8 (by rfl) (.tmp 68) (.tmp 69) rfl W3.heap.size _ _ 0 [] (by rfl) (by exact ho) W3.heap.size A0 n0 c0 key (by rfl) (h0w _ (by exact hfd85)) (by omega) (hfd85).size ?_
              clear ho
              intro Ad86 cd86 Vd86 ho hbd
              rw [Nat.zero_add, List.nil_append] at ho
              rw [Nat.zero_add]
              have hfd86 : Below W3.heap.size W3 Vd86 := Below.trans (by exact hfd85) hbd
              refine hK _ _ ?_
              clear hK K
              try simp only [Act.put, List.setIfInBounds_toArray, List.set_cons_zero, List.set_cons_succ]
              refine wpAny_ready (rs := [7]) (by kernel_rfl) (by simp) ?_
              refine AllReady.cons (o := ?od87) ?hod87 (fun K hK => ?kd87) ?md87
              case hod87 => (simp only [List.getElem?_toArray, List.getElem?_cons_succ, List.getElem?_cons_zero]; exact rfl)
              case kd87 =>
                refine anyd_zeros8 (by rfl) (.tmp 70) (.tmp 74) rfl W3.heap.size _ _ n0 key (by rfl) (by exact ho) q (by refine congrArg (Value.int .i64) ?_; have := HQ.out; omega) (by omega) (hfd86).size ?_
                clear ho
                intro Ad87 cd87 Vd87 ho hbd
                have hfd87 : Below W3.heap.size W3 Vd87 := Below.trans (by exact hfd86) hbd
                refine hK _ _ ?_
                clear hK K
                try simp only [Act.put, List.setIfInBounds_toArray, List.set_cons_zero, List.set_cons_succ]
                refine wpAny_ready (rs := [9]) (by kernel_rfl) (by simp) ?_
                refine AllReady.cons (o := ?od88) ?hod88 (fun K hK => ?kd88) ?md88
                case hod88 => (simp only [List.getElem?_toArray, List.getElem?_cons_succ, List.getElem?_cons_zero]; exact rfl)
                case kd88 =>
                  go_simp
                  refine (hTag_any _ A1 (n0 + q) _ n1 c1 (key ++ List.replicate q 0) msg _ (ho.rd) ho.le (h1w _ (by exact hfd87)) k1 (by omega) (by omega) (htw _ (by exact hfd87))).mono ?_
                  rintro e Vd88 ⟨rfl, hvd88⟩
                  unfold tagH
                  rw [hmacL_zeros key msg q (by have := HL0.out; omega), HTA.out]
                  have hfd88 : Below W3.heap.size W3 Vd88 := Below.trans (by exact hfd87) (hvd88.mono (hfd87).size)
                  (try dsimp only)
                  refine hK _ _ ?_
                  clear hK K
                  try simp only [Act.put, List.setIfInBounds_toArray, List.set_cons_zero, List.set_cons_succ]
                  refine wpAny_take (i := 11) (oi := ?oid89) (v := ?vd89) ?hod89 (by kernel_rfl) ?hfd89 ?hrd89 ?hQd89 ?hyd89 ?restd89
                  case hod89 => (simp only [List.getElem?_toArray, List.getElem?_cons_succ, List.getElem?_cons_zero]; exact rfl)
                  case hfd89 => kernel_rfl
                  case hrd89 => kernel_rfl
                  case hQd89 => exact fun _ _ _ h => h
                  case hyd89 =>
                    refine Or.inl ⟨by rfl, ?_⟩
                    intro w
                    go_simp
                    (try with_reducible rfl)
                  try simp only [Act.put, List.setIfInBounds_toArray, List.set_cons_zero, List.set_cons_succ]
                  refine wpAny_take (i := 12) (oi := ?oid90) (v := ?vd90) ?hod90 (by kernel_rfl) ?hfd90 ?hrd90 ?hQd90 ?hyd90 ?restd90
                  case hod90 => (simp only [List.getElem?_toArray, List.getElem?_cons_succ, List.getElem?_cons_zero]; exact rfl)
                  case hfd90 => kernel_rfl
                  case hrd90 => kernel_rfl
                  case hQd90 => exact fun _ _ _ h => h
                  case hyd90 =>
                    refine Or.inl ⟨by rfl, ?_⟩
                    intro w
                    go_simp
                    (try with_reducible rfl)
                  try simp only [Act.put, List.setIfInBounds_toArray, List.set_cons_zero, List.set_cons_succ]
                  refine wpAny_ready (rs := [13]) (by kernel_rfl) (by simp) ?_
                  refine AllReady.cons (o := ?od91) ?hod91 (fun K hK => ?kd91) ?md91
                  case hod91 => (simp only [List.getElem?_toArray, List.getElem?_cons_succ, List.getElem?_cons_zero]; exact rfl)
                  case kd91 =>
                    go_simp
                    refine (works_any _ (htw _ (by exact hfd88))).mono ?_
                    rintro e Vd91 ⟨rfl, hvd91⟩
                    have hfd91 : Below W3.heap.size W3 Vd91 := Below.trans (by exact hfd88) (hvd91.mono (hfd88).size)
                    (try dsimp only)
                    refine hK _ _ ?_
                    clear hK K
                    try simp only [Act.put, List.setIfInBounds_toArray, List.set_cons_zero, List.set_cons_succ]
                    refine wpAny_take (i := 14) (oi := ?oid92) (v := ?vd92) ?hod92 (by kernel_rfl) ?hfd92 ?hrd92 ?hQd92 ?hyd92 ?restd92
                    case hod92 => (simp only [List.getElem?_toArray, List.getElem?_cons_succ, List.getElem?_cons_zero]; exact rfl)
                    case hfd92 => kernel_rfl
                    case hrd92 => kernel_rfl
                    case hQd92 => exact fun _ _ _ h => h
                    case hyd92 =>
                      refine Or.inl ⟨by rfl, ?_⟩
                      intro w
                      go_simp
                      (try with_reducible rfl)
                    try simp only [Act.put, List.setIfInBounds_toArray, List.set_cons_zero, List.set_cons_succ]
                    refine wpAny_take (i := 15) (oi := ?oid93) (v := ?vd93) ?hod93 (by kernel_rfl) ?hfd93 ?hrd93 ?hQd93 ?hyd93 ?restd93
                    case hod93 => (simp only [List.getElem?_toArray, List.getElem?_cons_succ, List.getElem?_cons_zero]; exact rfl)
                    case hfd93 => kernel_rfl
                    case hrd93 => kernel_rfl
                    case hQd93 => exact fun _ _ _ h => h
                    case hyd93 =>
                      refine Or.inl ⟨by rfl, ?_⟩
                      intro w
                      go_simp
                      (try with_reducible rfl)
                    try simp only [Act.put, List.setIfInBounds_toArray, List.set_cons_zero, List.set_cons_succ]
                    refine wpAny_done (by kernel_rfl) ?_ _
                    repeat go_step
                    go_ret
                    exact ⟨rfl, HBW3.out.trans (Below.mono (by exact hfd91) HZ3)⟩
                  exact AllReady.nil
                exact AllReady.nil
              exact AllReady.nil
            exact AllReady.nil
          exact AllReady.nil
        exact AllReady.nil
      · have hmi : (n0 : Int) + (mo : Int) < 64 := by omega
        repeat go_step
        obtain ⟨q, hq⟩ : ∃ q, q = mo := ⟨_, rfl⟩
        have hq1 : n0 + q ≤ 64 := by omega
        have hw : IntKind.i64.wrap (64 - (n0 : Int)) = 64 - (n0 : Int) := by rw [IntKind.wrap_i64]; omega
        have hw2 : IntKind.i64.wrap ((n0 : Int) + (mo : Int) - (n0 : Int)) = (n0 : Int) + (mo : Int) - (n0 : Int) := by rw [IntKind.wrap_i64]; omega
        have HQ := Lib.hid hq
        clear hq
        refine wp_region_any (by kernel_rfl) ?_
        try (change wpAny _ _ _ _ _ _ _ (World.drew _))
        have hf0 : Below W3.heap.size W3 V.drew := Below.trans (by exact hV) (belowDrewN (Below.refl _ _) 1)
        refine wpAny_take (i := 1) (oi := ?oid95) (v := ?vd95) ?hod95 (by kernel_rfl) ?hfd95 ?hrd95 ?hQd95 ?hyd95 ?restd95
        case hod95 => (simp only [List.getElem?_toArray, List.getElem?_cons_succ, List.getElem?_cons_zero]; exact rfl)
        case hfd95 => kernel_rfl
        case hrd95 => kernel_rfl
        case hQd95 => exact fun _ _ _ h => h
        case hyd95 =>
          refine Or.inl ⟨by rfl, ?_⟩
          intro w
          go_simp
          (try with_reducible rfl)
        try simp only [Act.put, List.setIfInBounds_toArray, List.set_cons_zero, List.set_cons_succ]
        refine wpAny_take (i := 3) (oi := ?oid96) (v := ?vd96) ?hod96 (by kernel_rfl) ?hfd96 ?hrd96 ?hQd96 ?hyd96 ?restd96
        case hod96 => (simp only [List.getElem?_toArray, List.getElem?_cons_succ, List.getElem?_cons_zero]; exact rfl)
        case hfd96 => kernel_rfl
        case hrd96 => kernel_rfl
        case hQd96 => exact fun _ _ _ h => h
        case hyd96 =>
          refine Or.inl ⟨by rfl, ?_⟩
          intro w
          go_simp
          (try with_reducible rfl)
        try simp only [Act.put, List.setIfInBounds_toArray, List.set_cons_zero, List.set_cons_succ]
        refine wpAny_take (i := 4) (oi := ?oid97) (v := ?vd97) ?hod97 (by kernel_rfl) ?hfd97 ?hrd97 ?hQd97 ?hyd97 ?restd97
        case hod97 => (simp only [List.getElem?_toArray, List.getElem?_cons_succ, List.getElem?_cons_zero]; exact rfl)
        case hfd97 => kernel_rfl
        case hrd97 => kernel_rfl
        case hQd97 => exact fun _ _ _ h => h
        case hyd97 =>
          refine Or.inl ⟨by rfl, ?_⟩
          intro w
          go_simp
          (try with_reducible rfl)
        try simp only [Act.put, List.setIfInBounds_toArray, List.set_cons_zero, List.set_cons_succ]
        refine wpAny_take (i := 5) (oi := ?oid98) (v := ?vd98) ?hod98 (by kernel_rfl) ?hfd98 ?hrd98 ?hQd98 ?hyd98 ?restd98
        case hod98 => (simp only [List.getElem?_toArray, List.getElem?_cons_succ, List.getElem?_cons_zero]; exact rfl)
        case hfd98 => kernel_rfl
        case hrd98 => kernel_rfl
        case hQd98 => exact fun _ _ _ h => h
        case hyd98 =>
          refine Or.inl ⟨by rfl, ?_⟩
          intro w
          go_simp
          (try with_reducible rfl)
        try simp only [Act.put, List.setIfInBounds_toArray, List.set_cons_zero, List.set_cons_succ]
        refine wpAny_take (i := 6) (oi := ?oid99) (v := ?vd99) ?hod99 (by kernel_rfl) ?hfd99 ?hrd99 ?hQd99 ?hyd99 ?restd99
        case hod99 => (simp only [List.getElem?_toArray, List.getElem?_cons_succ, List.getElem?_cons_zero]; exact rfl)
        case hfd99 => kernel_rfl
        case hrd99 => kernel_rfl
        case hQd99 => exact fun _ _ _ h => h
        case hyd99 =>
          refine Or.inl ⟨by rfl, ?_⟩
          intro w
          go_simp
          (try with_reducible rfl)
        try simp only [Act.put, List.setIfInBounds_toArray, List.set_cons_zero, List.set_cons_succ]
        refine wpAny_take (i := 8) (oi := ?oid100) (v := ?vd100) ?hod100 (by kernel_rfl) ?hfd100 ?hrd100 ?hQd100 ?hyd100 ?restd100
        case hod100 => (simp only [List.getElem?_toArray, List.getElem?_cons_succ, List.getElem?_cons_zero]; exact rfl)
        case hfd100 => kernel_rfl
        case hrd100 => kernel_rfl
        case hQd100 => exact fun _ _ _ h => h
        case hyd100 =>
          refine Or.inl ⟨by rfl, ?_⟩
          intro w
          go_simp
          (try with_reducible rfl)
        try simp only [Act.put, List.setIfInBounds_toArray, List.set_cons_zero, List.set_cons_succ]
        refine wpAny_ready (rs := [0, 10]) (by kernel_rfl) (by simp) ?_
        refine AllReady.cons (o := ?od101) ?hod101 (fun K hK => ?kd101) ?md101
        case hod101 => (simp only [List.getElem?_toArray, List.getElem?_cons_succ, List.getElem?_cons_zero]; exact rfl)
        case kd101 =>
          refine any_empty8 (by rfl) rfl W3.heap.size (by have := (hf0).size; exact this) ?_
          intro Vd101 Ad101 cd101 ho hbd
          have hfd101 : Below W3.heap.size W3 Vd101 := Below.trans (by exact hf0) (hbd.mono (hf0).size)
          refine hK _ _ ?_
          clear hK K
          try simp only [Act.put, List.setIfInBounds_toArray, List.set_cons_zero, List.set_cons_succ]
          refine wpAny_ready (rs := [2, 10]) (by kernel_rfl) (by simp) ?_
          refine AllReady.cons (o := ?od102) ?hod102 (fun K hK => ?kd102) ?md102
          case hod102 => (simp only [List.getElem?_toArray, List.getElem?_cons_succ, List.getElem?_cons_zero]; exact rfl)
          case kd102 =>
            refine anyd_app8 (by rfl) (.tmp 68) (.tmp 69) rfl W3.heap.size _ _ 0 [] (by rfl) (by exact ho) W3.heap.size A0 n0 c0 key (by rfl) (h0w _ (by exact hfd101)) (by omega) (hfd101).size ?_
            clear ho
            intro Ad102 cd102 Vd102 ho hbd
            rw [Nat.zero_add, List.nil_append] at ho
            rw [Nat.zero_add]
            have hfd102 : Below W3.heap.size W3 Vd102 := Below.trans (by exact hfd101) hbd
            refine hK _ _ ?_
            clear hK K
            try simp only [Act.put, List.setIfInBounds_toArray, List.set_cons_zero, List.set_cons_succ]
            refine wpAny_ready (rs := [7, 10]) (by kernel_rfl) (by simp) ?_
            refine AllReady.cons (o := ?od103) ?hod103 (fun K hK => ?kd103) ?md103
            case hod103 => (simp only [List.getElem?_toArray, List.getElem?_cons_succ, List.getElem?_cons_zero]; exact rfl)
            case kd103 =>
              refine anyd_zeros8 (by rfl) (.tmp 70) (.tmp 74) rfl W3.heap.size _ _ n0 key (by rfl) (by exact ho) q (by refine congrArg (Value.int .i64) ?_; have := HQ.out; omega) (by omega) (hfd102).size ?_
              clear ho
              intro Ad103 cd103 Vd103 ho hbd
              have hfd103 : Below W3.heap.size W3 Vd103 := Below.trans (by exact hfd102) hbd
              refine hK _ _ ?_
              clear hK K
              try simp only [Act.put, List.setIfInBounds_toArray, List.set_cons_zero, List.set_cons_succ]
              refine wpAny_ready (rs := [9, 10]) (by kernel_rfl) (by simp) ?_
              refine AllReady.cons (o := ?od104) ?hod104 (fun K hK => ?kd104) ?md104
              case hod104 => (simp only [List.getElem?_toArray, List.getElem?_cons_succ, List.getElem?_cons_zero]; exact rfl)
              case kd104 =>
                go_simp
                refine (hTag_any _ A1 (n0 + q) _ n1 c1 (key ++ List.replicate q 0) msg _ (ho.rd) ho.le (h1w _ (by exact hfd103)) k1 (by omega) (by omega) (htw _ (by exact hfd103))).mono ?_
                rintro e Vd104 ⟨rfl, hvd104⟩
                unfold tagH
                rw [hmacL_zeros key msg q (by have := HL0.out; omega), HTA.out]
                have hfd104 : Below W3.heap.size W3 Vd104 := Below.trans (by exact hfd103) (hvd104.mono (hfd103).size)
                (try dsimp only)
                refine hK _ _ ?_
                clear hK K
                try simp only [Act.put, List.setIfInBounds_toArray, List.set_cons_zero, List.set_cons_succ]
                refine wpAny_ready (rs := [10]) (by kernel_rfl) (by simp) ?_
                refine AllReady.cons (o := ?od105) ?hod105 (fun K hK => ?kd105) ?md105
                case hod105 => (simp only [List.getElem?_toArray, List.getElem?_cons_succ, List.getElem?_cons_zero]; exact rfl)
                case kd105 =>
                  refine any_load_mid (by rfl) 28 (.tmp 9) rfl W1.heap.size 0 rfl (tA.map bv) _ (hrg _ (by exact hfd104)) Tryd.underlying28 rfl HSL.out ?_
                  refine hK _ _ ?_
                  clear hK K
                  try simp only [Act.put, List.setIfInBounds_toArray, List.set_cons_zero, List.set_cons_succ]
                  refine wpAny_take (i := 11) (oi := ?oid106) (v := ?vd106) ?hod106 (by kernel_rfl) ?hfd106 ?hrd106 ?hQd106 ?hyd106 ?restd106
                  case hod106 => (simp only [List.getElem?_toArray, List.getElem?_cons_succ, List.getElem?_cons_zero]; exact rfl)
                  case hfd106 => kernel_rfl
                  case hrd106 => kernel_rfl
                  case hQd106 => exact fun _ _ _ h => h
                  case hyd106 =>
                    refine Or.inl ⟨by rfl, ?_⟩
                    intro w
                    go_simp
                    (try with_reducible rfl)
                  try simp only [Act.put, List.setIfInBounds_toArray, List.set_cons_zero, List.set_cons_succ]
                  refine wpAny_take (i := 12) (oi := ?oid107) (v := ?vd107) ?hod107 (by kernel_rfl) ?hfd107 ?hrd107 ?hQd107 ?hyd107 ?restd107
                  case hod107 => (simp only [List.getElem?_toArray, List.getElem?_cons_succ, List.getElem?_cons_zero]; exact rfl)
                  case hfd107 => kernel_rfl
                  case hrd107 => kernel_rfl
                  case hQd107 => exact fun _ _ _ h => h
                  case hyd107 =>
                    refine Or.inl ⟨by rfl, ?_⟩
                    intro w
                    go_simp
                    (try with_reducible rfl)
                  try simp only [Act.put, List.setIfInBounds_toArray, List.set_cons_zero, List.set_cons_succ]
                  refine wpAny_ready (rs := [13]) (by kernel_rfl) (by simp) ?_
                  refine AllReady.cons (o := ?od108) ?hod108 (fun K hK => ?kd108) ?md108
                  case hod108 => (simp only [List.getElem?_toArray, List.getElem?_cons_succ, List.getElem?_cons_zero]; exact rfl)
                  case kd108 =>
                    go_simp
                    refine (works_any _ (htw _ (by exact hfd104))).mono ?_
                    rintro e Vd108 ⟨rfl, hvd108⟩
                    have hfd108 : Below W3.heap.size W3 Vd108 := Below.trans (by exact hfd104) (hvd108.mono (hfd104).size)
                    (try dsimp only)
                    refine hK _ _ ?_
                    clear hK K
                    try simp only [Act.put, List.setIfInBounds_toArray, List.set_cons_zero, List.set_cons_succ]
                    refine wpAny_take (i := 14) (oi := ?oid109) (v := ?vd109) ?hod109 (by kernel_rfl) ?hfd109 ?hrd109 ?hQd109 ?hyd109 ?restd109
                    case hod109 => (simp only [List.getElem?_toArray, List.getElem?_cons_succ, List.getElem?_cons_zero]; exact rfl)
                    case hfd109 => kernel_rfl
                    case hrd109 => kernel_rfl
                    case hQd109 => exact fun _ _ _ h => h
                    case hyd109 =>
                      refine Or.inl ⟨by rfl, ?_⟩
                      intro w
                      go_simp
                      (try with_reducible rfl)
                    try simp only [Act.put, List.setIfInBounds_toArray, List.set_cons_zero, List.set_cons_succ]
                    refine wpAny_take (i := 15) (oi := ?oid110) (v := ?vd110) ?hod110 (by kernel_rfl) ?hfd110 ?hrd110 ?hQd110 ?hyd110 ?restd110
                    case hod110 => (simp only [List.getElem?_toArray, List.getElem?_cons_succ, List.getElem?_cons_zero]; exact rfl)
                    case hfd110 => kernel_rfl
                    case hrd110 => kernel_rfl
                    case hQd110 => exact fun _ _ _ h => h
                    case hyd110 =>
                      refine Or.inl ⟨by rfl, ?_⟩
                      intro w
                      go_simp
                      (try with_reducible rfl)
                    try simp only [Act.put, List.setIfInBounds_toArray, List.set_cons_zero, List.set_cons_succ]
                    refine wpAny_done (by kernel_rfl) ?_ _
                    repeat go_step
                    go_ret
                    exact ⟨rfl, HBW3.out.trans (Below.mono (by exact hfd108) HZ3)⟩
                  exact AllReady.nil
                exact AllReady.nil
              refine AllReady.cons (o := ?od111) ?hod111 (fun K hK => ?kd111) ?md111
              case hod111 => (simp only [List.getElem?_toArray, List.getElem?_cons_succ, List.getElem?_cons_zero]; exact rfl)
              case kd111 =>
                refine any_load_mid (by rfl) 28 (.tmp 9) rfl W1.heap.size 0 rfl (tA.map bv) _ (hrg _ (by exact hfd103)) Tryd.underlying28 rfl HSL.out ?_
                refine hK _ _ ?_
                clear hK K
                try simp only [Act.put, List.setIfInBounds_toArray, List.set_cons_zero, List.set_cons_succ]
                refine wpAny_ready (rs := [9]) (by kernel_rfl) (by simp) ?_
                refine AllReady.cons (o := ?od112) ?hod112 (fun K hK => ?kd112) ?md112
                case hod112 => (simp only [List.getElem?_toArray, List.getElem?_cons_succ, List.getElem?_cons_zero]; exact rfl)
                case kd112 =>
                  go_simp
                  refine (hTag_any _ A1 (n0 + q) _ n1 c1 (key ++ List.replicate q 0) msg _ (ho.rd) ho.le (h1w _ (by exact hfd103)) k1 (by omega) (by omega) (htw _ (by exact hfd103))).mono ?_
                  rintro e Vd112 ⟨rfl, hvd112⟩
                  unfold tagH
                  rw [hmacL_zeros key msg q (by have := HL0.out; omega), HTA.out]
                  have hfd112 : Below W3.heap.size W3 Vd112 := Below.trans (by exact hfd103) (hvd112.mono (hfd103).size)
                  (try dsimp only)
                  refine hK _ _ ?_
                  clear hK K
                  try simp only [Act.put, List.setIfInBounds_toArray, List.set_cons_zero, List.set_cons_succ]
                  refine wpAny_take (i := 11) (oi := ?oid113) (v := ?vd113) ?hod113 (by kernel_rfl) ?hfd113 ?hrd113 ?hQd113 ?hyd113 ?restd113
                  case hod113 => (simp only [List.getElem?_toArray, List.getElem?_cons_succ, List.getElem?_cons_zero]; exact rfl)
                  case hfd113 => kernel_rfl
                  case hrd113 => kernel_rfl
                  case hQd113 => exact fun _ _ _ h => h
                  case hyd113 =>
                    refine Or.inl ⟨by rfl, ?_⟩
                    intro w
                    go_simp
                    (try with_reducible rfl)
                  try simp only [Act.put, List.setIfInBounds_toArray, List.set_cons_zero, List.set_cons_succ]
                  refine wpAny_take (i := 12) (oi := ?oid114) (v := ?vd114) ?hod114 (by kernel_rfl) ?hfd114 ?hrd114 ?hQd114 ?hyd114 ?restd114
                  case hod114 => (simp only [List.getElem?_toArray, List.getElem?_cons_succ, List.getElem?_cons_zero]; exact rfl)
                  case hfd114 => kernel_rfl
                  case hrd114 => kernel_rfl
                  case hQd114 => exact fun _ _ _ h => h
                  case hyd114 =>
                    refine Or.inl ⟨by rfl, ?_⟩
                    intro w
                    go_simp
                    (try with_reducible rfl)
                  try simp only [Act.put, List.setIfInBounds_toArray, List.set_cons_zero, List.set_cons_succ]
                  refine wpAny_ready (rs := [13]) (by kernel_rfl) (by simp) ?_
                  refine AllReady.cons (o := ?od115) ?hod115 (fun K hK => ?kd115) ?md115
                  case hod115 => (simp only [List.getElem?_toArray, List.getElem?_cons_succ, List.getElem?_cons_zero]; exact rfl)
                  case kd115 =>
                    go_simp
                    refine (works_any _ (htw _ (by exact hfd112))).mono ?_
                    rintro e Vd115 ⟨rfl, hvd115⟩
                    have hfd115 : Below W3.heap.size W3 Vd115 := Below.trans (by exact hfd112) (hvd115.mono (hfd112).size)
                    (try dsimp only)
                    refine hK _ _ ?_
                    clear hK K
                    try simp only [Act.put, List.setIfInBounds_toArray, List.set_cons_zero, List.set_cons_succ]
                    refine wpAny_take (i := 14) (oi := ?oid116) (v := ?vd116) ?hod116 (by kernel_rfl) ?hfd116 ?hrd116 ?hQd116 ?hyd116 ?restd116
                    case hod116 => (simp only [List.getElem?_toArray, List.getElem?_cons_succ, List.getElem?_cons_zero]; exact rfl)
                    case hfd116 => kernel_rfl
                    case hrd116 => kernel_rfl
                    case hQd116 => exact fun _ _ _ h => h
                    case hyd116 =>
                      refine Or.inl ⟨by rfl, ?_⟩
                      intro w
                      go_simp
                      (try with_reducible rfl)
                    try simp only [Act.put, List.setIfInBounds_toArray, List.set_cons_zero, List.set_cons_succ]
                    refine wpAny_take (i := 15) (oi := ?oid117) (v := ?vd117) ?hod117 (by kernel_rfl) ?hfd117 ?hrd117 ?hQd117 ?hyd117 ?restd117
                    case hod117 => (simp only [List.getElem?_toArray, List.getElem?_cons_succ, List.getElem?_cons_zero]; exact rfl)
                    case hfd117 => kernel_rfl
                    case hrd117 => kernel_rfl
                    case hQd117 => exact fun _ _ _ h => h
                    case hyd117 =>
                      refine Or.inl ⟨by rfl, ?_⟩
                      intro w
                      go_simp
                      (try with_reducible rfl)
                    try simp only [Act.put, List.setIfInBounds_toArray, List.set_cons_zero, List.set_cons_succ]
                    refine wpAny_done (by kernel_rfl) ?_ _
                    repeat go_step
                    go_ret
                    exact ⟨rfl, HBW3.out.trans (Below.mono (by exact hfd115) HZ3)⟩
                  exact AllReady.nil
                exact AllReady.nil
              exact AllReady.nil
            refine AllReady.cons (o := ?od118) ?hod118 (fun K hK => ?kd118) ?md118
            case hod118 => (simp only [List.getElem?_toArray, List.getElem?_cons_succ, List.getElem?_cons_zero]; exact rfl)
            case kd118 =>
              refine any_load_mid (by rfl) 28 (.tmp 9) rfl W1.heap.size 0 rfl (tA.map bv) _ (hrg _ (by exact hfd102)) Tryd.underlying28 rfl HSL.out ?_
              refine hK _ _ ?_
              clear hK K
              try simp only [Act.put, List.setIfInBounds_toArray, List.set_cons_zero, List.set_cons_succ]
              refine wpAny_ready (rs := [7]) (by kernel_rfl) (by simp) ?_
              refine AllReady.cons (o := ?od119) ?hod119 (fun K hK => ?kd119) ?md119
              case hod119 => (simp only [List.getElem?_toArray, List.getElem?_cons_succ, List.getElem?_cons_zero]; exact rfl)
              case kd119 =>
                refine anyd_zeros8 (by rfl) (.tmp 70) (.tmp 74) rfl W3.heap.size _ _ n0 key (by rfl) (by exact ho) q (by refine congrArg (Value.int .i64) ?_; have := HQ.out; omega) (by omega) (hfd102).size ?_
                clear ho
                intro Ad119 cd119 Vd119 ho hbd
                have hfd119 : Below W3.heap.size W3 Vd119 := Below.trans (by exact hfd102) hbd
                refine hK _ _ ?_
                clear hK K
                try simp only [Act.put, List.setIfInBounds_toArray, List.set_cons_zero, List.set_cons_succ]
                refine wpAny_ready (rs := [9]) (by kernel_rfl) (by simp) ?_
                refine AllReady.cons (o := ?od120) ?hod120 (fun K hK => ?kd120) ?md120
                case hod120 => (simp only [List.getElem?_toArray, List.getElem?_cons_succ, List.getElem?_cons_zero]; exact rfl)
                case kd120 =>
                  go_simp
                  refine (hTag_any _ A1 (n0 + q) _ n1 c1 (key ++ List.replicate q 0) msg _ (ho.rd) ho.le (h1w _ (by exact hfd119)) k1 (by omega) (by omega) (htw _ (by exact hfd119))).mono ?_
                  rintro e Vd120 ⟨rfl, hvd120⟩
                  unfold tagH
                  rw [hmacL_zeros key msg q (by have := HL0.out; omega), HTA.out]
                  have hfd120 : Below W3.heap.size W3 Vd120 := Below.trans (by exact hfd119) (hvd120.mono (hfd119).size)
                  (try dsimp only)
                  refine hK _ _ ?_
                  clear hK K
                  try simp only [Act.put, List.setIfInBounds_toArray, List.set_cons_zero, List.set_cons_succ]
                  refine wpAny_take (i := 11) (oi := ?oid121) (v := ?vd121) ?hod121 (by kernel_rfl) ?hfd121 ?hrd121 ?hQd121 ?hyd121 ?restd121
                  case hod121 => (simp only [List.getElem?_toArray, List.getElem?_cons_succ, List.getElem?_cons_zero]; exact rfl)
                  case hfd121 => kernel_rfl
                  case hrd121 => kernel_rfl
                  case hQd121 => exact fun _ _ _ h => h
                  case hyd121 =>
                    refine Or.inl ⟨by rfl, ?_⟩
                    intro w
                    go_simp
                    (try with_reducible rfl)
                  try simp only [Act.put, List.setIfInBounds_toArray, List.set_cons_zero, List.set_cons_succ]
                  refine wpAny_take (i := 12) (oi := ?oid122) (v := ?vd122) ?hod122 (by kernel_rfl) ?hfd122 ?hrd122 ?hQd122 ?hyd122 ?restd122
                  case hod122 => (simp only [List.getElem?_toArray, List.getElem?_cons_succ, List.getElem?_cons_zero]; exact rfl)
                  case hfd122 => kernel_rfl
                  case hrd122 => kernel_rfl
                  case hQd122 => exact fun _ _ _ h => h
                  case hyd122 =>
                    refine Or.inl ⟨by rfl, ?_⟩
                    intro w
                    go_simp
                    (try with_reducible rfl)
                  try simp only [Act.put, List.setIfInBounds_toArray, List.set_cons_zero, List.set_cons_succ]
                  refine wpAny_ready (rs := [13]) (by kernel_rfl) (by simp) ?_
                  refine AllReady.cons (o := ?od123) ?hod123 (fun K hK => ?kd123) ?md123
                  case hod123 => (simp only [List.getElem?_toArray, List.getElem?_cons_succ, List.getElem?_cons_zero]; exact rfl)
                  case kd123 =>
                    go_simp
                    refine (works_any _ (htw _ (by exact hfd120))).mono ?_
                    rintro e Vd123 ⟨rfl, hvd123⟩
                    have hfd123 : Below W3.heap.size W3 Vd123 := Below.trans (by exact hfd120) (hvd123.mono (hfd120).size)
                    (try dsimp only)
                    refine hK _ _ ?_
                    clear hK K
                    try simp only [Act.put, List.setIfInBounds_toArray, List.set_cons_zero, List.set_cons_succ]
                    refine wpAny_take (i := 14) (oi := ?oid124) (v := ?vd124) ?hod124 (by kernel_rfl) ?hfd124 ?hrd124 ?hQd124 ?hyd124 ?restd124
                    case hod124 => (simp only [List.getElem?_toArray, List.getElem?_cons_succ, List.getElem?_cons_zero]; exact rfl)
                    case hfd124 => kernel_rfl
                    case hrd124 => kernel_rfl
                    case hQd124 => exact fun _ _ _ h => h
                    case hyd124 =>
                      refine Or.inl ⟨by rfl, ?_⟩
                      intro w
                      go_simp
                      (try with_reducible rfl)
                    try simp only [Act.put, List.setIfInBounds_toArray, List.set_cons_zero, List.set_cons_succ]
                    refine wpAny_take (i := 15) (oi := ?oid125) (v := ?vd125) ?hod125 (by kernel_rfl) ?hfd125 ?hrd125 ?hQd125 ?hyd125 ?restd125
                    case hod125 => (simp only [List.getElem?_toArray, List.getElem?_cons_succ, List.getElem?_cons_zero]; exact rfl)
                    case hfd125 => kernel_rfl
                    case hrd125 => kernel_rfl
                    case hQd125 => exact fun _ _ _ h => h
                    case hyd125 =>
                      refine Or.inl ⟨by rfl, ?_⟩
                      intro w
                      go_simp
                      (try with_reducible rfl)
                    try simp only [Act.put, List.setIfInBounds_toArray, List.set_cons_zero, List.set_cons_succ]
                    refine wpAny_done (by kernel_rfl) ?_ _
                    repeat go_step
                    go_ret
                    exact ⟨rfl, HBW3.out.trans (Below.mono (by exact hfd123) HZ3)⟩
                  exact AllReady.nil
                exact AllReady.nil
              exact AllReady.nil
            exact AllReady.nil
          refine AllReady.cons (o := ?od126) ?hod126 (fun K hK => ?kd126) ?md126
          case hod126 => (simp only [List.getElem?_toArray, List.getElem?_cons_succ, List.getElem?_cons_zero]; exact rfl)
          case kd126 =>
            refine any_load_mid (by rfl) 28 (.tmp 9) rfl W1.heap.size 0 rfl (tA.map bv) _ (hrg _ (by exact hfd101)) Tryd.underlying28 rfl HSL.out ?_
            refine hK _ _ ?_
            clear hK K
            try simp only [Act.put, List.setIfInBounds_toArray, List.set_cons_zero, List.set_cons_succ]
            refine wpAny_ready (rs := [2]) (by kernel_rfl) (by simp) ?_
            refine AllReady.cons (o := ?od127) ?hod127 (fun K hK => ?kd127) ?md127
            case hod127 => (simp only [List.getElem?_toArray, List.getElem?_cons_succ, List.getElem?_cons_zero]; exact rfl)
            case kd127 =>
              refine anyd_app8 (by rfl) (.tmp 68) (.tmp 69) rfl W3.heap.size _ _ 0 [] (by rfl) (by exact ho) W3.heap.size A0 n0 c0 key (by rfl) (h0w _ (by exact hfd101)) (by omega) (hfd101).size ?_
              clear ho
              intro Ad127 cd127 Vd127 ho hbd
              rw [Nat.zero_add, List.nil_append] at ho
              rw [Nat.zero_add]
              have hfd127 : Below W3.heap.size W3 Vd127 := Below.trans (by exact hfd101) hbd
              refine hK _ _ ?_
              clear hK K
              try simp only [Act.put, List.setIfInBounds_toArray, List.set_cons_zero, List.set_cons_succ]
              refine wpAny_ready (rs := [7]) (by kernel_rfl) (by simp) ?_
              refine AllReady.cons (o := ?od128) ?hod128 (fun K hK => ?kd128) ?md128
              case hod128 => (simp only [List.getElem?_toArray, List.getElem?_cons_succ, List.getElem?_cons_zero]; exact rfl)
              case kd128 =>
                refine anyd_zeros8 (by rfl) (.tmp 70) (.tmp 74) rfl W3.heap.size _ _ n0 key (by rfl) (by exact ho) q (by refine congrArg (Value.int .i64) ?_; have := HQ.out; omega) (by omega) (hfd127).size ?_
                clear ho
                intro Ad128 cd128 Vd128 ho hbd
                have hfd128 : Below W3.heap.size W3 Vd128 := Below.trans (by exact hfd127) hbd
                refine hK _ _ ?_
                clear hK K
                try simp only [Act.put, List.setIfInBounds_toArray, List.set_cons_zero, List.set_cons_succ]
                refine wpAny_ready (rs := [9]) (by kernel_rfl) (by simp) ?_
                refine AllReady.cons (o := ?od129) ?hod129 (fun K hK => ?kd129) ?md129
                case hod129 => (simp only [List.getElem?_toArray, List.getElem?_cons_succ, List.getElem?_cons_zero]; exact rfl)
                case kd129 =>
                  go_simp
                  refine (hTag_any _ A1 (n0 + q) _ n1 c1 (key ++ List.replicate q 0) msg _ (ho.rd) ho.le (h1w _ (by exact hfd128)) k1 (by omega) (by omega) (htw _ (by exact hfd128))).mono ?_
                  rintro e Vd129 ⟨rfl, hvd129⟩
                  unfold tagH
                  rw [hmacL_zeros key msg q (by have := HL0.out; omega), HTA.out]
                  have hfd129 : Below W3.heap.size W3 Vd129 := Below.trans (by exact hfd128) (hvd129.mono (hfd128).size)
                  (try dsimp only)
                  refine hK _ _ ?_
                  clear hK K
                  try simp only [Act.put, List.setIfInBounds_toArray, List.set_cons_zero, List.set_cons_succ]
                  refine wpAny_take (i := 11) (oi := ?oid130) (v := ?vd130) ?hod130 (by kernel_rfl) ?hfd130 ?hrd130 ?hQd130 ?hyd130 ?restd130
                  case hod130 => (simp only [List.getElem?_toArray, List.getElem?_cons_succ, List.getElem?_cons_zero]; exact rfl)
                  case hfd130 => kernel_rfl
                  case hrd130 => kernel_rfl
                  case hQd130 => exact fun _ _ _ h => h
                  case hyd130 =>
                    refine Or.inl ⟨by rfl, ?_⟩
                    intro w
                    go_simp
                    (try with_reducible rfl)
                  try simp only [Act.put, List.setIfInBounds_toArray, List.set_cons_zero, List.set_cons_succ]
                  refine wpAny_take (i := 12) (oi := ?oid131) (v := ?vd131) ?hod131 (by kernel_rfl) ?hfd131 ?hrd131 ?hQd131 ?hyd131 ?restd131
                  case hod131 => (simp only [List.getElem?_toArray, List.getElem?_cons_succ, List.getElem?_cons_zero]; exact rfl)
                  case hfd131 => kernel_rfl
                  case hrd131 => kernel_rfl
                  case hQd131 => exact fun _ _ _ h => h
                  case hyd131 =>
                    refine Or.inl ⟨by rfl, ?_⟩
                    intro w
                    go_simp
                    (try with_reducible rfl)
                  try simp only [Act.put, List.setIfInBounds_toArray, List.set_cons_zero, List.set_cons_succ]
                  refine wpAny_ready (rs := [13]) (by kernel_rfl) (by simp) ?_
                  refine AllReady.cons (o := ?od132) ?hod132 (fun K hK => ?kd132) ?md132
                  case hod132 => (simp only [List.getElem?_toArray, List.getElem?_cons_succ, List.getElem?_cons_zero]; exact rfl)
                  case kd132 =>
                    go_simp
                    refine (works_any _ (htw _ (by exact hfd129))).mono ?_
                    rintro e Vd132 ⟨rfl, hvd132⟩
                    have hfd132 : Below W3.heap.size W3 Vd132 := Below.trans (by exact hfd129) (hvd132.mono (hfd129).size)
                    (try dsimp only)
                    refine hK _ _ ?_
                    clear hK K
                    try simp only [Act.put, List.setIfInBounds_toArray, List.set_cons_zero, List.set_cons_succ]
                    refine wpAny_take (i := 14) (oi := ?oid133) (v := ?vd133) ?hod133 (by kernel_rfl) ?hfd133 ?hrd133 ?hQd133 ?hyd133 ?restd133
                    case hod133 => (simp only [List.getElem?_toArray, List.getElem?_cons_succ, List.getElem?_cons_zero]; exact rfl)
                    case hfd133 => kernel_rfl
                    case hrd133 => kernel_rfl
                    case hQd133 => exact fun _ _ _ h => h
                    case hyd133 =>
                      refine Or.inl ⟨by rfl, ?_⟩
                      intro w
                      go_simp
                      (try with_reducible rfl)
                    try simp only [Act.put, List.setIfInBounds_toArray, List.set_cons_zero, List.set_cons_succ]
                    refine wpAny_take (i := 15) (oi := ?oid134) (v := ?vd134) ?hod134 (by kernel_rfl) ?hfd134 ?hrd134 ?hQd134 ?hyd134 ?restd134
                    case hod134 => (simp only [List.getElem?_toArray, List.getElem?_cons_succ, List.getElem?_cons_zero]; exact rfl)
                    case hfd134 => kernel_rfl
                    case hrd134 => kernel_rfl
                    case hQd134 => exact fun _ _ _ h => h
                    case hyd134 =>
                      refine Or.inl ⟨by rfl, ?_⟩
                      intro w
                      go_simp
                      (try with_reducible rfl)
                    try simp only [Act.put, List.setIfInBounds_toArray, List.set_cons_zero, List.set_cons_succ]
                    refine wpAny_done (by kernel_rfl) ?_ _
                    repeat go_step
                    go_ret
                    exact ⟨rfl, HBW3.out.trans (Below.mono (by exact hfd132) HZ3)⟩
                  exact AllReady.nil
                exact AllReady.nil
              exact AllReady.nil
            exact AllReady.nil
          exact AllReady.nil
        refine AllReady.cons (o := ?od135) ?hod135 (fun K hK => ?kd135) ?md135
        case hod135 => (simp only [List.getElem?_toArray, List.getElem?_cons_succ, List.getElem?_cons_zero]; exact rfl)
        case kd135 =>
          refine any_load_mid (by rfl) 28 (.tmp 9) rfl W1.heap.size 0 rfl (tA.map bv) _ (hrg _ (by exact hf0)) Tryd.underlying28 rfl HSL.out ?_
          refine hK _ _ ?_
          clear hK K
          try simp only [Act.put, List.setIfInBounds_toArray, List.set_cons_zero, List.set_cons_succ]
          refine wpAny_ready (rs := [0]) (by kernel_rfl) (by simp) ?_
          refine AllReady.cons (o := ?od136) ?hod136 (fun K hK => ?kd136) ?md136
          case hod136 => (simp only [List.getElem?_toArray, List.getElem?_cons_succ, List.getElem?_cons_zero]; exact rfl)
          case kd136 =>
            refine any_empty8 (by rfl) rfl W3.heap.size (by have := (hf0).size; exact this) ?_
            intro Vd136 Ad136 cd136 ho hbd
            have hfd136 : Below W3.heap.size W3 Vd136 := Below.trans (by exact hf0) (hbd.mono (hf0).size)
            refine hK _ _ ?_
            clear hK K
            try simp only [Act.put, List.setIfInBounds_toArray, List.set_cons_zero, List.set_cons_succ]
            refine wpAny_ready (rs := [2]) (by kernel_rfl) (by simp) ?_
            refine AllReady.cons (o := ?od137) ?hod137 (fun K hK => ?kd137) ?md137
            case hod137 => (simp only [List.getElem?_toArray, List.getElem?_cons_succ, List.getElem?_cons_zero]; exact rfl)
            case kd137 =>
              refine anyd_app8 (by rfl) (.tmp 68) (.tmp 69) rfl W3.heap.size _ _ 0 [] (by rfl) (by exact ho) W3.heap.size A0 n0 c0 key (by rfl) (h0w _ (by exact hfd136)) (by omega) (hfd136).size ?_
              clear ho
              intro Ad137 cd137 Vd137 ho hbd
              rw [Nat.zero_add, List.nil_append] at ho
              rw [Nat.zero_add]
              have hfd137 : Below W3.heap.size W3 Vd137 := Below.trans (by exact hfd136) hbd
              refine hK _ _ ?_
              clear hK K
              try simp only [Act.put, List.setIfInBounds_toArray, List.set_cons_zero, List.set_cons_succ]
              refine wpAny_ready (rs := [7]) (by kernel_rfl) (by simp) ?_
              refine AllReady.cons (o := ?od138) ?hod138 (fun K hK => ?kd138) ?md138
              case hod138 => (simp only [List.getElem?_toArray, List.getElem?_cons_succ, List.getElem?_cons_zero]; exact rfl)
              case kd138 =>
                refine anyd_zeros8 (by rfl) (.tmp 70) (.tmp 74) rfl W3.heap.size _ _ n0 key (by rfl) (by exact ho) q (by refine congrArg (Value.int .i64) ?_; have := HQ.out; omega) (by omega) (hfd137).size ?_
                clear ho
                intro Ad138 cd138 Vd138 ho hbd
                have hfd138 : Below W3.heap.size W3 Vd138 := Below.trans (by exact hfd137) hbd
                refine hK _ _ ?_
                clear hK K
                try simp only [Act.put, List.setIfInBounds_toArray, List.set_cons_zero, List.set_cons_succ]
                refine wpAny_ready (rs := [9]) (by kernel_rfl) (by simp) ?_
                refine AllReady.cons (o := ?od139) ?hod139 (fun K hK => ?kd139) ?md139
                case hod139 => (simp only [List.getElem?_toArray, List.getElem?_cons_succ, List.getElem?_cons_zero]; exact rfl)
                case kd139 =>
                  go_simp
                  refine (hTag_any _ A1 (n0 + q) _ n1 c1 (key ++ List.replicate q 0) msg _ (ho.rd) ho.le (h1w _ (by exact hfd138)) k1 (by omega) (by omega) (htw _ (by exact hfd138))).mono ?_
                  rintro e Vd139 ⟨rfl, hvd139⟩
                  unfold tagH
                  rw [hmacL_zeros key msg q (by have := HL0.out; omega), HTA.out]
                  have hfd139 : Below W3.heap.size W3 Vd139 := Below.trans (by exact hfd138) (hvd139.mono (hfd138).size)
                  (try dsimp only)
                  refine hK _ _ ?_
                  clear hK K
                  try simp only [Act.put, List.setIfInBounds_toArray, List.set_cons_zero, List.set_cons_succ]
                  refine wpAny_take (i := 11) (oi := ?oid140) (v := ?vd140) ?hod140 (by kernel_rfl) ?hfd140 ?hrd140 ?hQd140 ?hyd140 ?restd140
                  case hod140 => (simp only [List.getElem?_toArray, List.getElem?_cons_succ, List.getElem?_cons_zero]; exact rfl)
                  case hfd140 => kernel_rfl
                  case hrd140 => kernel_rfl
                  case hQd140 => exact fun _ _ _ h => h
                  case hyd140 =>
                    refine Or.inl ⟨by rfl, ?_⟩
                    intro w
                    go_simp
                    (try with_reducible rfl)
                  try simp only [Act.put, List.setIfInBounds_toArray, List.set_cons_zero, List.set_cons_succ]
                  refine wpAny_take (i := 12) (oi := ?oid141) (v := ?vd141) ?hod141 (by kernel_rfl) ?hfd141 ?hrd141 ?hQd141 ?hyd141 ?restd141
                  case hod141 => (simp only [List.getElem?_toArray, List.getElem?_cons_succ, List.getElem?_cons_zero]; exact rfl)
                  case hfd141 => kernel_rfl
                  case hrd141 => kernel_rfl
                  case hQd141 => exact fun _ _ _ h => h
                  case hyd141 =>
                    refine Or.inl ⟨by rfl, ?_⟩
                    intro w
                    go_simp
                    (try with_reducible rfl)
                  try simp only [Act.put, List.setIfInBounds_toArray, List.set_cons_zero, List.set_cons_succ]
                  refine wpAny_ready (rs := [13]) (by kernel_rfl) (by simp) ?_
                  refine AllReady.cons (o := ?od142) ?hod142 (fun K hK => ?kd142) ?md142
                  case hod142 => (simp only [List.getElem?_toArray, List.getElem?_cons_succ, List.getElem?_cons_zero]; exact rfl)
                  case kd142 =>
                    go_simp
                    refine (works_any _ (htw _ (by exact hfd139))).mono ?_
                    rintro e Vd142 ⟨rfl, hvd142⟩
                    have hfd142 : Below W3.heap.size W3 Vd142 := Below.trans (by exact hfd139) (hvd142.mono (hfd139).size)
                    (try dsimp only)
                    refine hK _ _ ?_
                    clear hK K
                    try simp only [Act.put, List.setIfInBounds_toArray, List.set_cons_zero, List.set_cons_succ]
                    refine wpAny_take (i := 14) (oi := ?oid143) (v := ?vd143) ?hod143 (by kernel_rfl) ?hfd143 ?hrd143 ?hQd143 ?hyd143 ?restd143
                    case hod143 => (simp only [List.getElem?_toArray, List.getElem?_cons_succ, List.getElem?_cons_zero]; exact rfl)
                    case hfd143 => kernel_rfl
                    case hrd143 => kernel_rfl
                    case hQd143 => exact fun _ _ _ h => h
                    case hyd143 =>
                      refine Or.inl ⟨by rfl, ?_⟩
                      intro w
                      go_simp
                      (try with_reducible rfl)
                    try simp only [Act.put, List.setIfInBounds_toArray, List.set_cons_zero, List.set_cons_succ]
                    refine wpAny_take (i := 15) (oi := ?oid144) (v := ?vd144) ?hod144 (by kernel_rfl) ?hfd144 ?hrd144 ?hQd144 ?hyd144 ?restd144
                    case hod144 => (simp only [List.getElem?_toArray, List.getElem?_cons_succ, List.getElem?_cons_zero]; exact rfl)
                    case hfd144 => kernel_rfl
                    case hrd144 => kernel_rfl
                    case hQd144 => exact fun _ _ _ h => h
                    case hyd144 =>
                      refine Or.inl ⟨by rfl, ?_⟩
                      intro w
                      go_simp
                      (try with_reducible rfl)
                    try simp only [Act.put, List.setIfInBounds_toArray, List.set_cons_zero, List.set_cons_succ]
                    refine wpAny_done (by kernel_rfl) ?_ _
                    repeat go_step
                    go_ret
                    exact ⟨rfl, HBW3.out.trans (Below.mono (by exact hfd142) HZ3)⟩
                  exact AllReady.nil
                exact AllReady.nil
              exact AllReady.nil
            exact AllReady.nil
          exact AllReady.nil
        exact AllReady.nil
end hmacKeys
end Go.Proofs.YtgkfebbifgkkeaaDoor
