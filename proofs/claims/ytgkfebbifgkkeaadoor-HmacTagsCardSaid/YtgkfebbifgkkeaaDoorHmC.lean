/- Layer 3 (hmac): a mac in memory; New. -/
import Derived.Test.YtgkfebbifgkkeaaDoorHmB
import Derived.Test.YtgkfebbifgkkeaaDoorTail
set_option linter.unusedVariables false
set_option linter.unusedSimpArgs false
namespace Go.Proofs.YtgkfebbifgkkeaaDoor
open Go Go.RowKit

/-- A mac of a key, at block g. -/
def Mac (w : World) (g : Nat) (key : List UInt8) : Prop :=
  ∃ i o, Bk w g 50 [.pointer (some ⟨i, 0, none⟩), .pointer (some ⟨o, 0, none⟩)] ∧ St w i (xorL 54 (keyB key)) ∧ St w o (xorL 92 (keyB key))
theorem Mac.later {w w' : World} {g : Nat} {key : List UInt8} (h : Mac w g key) (hb : Below w.heap.size w w') : Mac w' g key := by
  obtain ⟨i, o, h1, h2, h3⟩ := h
  exact ⟨i, o, h1.later hb, h2.later hb, h3.later hb⟩
theorem Mac.lt {w : World} {g : Nat} {key : List UInt8} (h : Mac w g key) : g < w.heap.size := by
  obtain ⟨i, o, h1, h2, h3⟩ := h
  exact h1.lt
theorem begun_k (k : Int) (m : UInt8) (hk : k = un m) (blk : List UInt8) (w : World) (hl : blk.length = 64) (ht : Tab w) :
    Calls Tryd.prog 22 #[.agg (blk.map bv).toArray, .int .u8 k] w fun e w' => ∃ g, e = .returned (.pointer (some ⟨g, 0, none⟩)) ∧ w.heap.size ≤ g ∧ St w' g (xorL m blk) ∧ Below w.heap.size w w' := by
  subst hk
  exact begun_any blk m w hl ht
theorem blk64 (key : List UInt8) : (zB 64).toArray.size = ((keyB key).map bv).toArray.size := by rw [List.size_toArray, List.size_toArray, List.length_map, keyB_len]; rfl
theorem zero2m (w : World) : (zeroValue 50).run Tryd.prog w = .ok (.agg #[.pointer none, .pointer none]) w := by kernel_rfl

set_option maxRecDepth 100000 in
set_option maxHeartbeats 1000000 in
theorem newMac_any (A : Option Addr) (n c : Nat) (key : List UInt8) (w : World) (hr : Rd w w.heap.size 1 A n (key.map bv)) (hnc : n ≤ c) (hbd : n ≤ 1125899906842624) (ht : Tab w) :
    Calls Tryd.prog 10 #[.slice A n c] w fun e w' => ∃ g, e = .returned (.pointer (some ⟨g, 0, none⟩)) ∧ w.heap.size ≤ g ∧ Mac w' g key ∧ Below w.heap.size w w' := by
  have HT := Lib.hid ht
  have HB := Lib.hid (blockOf_any A n c key w hr hnc hbd ht)
  have hkl := keyB_len key
  have hsl : (Tryd.prog.info? 45).map (·.size) = some ((keyB key).map bv).length := by
    rw [List.length_map, hkl]
    kernel_rfl
  have HSL := Lib.hid hsl
  have HKL := Lib.hid hkl
  have k54 : (54 : Int) = un 54 := rfl
  have k92 : (92 : Int) = un 92 := rfl
  have K54 := Lib.hid k54
  have K92 := Lib.hid k92
  have hz64 := zero64v
  clear hr ht hkl hsl k54 k92
  go_enter Tryd.func10, Tryd.ntmps10
  go_wp2_with fail
  refine HB.out.mono ?_
  rintro e w1 ⟨rfl, hb1⟩
  have HS1 := Lib.hid hb1.size
  obtain ⟨W1, hW1, hk1, hbw1, hs1⟩ : ∃ W1, W1 = w1.alloc (.cells ((keyB key).map bv).toArray 45) ∧ Bk W1 w1.heap.size 45 ((keyB key).map bv) ∧ Below w.heap.size w W1 ∧ W1.heap.size = w1.heap.size + 1 :=
    ⟨_, rfl, Bk.new w1 _ _, hb1.alloc hb1.size _, by simp⟩
  have HW1 := Lib.hid hW1
  have HK1 := Lib.hid hk1
  have HBW := Lib.hid hbw1
  have HS2 := Lib.hid hs1
  clear hW1 hk1 hbw1 hs1 hb1 HB
  go_wp2_with (refine wpList_store_new rfl 45 _ _ rfl w1 _ _ rfl rfl (blkSize _ HKL.out) (blk64 key) (bvOne _) ?_; rw [← HW1.out])
  have hrg : ∀ (W : World), Below w1.heap.size.succ W1 W → W.rangeAt w1.heap.size 0 ((keyB key).map bv) := fun W h j v hv => by
    rw [Nat.zero_add, (HK1.out.below h (Nat.lt_succ_self _)).cell]
    exact hv
  have htb : ∀ (W : World), Below w1.heap.size.succ W1 W → Tab W := fun W h => HT.out.below (HBW.out.trans (h.mono (by have := HS1.out; omega)))
  have hd0 : Below w1.heap.size.succ W1 W1.drew := belowDrewN (Below.refl _ _) 1
  refine wp_region_any (by kernel_rfl) ?_
  try (change wpAny _ _ _ _ _ _ _ (World.drew _))
  refine wpAny_ready (rs := [0, 2]) (by kernel_rfl) (by simp) ?_
  refine AllReady.cons (o := ?oa1) ?hoa1 (fun K hK => ?ka1) ?ma1
  case hoa1 => (simp only [List.getElem?_toArray, List.getElem?_cons_succ, List.getElem?_cons_zero]; exact rfl)
  case ka1 =>
    refine any_load_mid (by rfl) 45 (.tmp 3) rfl w1.heap.size 0 rfl ((keyB key).map bv) _ (hrg _ (by exact hd0)) Tryd.underlying45 rfl HSL.out ?_
    refine hK _ _ ?_
    clear hK K
    try simp only [Act.put, List.setIfInBounds_toArray, List.set_cons_zero, List.set_cons_succ]
    refine wpAny_ready (rs := [1, 2]) (by kernel_rfl) (by simp) ?_
    refine AllReady.cons (o := ?oa2) ?hoa2 (fun K hK => ?ka2) ?ma2
    case hoa2 => (simp only [List.getElem?_toArray, List.getElem?_cons_succ, List.getElem?_cons_zero]; exact rfl)
    case ka2 =>
      go_simp
      refine (begun_k 54 54 K54.out (keyB key) _ HKL.out (htb _ (by exact hd0))).mono ?_
      rintro e V1 ⟨ga, rfl, hga, hsta, hv1⟩
      (try dsimp only)
      refine hK _ _ ?_
      clear hK K
      try simp only [Act.put, List.setIfInBounds_toArray, List.set_cons_zero, List.set_cons_succ]
      have hf1 : Below w1.heap.size.succ W1 V1 := Below.trans (by exact hd0) (hv1.mono (by have h := Below.size (by exact hd0 : Below w1.heap.size.succ W1 _); have h2 := HS2.out; first | exact h | omega))
      refine wpAny_ready (rs := [2]) (by kernel_rfl) (by simp) ?_
      refine AllReady.cons (o := ?oa3) ?hoa3 (fun K hK => ?ka3) ?ma3
      case hoa3 => (simp only [List.getElem?_toArray, List.getElem?_cons_succ, List.getElem?_cons_zero]; exact rfl)
      case ka3 =>
        refine any_load_mid (by rfl) 45 (.tmp 3) rfl w1.heap.size 0 rfl ((keyB key).map bv) _ (hrg _ (by exact hf1)) Tryd.underlying45 rfl HSL.out ?_
        refine hK _ _ ?_
        clear hK K
        try simp only [Act.put, List.setIfInBounds_toArray, List.set_cons_zero, List.set_cons_succ]
        refine wpAny_ready (rs := [3]) (by kernel_rfl) (by simp) ?_
        refine AllReady.cons (o := ?oa4) ?hoa4 (fun K hK => ?ka4) ?ma4
        case hoa4 => (simp only [List.getElem?_toArray, List.getElem?_cons_succ, List.getElem?_cons_zero]; exact rfl)
        case ka4 =>
          go_simp
          refine (begun_k 92 92 K92.out (keyB key) _ HKL.out (htb _ (by exact hf1))).mono ?_
          rintro e V2 ⟨gb, rfl, hgb, hstb, hv2⟩
          (try dsimp only)
          refine hK _ _ ?_
          clear hK K
          try simp only [Act.put, List.setIfInBounds_toArray, List.set_cons_zero, List.set_cons_succ]
          have hf2 : Below w1.heap.size.succ W1 V2 := Below.trans (by exact hf1) (hv2.mono (by have h := Below.size (by exact hf1 : Below w1.heap.size.succ W1 _); have h2 := HS2.out; first | exact h | omega))
          have hsta' : St V2 ga _ := hsta.later hv2
          have hstb' := hstb
          refine wpAny_take (i := 4) (oi := ?oia5) (v := ?va5) ?hoa5 (by kernel_rfl) ?hfa5 ?hra5 ?hQa5 ?hya5 ?resta5
          case hoa5 => (simp only [List.getElem?_toArray, List.getElem?_cons_succ, List.getElem?_cons_zero]; exact rfl)
          case hfa5 => kernel_rfl
          case hra5 => kernel_rfl
          case hQa5 => exact fun _ _ _ h => h
          case hya5 =>
            refine Or.inl ⟨by rfl, ?_⟩
            intro w
            go_simp
            (try with_reducible rfl)
          try simp only [Act.put, List.setIfInBounds_toArray, List.set_cons_zero, List.set_cons_succ]
          refine wpAny_ready (rs := [5]) (by kernel_rfl) (by simp) ?_
          refine AllReady.cons (o := ?oa6) ?hoa6 (fun K hK => ?ka6) ?ma6
          case hoa6 => (simp only [List.getElem?_toArray, List.getElem?_cons_succ, List.getElem?_cons_zero]; exact rfl)
          case ka6 =>
            go_simp
            refine hK _ _ ?_
            clear hK K
            try simp only [Act.put, List.setIfInBounds_toArray, List.set_cons_zero, List.set_cons_succ]
            refine wpAny_take (i := 6) (oi := ?oia7) (v := ?va7) ?hoa7 (by kernel_rfl) ?hfa7 ?hra7 ?hQa7 ?hya7 ?resta7
            case hoa7 => (simp only [List.getElem?_toArray, List.getElem?_cons_succ, List.getElem?_cons_zero]; exact rfl)
            case hfa7 => kernel_rfl
            case hra7 => kernel_rfl
            case hQa7 => exact fun _ _ _ h => h
            case hya7 =>
              refine Or.inl ⟨by rfl, ?_⟩
              intro w
              go_simp
              (try with_reducible rfl)
            try simp only [Act.put, List.setIfInBounds_toArray, List.set_cons_zero, List.set_cons_succ]
            refine wpAny_done (by kernel_rfl) ?_ _
            go_wp2
            go_ret
            refine ⟨_, rfl, ?_, ⟨_, _, Bk.new V2 _ [_, _], ?_, ?_⟩, ?_⟩
            · have := hf2.size; have := HS1.out; have := HS2.out; omega
            · exact (hsta').alloc _
            · exact (hstb').alloc _
            · exact ((HBW.out.trans (hf2.mono (by have := HS1.out; omega))).alloc (by have := hf2.size; have := HS1.out; have := HS2.out; omega) _)
          exact AllReady.nil
        exact AllReady.nil
      exact AllReady.nil
    refine AllReady.cons (o := ?oa8) ?hoa8 (fun K hK => ?ka8) ?ma8
    case hoa8 => (simp only [List.getElem?_toArray, List.getElem?_cons_succ, List.getElem?_cons_zero]; exact rfl)
    case ka8 =>
      refine any_load_mid (by rfl) 45 (.tmp 3) rfl w1.heap.size 0 rfl ((keyB key).map bv) _ (hrg _ (by exact hd0)) Tryd.underlying45 rfl HSL.out ?_
      refine hK _ _ ?_
      clear hK K
      try simp only [Act.put, List.setIfInBounds_toArray, List.set_cons_zero, List.set_cons_succ]
      refine wpAny_ready (rs := [1]) (by kernel_rfl) (by simp) ?_
      refine AllReady.cons (o := ?oa9) ?hoa9 (fun K hK => ?ka9) ?ma9
      case hoa9 => (simp only [List.getElem?_toArray, List.getElem?_cons_succ, List.getElem?_cons_zero]; exact rfl)
      case ka9 =>
        go_simp
        refine (begun_k 54 54 K54.out (keyB key) _ HKL.out (htb _ (by exact hd0))).mono ?_
        rintro e V1 ⟨ga, rfl, hga, hsta, hv1⟩
        (try dsimp only)
        refine hK _ _ ?_
        clear hK K
        try simp only [Act.put, List.setIfInBounds_toArray, List.set_cons_zero, List.set_cons_succ]
        have hf1 : Below w1.heap.size.succ W1 V1 := Below.trans (by exact hd0) (hv1.mono (by have h := Below.size (by exact hd0 : Below w1.heap.size.succ W1 _); have h2 := HS2.out; first | exact h | omega))
        refine wpAny_ready (rs := [3]) (by kernel_rfl) (by simp) ?_
        refine AllReady.cons (o := ?oa10) ?hoa10 (fun K hK => ?ka10) ?ma10
        case hoa10 => (simp only [List.getElem?_toArray, List.getElem?_cons_succ, List.getElem?_cons_zero]; exact rfl)
        case ka10 =>
          go_simp
          refine (begun_k 92 92 K92.out (keyB key) _ HKL.out (htb _ (by exact hf1))).mono ?_
          rintro e V2 ⟨gb, rfl, hgb, hstb, hv2⟩
          (try dsimp only)
          refine hK _ _ ?_
          clear hK K
          try simp only [Act.put, List.setIfInBounds_toArray, List.set_cons_zero, List.set_cons_succ]
          have hf2 : Below w1.heap.size.succ W1 V2 := Below.trans (by exact hf1) (hv2.mono (by have h := Below.size (by exact hf1 : Below w1.heap.size.succ W1 _); have h2 := HS2.out; first | exact h | omega))
          have hsta' : St V2 ga _ := hsta.later hv2
          have hstb' := hstb
          refine wpAny_take (i := 4) (oi := ?oia11) (v := ?va11) ?hoa11 (by kernel_rfl) ?hfa11 ?hra11 ?hQa11 ?hya11 ?resta11
          case hoa11 => (simp only [List.getElem?_toArray, List.getElem?_cons_succ, List.getElem?_cons_zero]; exact rfl)
          case hfa11 => kernel_rfl
          case hra11 => kernel_rfl
          case hQa11 => exact fun _ _ _ h => h
          case hya11 =>
            refine Or.inl ⟨by rfl, ?_⟩
            intro w
            go_simp
            (try with_reducible rfl)
          try simp only [Act.put, List.setIfInBounds_toArray, List.set_cons_zero, List.set_cons_succ]
          refine wpAny_ready (rs := [5]) (by kernel_rfl) (by simp) ?_
          refine AllReady.cons (o := ?oa12) ?hoa12 (fun K hK => ?ka12) ?ma12
          case hoa12 => (simp only [List.getElem?_toArray, List.getElem?_cons_succ, List.getElem?_cons_zero]; exact rfl)
          case ka12 =>
            go_simp
            refine hK _ _ ?_
            clear hK K
            try simp only [Act.put, List.setIfInBounds_toArray, List.set_cons_zero, List.set_cons_succ]
            refine wpAny_take (i := 6) (oi := ?oia13) (v := ?va13) ?hoa13 (by kernel_rfl) ?hfa13 ?hra13 ?hQa13 ?hya13 ?resta13
            case hoa13 => (simp only [List.getElem?_toArray, List.getElem?_cons_succ, List.getElem?_cons_zero]; exact rfl)
            case hfa13 => kernel_rfl
            case hra13 => kernel_rfl
            case hQa13 => exact fun _ _ _ h => h
            case hya13 =>
              refine Or.inl ⟨by rfl, ?_⟩
              intro w
              go_simp
              (try with_reducible rfl)
            try simp only [Act.put, List.setIfInBounds_toArray, List.set_cons_zero, List.set_cons_succ]
            refine wpAny_done (by kernel_rfl) ?_ _
            go_wp2
            go_ret
            refine ⟨_, rfl, ?_, ⟨_, _, Bk.new V2 _ [_, _], ?_, ?_⟩, ?_⟩
            · have := hf2.size; have := HS1.out; have := HS2.out; omega
            · exact (hsta').alloc _
            · exact (hstb').alloc _
            · exact ((HBW.out.trans (hf2.mono (by have := HS1.out; omega))).alloc (by have := hf2.size; have := HS1.out; have := HS2.out; omega) _)
          exact AllReady.nil
        exact AllReady.nil
      exact AllReady.nil
    exact AllReady.nil
  refine AllReady.cons (o := ?oa14) ?hoa14 (fun K hK => ?ka14) ?ma14
  case hoa14 => (simp only [List.getElem?_toArray, List.getElem?_cons_succ, List.getElem?_cons_zero]; exact rfl)
  case ka14 =>
    refine any_load_mid (by rfl) 45 (.tmp 3) rfl w1.heap.size 0 rfl ((keyB key).map bv) _ (hrg _ (by exact hd0)) Tryd.underlying45 rfl HSL.out ?_
    refine hK _ _ ?_
    clear hK K
    try simp only [Act.put, List.setIfInBounds_toArray, List.set_cons_zero, List.set_cons_succ]
    refine wpAny_ready (rs := [0]) (by kernel_rfl) (by simp) ?_
    refine AllReady.cons (o := ?oa15) ?hoa15 (fun K hK => ?ka15) ?ma15
    case hoa15 => (simp only [List.getElem?_toArray, List.getElem?_cons_succ, List.getElem?_cons_zero]; exact rfl)
    case ka15 =>
      refine any_load_mid (by rfl) 45 (.tmp 3) rfl w1.heap.size 0 rfl ((keyB key).map bv) _ (hrg _ (by exact hd0)) Tryd.underlying45 rfl HSL.out ?_
      refine hK _ _ ?_
      clear hK K
      try simp only [Act.put, List.setIfInBounds_toArray, List.set_cons_zero, List.set_cons_succ]
      refine wpAny_ready (rs := [1]) (by kernel_rfl) (by simp) ?_
      refine AllReady.cons (o := ?oa16) ?hoa16 (fun K hK => ?ka16) ?ma16
      case hoa16 => (simp only [List.getElem?_toArray, List.getElem?_cons_succ, List.getElem?_cons_zero]; exact rfl)
      case ka16 =>
        go_simp
        refine (begun_k 54 54 K54.out (keyB key) _ HKL.out (htb _ (by exact hd0))).mono ?_
        rintro e V1 ⟨ga, rfl, hga, hsta, hv1⟩
        (try dsimp only)
        refine hK _ _ ?_
        clear hK K
        try simp only [Act.put, List.setIfInBounds_toArray, List.set_cons_zero, List.set_cons_succ]
        have hf1 : Below w1.heap.size.succ W1 V1 := Below.trans (by exact hd0) (hv1.mono (by have h := Below.size (by exact hd0 : Below w1.heap.size.succ W1 _); have h2 := HS2.out; first | exact h | omega))
        refine wpAny_ready (rs := [3]) (by kernel_rfl) (by simp) ?_
        refine AllReady.cons (o := ?oa17) ?hoa17 (fun K hK => ?ka17) ?ma17
        case hoa17 => (simp only [List.getElem?_toArray, List.getElem?_cons_succ, List.getElem?_cons_zero]; exact rfl)
        case ka17 =>
          go_simp
          refine (begun_k 92 92 K92.out (keyB key) _ HKL.out (htb _ (by exact hf1))).mono ?_
          rintro e V2 ⟨gb, rfl, hgb, hstb, hv2⟩
          (try dsimp only)
          refine hK _ _ ?_
          clear hK K
          try simp only [Act.put, List.setIfInBounds_toArray, List.set_cons_zero, List.set_cons_succ]
          have hf2 : Below w1.heap.size.succ W1 V2 := Below.trans (by exact hf1) (hv2.mono (by have h := Below.size (by exact hf1 : Below w1.heap.size.succ W1 _); have h2 := HS2.out; first | exact h | omega))
          have hsta' : St V2 ga _ := hsta.later hv2
          have hstb' := hstb
          refine wpAny_take (i := 4) (oi := ?oia18) (v := ?va18) ?hoa18 (by kernel_rfl) ?hfa18 ?hra18 ?hQa18 ?hya18 ?resta18
          case hoa18 => (simp only [List.getElem?_toArray, List.getElem?_cons_succ, List.getElem?_cons_zero]; exact rfl)
          case hfa18 => kernel_rfl
          case hra18 => kernel_rfl
          case hQa18 => exact fun _ _ _ h => h
          case hya18 =>
            refine Or.inl ⟨by rfl, ?_⟩
            intro w
            go_simp
            (try with_reducible rfl)
          try simp only [Act.put, List.setIfInBounds_toArray, List.set_cons_zero, List.set_cons_succ]
          refine wpAny_ready (rs := [5]) (by kernel_rfl) (by simp) ?_
          refine AllReady.cons (o := ?oa19) ?hoa19 (fun K hK => ?ka19) ?ma19
          case hoa19 => (simp only [List.getElem?_toArray, List.getElem?_cons_succ, List.getElem?_cons_zero]; exact rfl)
          case ka19 =>
            go_simp
            refine hK _ _ ?_
            clear hK K
            try simp only [Act.put, List.setIfInBounds_toArray, List.set_cons_zero, List.set_cons_succ]
            refine wpAny_take (i := 6) (oi := ?oia20) (v := ?va20) ?hoa20 (by kernel_rfl) ?hfa20 ?hra20 ?hQa20 ?hya20 ?resta20
            case hoa20 => (simp only [List.getElem?_toArray, List.getElem?_cons_succ, List.getElem?_cons_zero]; exact rfl)
            case hfa20 => kernel_rfl
            case hra20 => kernel_rfl
            case hQa20 => exact fun _ _ _ h => h
            case hya20 =>
              refine Or.inl ⟨by rfl, ?_⟩
              intro w
              go_simp
              (try with_reducible rfl)
            try simp only [Act.put, List.setIfInBounds_toArray, List.set_cons_zero, List.set_cons_succ]
            refine wpAny_done (by kernel_rfl) ?_ _
            go_wp2
            go_ret
            refine ⟨_, rfl, ?_, ⟨_, _, Bk.new V2 _ [_, _], ?_, ?_⟩, ?_⟩
            · have := hf2.size; have := HS1.out; have := HS2.out; omega
            · exact (hsta').alloc _
            · exact (hstb').alloc _
            · exact ((HBW.out.trans (hf2.mono (by have := HS1.out; omega))).alloc (by have := hf2.size; have := HS1.out; have := HS2.out; omega) _)
          exact AllReady.nil
        exact AllReady.nil
      exact AllReady.nil
    exact AllReady.nil
  exact AllReady.nil
end Go.Proofs.YtgkfebbifgkkeaaDoor
