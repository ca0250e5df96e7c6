/- Layer 3 (hmac): Tag, Right. -/
import Derived.Test.YtgkfebbifgkkeaaDoorHmD
import Derived.Test.YtgkfebbifgkkeaaDoorShaX
set_option linter.unusedVariables false
set_option linter.unusedSimpArgs false
namespace Go.Proofs.YtgkfebbifgkkeaaDoor
open Go Go.RowKit

set_option maxRecDepth 100000 in
set_option maxHeartbeats 1000000 in
theorem macTag_any (g : Nat) (key : List UInt8) (A : Option Addr) (n c : Nat) (R : List RowA) (sl : List (List UInt8)) (w : World) (hm : Mac w g key) (hr : Rws w w.heap.size A n R sl) (hbd : sl.flatten.length ≤ 1099511627776) (hnb : n ≤ 1099511627776) (ht : Tab w) :
    Calls Tryd.prog 12 #[.pointer (some ⟨g, 0, none⟩), .slice A n c] w fun e w' => e = .returned (tagH key sl.flatten) ∧ Below w.heap.size w w' := by
  obtain ⟨W0, hW0, hz0, hbw0, hs0⟩ := zero27 w
  have HW0 := Lib.hid hW0
  have HM := Lib.hid (hm.later hbw0)
  have HR := Lib.hid ((hr.below hbw0))
  have HT := Lib.hid (ht.below hbw0)
  have HS0 := Lib.hid hs0
  clear hW0 hs0 hr ht hm
  go_enter Tryd.func12, Tryd.ntmps12
  go_wp2_with fail
  rw [← HW0.out]
  refine (missing_any g key W0 HM.out).mono ?_
  rintro e W1 ⟨rfl, rfl⟩
  go_wp2_with fail
  refine (is_nil 2 W0).mono ?_
  rintro e W1 ⟨rfl, rfl⟩
  go_wp2_with fail
  refine (made_any g key A n c R sl W0 HM.out (Rws.more HR.out (by have := HS0.out; omega)) hbd hnb HT.out).mono ?_
  rintro e W2 ⟨rfl, hb2⟩
  have hz2 := hz0.later hb2
  have hbw2 := hbw0.trans (hb2.mono (by have := HS0.out; omega))
  have hsz2 := tagSizeH key sl.flatten
  clear hz0 hbw0 hb2
  unfold tagH
  go_wp2_with (refine wpList_store_row (P := Tryd.prog) rfl 28 _ _ rfl w.heap.size _ rfl rfl _ _ hz2 hsz2 (by simp [zB, hmacL_len]) (by simp [bv, Value.oneCell']) ?_)
  refine bodyPost_ret (v := .agg ((hmacL key sl.flatten).map bv).toArray) (results_cell_row rfl _ _ w.heap.size _ _ _ _ rfl (setRow_heap W2 w.heap.size _ _ _ _ hz2) Tryd.underlying28 rfl hsz2) rfl ⟨rfl, below_setRow hbw2 (Nat.le_refl _) _⟩

set_option maxRecDepth 100000 in
set_option maxHeartbeats 1000000 in
theorem hTag_any (A0 A1 : Option Addr) (n0 c0 n1 c1 : Nat) (key msg : List UInt8) (w : World) (h0 : Rd w w.heap.size 1 A0 n0 (key.map bv)) (k0 : n0 ≤ c0) (h1 : Rd w w.heap.size 1 A1 n1 (msg.map bv)) (k1 : n1 ≤ c1) (hb0 : n0 ≤ 1099511627776) (hb1 : n1 ≤ 1099511627776) (ht : Tab w) :
    Calls Tryd.prog 11 #[.slice A0 n0 c0, .slice A1 n1 c1] w fun e w' => e = .returned (tagH key msg) ∧ Below w.heap.size w w' := by
  obtain ⟨W0, hW0, hz0, hbw0, hs0⟩ := zero27 w
  have HW0 := Lib.hid hW0
  have H0 := Lib.hid (h0.below hbw0)
  have H1 := Lib.hid (h1.below hbw0)
  have HT := Lib.hid (ht.below hbw0)
  have HS0 := Lib.hid hs0
  have hl1 : msg.length = n1 := by simpa using h1.len1
  have HL1 := Lib.hid hl1
  clear hW0 hs0 h0 h1 ht hl1
  go_enter Tryd.func11, Tryd.ntmps11
  go_wp2_with fail
  rw [← HW0.out]
  refine (newMac_any A0 n0 c0 key W0 (H0.out.more (by have := HS0.out; omega)) k0 (by omega) HT.out).mono ?_
  rintro e W1 ⟨g, rfl, hg, hm1, hb1⟩
  have hz1 := hz0.later hb1
  have hbw1 := hbw0.trans (hb1.mono (by have := HS0.out; omega))
  have ht1 := HT.out.below hb1
  have h11 := (H1.out.below (hb1.mono (by have := HS0.out; omega))).more hbw1.size
  clear hz0 hbw0 hb1 hg
  have hma := hm1.later ((Below.refl _ _).alloc (Nat.le_refl _) (.cells #[.slice A1 n1 c1] 22))
  have hta := ht1.below ((Below.refl _ _).alloc (Nat.le_refl _) (.cells #[.slice A1 n1 c1] 22))
  have hra := Rws.lit1 22 h11 k1
  have HMA := Lib.hid hma
  have HTA := Lib.hid hta
  have HRA := Lib.hid hra
  clear hma hta hra hm1 ht1 h11
  go_wp2_with fail
  refine (macTag_any g key _ 1 1 _ [msg] _ HMA.out HRA.out (by have := HL1.out; simp; omega) (by omega) HTA.out).mono ?_
  rintro e W2 ⟨rfl, hb2⟩
  rw [show [msg].flatten = msg from by simp]
  have hz2 := (hz1.alloc _).later hb2
  have hbw2 := (hbw1.alloc hbw1.size _).trans (hb2.mono (by have := hbw1.size; simp; omega))
  have hsz2 := tagSizeH key msg
  clear hz1 hbw1 hb2
  unfold tagH
  go_wp2_with (refine wpList_store_row (P := Tryd.prog) rfl 28 _ _ rfl w.heap.size _ rfl rfl _ _ hz2 hsz2 (by simp [zB, hmacL_len]) (by simp [bv, Value.oneCell']) ?_)
  refine bodyPost_ret (v := .agg ((hmacL key msg).map bv).toArray) (results_cell_row rfl _ _ w.heap.size _ _ _ _ rfl (setRow_heap W2 w.heap.size _ _ _ _ hz2) Tryd.underlying28 rfl hsz2) rfl ⟨rfl, below_setRow hbw2 (Nat.le_refl _) _⟩

set_option maxRecDepth 100000 in
set_option maxHeartbeats 1000000 in
theorem right_yes (g : Nat) (key xs : List UInt8) (A : Option Addr) (n c : Nat) (R : List RowA) (sl : List (List UInt8)) (w : World) (hm : Mac w g key) (hr : Rws w w.heap.size A n R sl) (hbd : sl.flatten.length ≤ 1099511627776) (hnb : n ≤ 1099511627776) (ht : Tab w) (hl : xs.length = 32) (hb : (xs == hmacL key sl.flatten) = true) :
    Calls Tryd.prog 14 #[.pointer (some ⟨g, 0, none⟩), .agg (xs.map bv).toArray, .slice A n c] w fun e w' => e = .returned .nilIface ∧ Below w.heap.size w w' := by
  obtain ⟨W0, hW0, hz0, hbw0, hs0⟩ : ∃ W0, W0 = w.alloc (.cells (xs.map bv).toArray 28) ∧ Bk W0 w.heap.size 28 (xs.map bv) ∧ Below w.heap.size w W0 ∧ W0.heap.size = w.heap.size + 1 :=
    ⟨_, rfl, Bk.new w _ _, (Below.refl _ _).alloc (Nat.le_refl _) _, by simp⟩
  have HW0 := Lib.hid hW0
  have HZ := Lib.hid hz0
  have HB0 := Lib.hid hbw0
  have HM := Lib.hid (hm.later hbw0)
  have HR := Lib.hid (hr.below hbw0)
  have HT := Lib.hid (ht.below hbw0)
  have HS0 := Lib.hid hs0
  have HB := Lib.hid hb
  have HL := Lib.hid hl
  have hrx : Rws W0.drew W0.drew.heap.size A n R sl := (Rws.more HR.out (show w.heap.size ≤ W0.heap.size by omega)).below (belowDrewN (Below.refl _ _) 1)
  have HRX := Lib.hid hrx
  clear hrx
  have hsl : (Tryd.prog.info? 28).map (·.size) = some (xs.map bv).length := by
    rw [List.length_map, hl]
    kernel_rfl
  have HSL := Lib.hid hsl
  clear hW0 hs0 hr ht hm hb hl hsl hz0 hbw0
  go_enter Tryd.func14, Tryd.ntmps14
  go_wp2_with fail
  rw [← HW0.out]
  refine (missing_any g key W0 HM.out).mono ?_
  rintro e W1 ⟨rfl, rfl⟩
  go_wp2_with fail
  have hrg : ∀ (W : World), Below W0.heap.size W0 W → W.rangeAt w.heap.size 0 (xs.map bv) := fun W h j v hv => by
    rw [Nat.zero_add, (HZ.out.later h).cell]
    exact hv
  have hd0 : Below W0.heap.size W0 W0.drew := belowDrewN (Below.refl _ _) 1
  refine wp_region_any (by kernel_rfl) ?_
  try (change wpAny _ _ _ _ _ _ _ (World.drew _))
  refine wpAny_take (i := 1) (oi := ?oia1) (v := ?va1) ?hoa1 (by kernel_rfl) ?hfa1 ?hra1 ?hQa1 ?hya1 ?resta1
  case hoa1 => (simp only [List.getElem?_toArray, List.getElem?_cons_succ, List.getElem?_cons_zero]; exact rfl)
  case hfa1 => kernel_rfl
  case hra1 => kernel_rfl
  case hQa1 => exact fun _ _ _ h => h
  case hya1 =>
    refine Or.inl ⟨by rfl, ?_⟩
    intro w
    go_simp
    (try with_reducible rfl)
  try simp only [Act.put, List.setIfInBounds_toArray, List.set_cons_zero, List.set_cons_succ]
  refine wpAny_take (i := 2) (oi := ?oia2) (v := ?va2) ?hoa2 (by kernel_rfl) ?hfa2 ?hra2 ?hQa2 ?hya2 ?resta2
  case hoa2 => (simp only [List.getElem?_toArray, List.getElem?_cons_succ, List.getElem?_cons_zero]; exact rfl)
  case hfa2 => kernel_rfl
  case hra2 => kernel_rfl
  case hQa2 => exact fun _ _ _ h => h
  case hya2 =>
    refine Or.inl ⟨by rfl, ?_⟩
    intro w
    go_simp
    (try with_reducible rfl)
  try simp only [Act.put, List.setIfInBounds_toArray, List.set_cons_zero, List.set_cons_succ]
  refine wpAny_ready (rs := [0, 3]) (by kernel_rfl) (by simp) ?_
  refine AllReady.cons (o := ?oa3) ?hoa3 (fun K hK => ?ka3) ?ma3
  case hoa3 => (simp only [List.getElem?_toArray, List.getElem?_cons_succ, List.getElem?_cons_zero]; exact rfl)
  case ka3 =>
    refine any_load_mid (by rfl) 28 (.tmp 4) rfl w.heap.size 0 rfl (xs.map bv) _ (hrg _ (by exact hd0)) Tryd.underlying28 rfl HSL.out ?_
    refine hK _ _ ?_
    clear hK K
    try simp only [Act.put, List.setIfInBounds_toArray, List.set_cons_zero, List.set_cons_succ]
    refine wpAny_ready (rs := [3]) (by kernel_rfl) (by simp) ?_
    refine AllReady.cons (o := ?oa4) ?hoa4 (fun K hK => ?ka4) ?ma4
    case hoa4 => (simp only [List.getElem?_toArray, List.getElem?_cons_succ, List.getElem?_cons_zero]; exact rfl)
    case ka4 =>
      go_simp
      refine (made_any g key A n c R sl _ (by exact (HM.out : Mac W0 g key)) HRX.out hbd hnb (by exact (HT.out : Tab W0))).mono ?_
      rintro e V1 ⟨rfl, hv1⟩
      (try dsimp only)
      refine hK _ _ ?_
      clear hK K
      try simp only [Act.put, List.setIfInBounds_toArray, List.set_cons_zero, List.set_cons_succ]
      refine wpAny_ready (rs := [4]) (by kernel_rfl) (by simp) ?_
      refine AllReady.cons (o := ?oa5) ?hoa5 (fun K hK => ?ka5) ?ma5
      case hoa5 => (simp only [List.getElem?_toArray, List.getElem?_cons_succ, List.getElem?_cons_zero]; exact rfl)
      case ka5 =>
        go_simp
        refine (same_any xs (hmacL key sl.flatten) _ HL.out (hmacL_len _ _)).mono ?_
        rintro e V2 ⟨rfl, hv2⟩
        (try dsimp only)
        rw [HB.out]
        refine hK _ _ ?_
        clear hK K
        try simp only [Act.put, List.setIfInBounds_toArray, List.set_cons_zero, List.set_cons_succ]
        refine wpAny_take (i := 5) (oi := ?oia6) (v := ?va6) ?hoa6 (by kernel_rfl) ?hfa6 ?hra6 ?hQa6 ?hya6 ?resta6
        case hoa6 => (simp only [List.getElem?_toArray, List.getElem?_cons_succ, List.getElem?_cons_zero]; exact rfl)
        case hfa6 => kernel_rfl
        case hra6 => kernel_rfl
        case hQa6 => exact fun _ _ _ h => h
        case hya6 =>
          refine Or.inl ⟨by rfl, ?_⟩
          intro w
          go_simp
          (try with_reducible rfl)
        try simp only [Act.put, List.setIfInBounds_toArray, List.set_cons_zero, List.set_cons_succ]
        refine wpAny_done (by kernel_rfl) ?_ _
        go_wp2
        go_ret
        exact ⟨rfl, HB0.out.trans ((Below.trans (by exact hd0) (hv1.trans (hv2.mono hv1.size)) : Below W0.heap.size W0 V2).mono (by have := HS0.out; omega))⟩
      exact AllReady.nil
    exact AllReady.nil
  refine AllReady.cons (o := ?oa7) ?hoa7 (fun K hK => ?ka7) ?ma7
  case hoa7 => (simp only [List.getElem?_toArray, List.getElem?_cons_succ, List.getElem?_cons_zero]; exact rfl)
  case ka7 =>
    go_simp
    refine (made_any g key A n c R sl _ (by exact (HM.out : Mac W0 g key)) HRX.out hbd hnb (by exact (HT.out : Tab W0))).mono ?_
    rintro e V1 ⟨rfl, hv1⟩
    (try dsimp only)
    refine hK _ _ ?_
    clear hK K
    try simp only [Act.put, List.setIfInBounds_toArray, List.set_cons_zero, List.set_cons_succ]
    refine wpAny_ready (rs := [0]) (by kernel_rfl) (by simp) ?_
    refine AllReady.cons (o := ?oa8) ?hoa8 (fun K hK => ?ka8) ?ma8
    case hoa8 => (simp only [List.getElem?_toArray, List.getElem?_cons_succ, List.getElem?_cons_zero]; exact rfl)
    case ka8 =>
      refine any_load_mid (by rfl) 28 (.tmp 4) rfl w.heap.size 0 rfl (xs.map bv) _ (hrg _ (by exact (Below.trans (by exact hd0) hv1 : Below W0.heap.size W0 V1))) Tryd.underlying28 rfl HSL.out ?_
      refine hK _ _ ?_
      clear hK K
      try simp only [Act.put, List.setIfInBounds_toArray, List.set_cons_zero, List.set_cons_succ]
      refine wpAny_ready (rs := [4]) (by kernel_rfl) (by simp) ?_
      refine AllReady.cons (o := ?oa9) ?hoa9 (fun K hK => ?ka9) ?ma9
      case hoa9 => (simp only [List.getElem?_toArray, List.getElem?_cons_succ, List.getElem?_cons_zero]; exact rfl)
      case ka9 =>
        go_simp
        refine (same_any xs (hmacL key sl.flatten) _ HL.out (hmacL_len _ _)).mono ?_
        rintro e V2 ⟨rfl, hv2⟩
        (try dsimp only)
        rw [HB.out]
        refine hK _ _ ?_
        clear hK K
        try simp only [Act.put, List.setIfInBounds_toArray, List.set_cons_zero, List.set_cons_succ]
        refine wpAny_take (i := 5) (oi := ?oia10) (v := ?va10) ?hoa10 (by kernel_rfl) ?hfa10 ?hra10 ?hQa10 ?hya10 ?resta10
        case hoa10 => (simp only [List.getElem?_toArray, List.getElem?_cons_succ, List.getElem?_cons_zero]; exact rfl)
        case hfa10 => kernel_rfl
        case hra10 => kernel_rfl
        case hQa10 => exact fun _ _ _ h => h
        case hya10 =>
          refine Or.inl ⟨by rfl, ?_⟩
          intro w
          go_simp
          (try with_reducible rfl)
        try simp only [Act.put, List.setIfInBounds_toArray, List.set_cons_zero, List.set_cons_succ]
        refine wpAny_done (by kernel_rfl) ?_ _
        go_wp2
        go_ret
        exact ⟨rfl, HB0.out.trans ((Below.trans (by exact hd0) (hv1.trans (hv2.mono hv1.size)) : Below W0.heap.size W0 V2).mono (by have := HS0.out; omega))⟩
      exact AllReady.nil
    exact AllReady.nil
  exact AllReady.nil

set_option maxRecDepth 100000 in
set_option maxHeartbeats 1000000 in
theorem right_no (g : Nat) (key xs : List UInt8) (A : Option Addr) (n c : Nat) (R : List RowA) (sl : List (List UInt8)) (w : World) (hm : Mac w g key) (hr : Rws w w.heap.size A n R sl) (hbd : sl.flatten.length ≤ 1099511627776) (hnb : n ≤ 1099511627776) (ht : Tab w) (hl : xs.length = 32) (hb : (xs == hmacL key sl.flatten) = false) :
    Calls Tryd.prog 14 #[.pointer (some ⟨g, 0, none⟩), .agg (xs.map bv).toArray, .slice A n c] w fun e w' => e = .returned (refN 12) ∧ Below w.heap.size w w' := by
  obtain ⟨W0, hW0, hz0, hbw0, hs0⟩ : ∃ W0, W0 = w.alloc (.cells (xs.map bv).toArray 28) ∧ Bk W0 w.heap.size 28 (xs.map bv) ∧ Below w.heap.size w W0 ∧ W0.heap.size = w.heap.size + 1 :=
    ⟨_, rfl, Bk.new w _ _, (Below.refl _ _).alloc (Nat.le_refl _) _, by simp⟩
  have HW0 := Lib.hid hW0
  have HZ := Lib.hid hz0
  have HB0 := Lib.hid hbw0
  have HM := Lib.hid (hm.later hbw0)
  have HR := Lib.hid (hr.below hbw0)
  have HT := Lib.hid (ht.below hbw0)
  have HS0 := Lib.hid hs0
  have HB := Lib.hid hb
  have HL := Lib.hid hl
  have hrx : Rws W0.drew W0.drew.heap.size A n R sl := (Rws.more HR.out (show w.heap.size ≤ W0.heap.size by omega)).below (belowDrewN (Below.refl _ _) 1)
  have HRX := Lib.hid hrx
  clear hrx
  have hsl : (Tryd.prog.info? 28).map (·.size) = some (xs.map bv).length := by
    rw [List.length_map, hl]
    kernel_rfl
  have HSL := Lib.hid hsl
  clear hW0 hs0 hr ht hm hb hl hsl hz0 hbw0
  go_enter Tryd.func14, Tryd.ntmps14
  go_wp2_with fail
  rw [← HW0.out]
  refine (missing_any g key W0 HM.out).mono ?_
  rintro e W1 ⟨rfl, rfl⟩
  go_wp2_with fail
  have hrg : ∀ (W : World), Below W0.heap.size W0 W → W.rangeAt w.heap.size 0 (xs.map bv) := fun W h j v hv => by
    rw [Nat.zero_add, (HZ.out.later h).cell]
    exact hv
  have hd0 : Below W0.heap.size W0 W0.drew := belowDrewN (Below.refl _ _) 1
  refine wp_region_any (by kernel_rfl) ?_
  try (change wpAny _ _ _ _ _ _ _ (World.drew _))
  refine wpAny_take (i := 1) (oi := ?oia11) (v := ?va11) ?hoa11 (by kernel_rfl) ?hfa11 ?hra11 ?hQa11 ?hya11 ?resta11
  case hoa11 => (simp only [List.getElem?_toArray, List.getElem?_cons_succ, List.getElem?_cons_zero]; exact rfl)
  case hfa11 => kernel_rfl
  case hra11 => kernel_rfl
  case hQa11 => exact fun _ _ _ h => h
  case hya11 =>
    refine Or.inl ⟨by rfl, ?_⟩
    intro w
    go_simp
    (try with_reducible rfl)
  try simp only [Act.put, List.setIfInBounds_toArray, List.set_cons_zero, List.set_cons_succ]
  refine wpAny_take (i := 2) (oi := ?oia12) (v := ?va12) ?hoa12 (by kernel_rfl) ?hfa12 ?hra12 ?hQa12 ?hya12 ?resta12
  case hoa12 => (simp only [List.getElem?_toArray, List.getElem?_cons_succ, List.getElem?_cons_zero]; exact rfl)
  case hfa12 => kernel_rfl
  case hra12 => kernel_rfl
  case hQa12 => exact fun _ _ _ h => h
  case hya12 =>
    refine Or.inl ⟨by rfl, ?_⟩
    intro w
    go_simp
    (try with_reducible rfl)
  try simp only [Act.put, List.setIfInBounds_toArray, List.set_cons_zero, List.set_cons_succ]
  refine wpAny_ready (rs := [0, 3]) (by kernel_rfl) (by simp) ?_
  refine AllReady.cons (o := ?oa13) ?hoa13 (fun K hK => ?ka13) ?ma13
  case hoa13 => (simp only [List.getElem?_toArray, List.getElem?_cons_succ, List.getElem?_cons_zero]; exact rfl)
  case ka13 =>
    refine any_load_mid (by rfl) 28 (.tmp 4) rfl w.heap.size 0 rfl (xs.map bv) _ (hrg _ (by exact hd0)) Tryd.underlying28 rfl HSL.out ?_
    refine hK _ _ ?_
    clear hK K
    try simp only [Act.put, List.setIfInBounds_toArray, List.set_cons_zero, List.set_cons_succ]
    refine wpAny_ready (rs := [3]) (by kernel_rfl) (by simp) ?_
    refine AllReady.cons (o := ?oa14) ?hoa14 (fun K hK => ?ka14) ?ma14
    case hoa14 => (simp only [List.getElem?_toArray, List.getElem?_cons_succ, List.getElem?_cons_zero]; exact rfl)
    case ka14 =>
      go_simp
      refine (made_any g key A n c R sl _ (by exact (HM.out : Mac W0 g key)) HRX.out hbd hnb (by exact (HT.out : Tab W0))).mono ?_
      rintro e V1 ⟨rfl, hv1⟩
      (try dsimp only)
      refine hK _ _ ?_
      clear hK K
      try simp only [Act.put, List.setIfInBounds_toArray, List.set_cons_zero, List.set_cons_succ]
      refine wpAny_ready (rs := [4]) (by kernel_rfl) (by simp) ?_
      refine AllReady.cons (o := ?oa15) ?hoa15 (fun K hK => ?ka15) ?ma15
      case hoa15 => (simp only [List.getElem?_toArray, List.getElem?_cons_succ, List.getElem?_cons_zero]; exact rfl)
      case ka15 =>
        go_simp
        refine (same_any xs (hmacL key sl.flatten) _ HL.out (hmacL_len _ _)).mono ?_
        rintro e V2 ⟨rfl, hv2⟩
        (try dsimp only)
        rw [HB.out]
        refine hK _ _ ?_
        clear hK K
        try simp only [Act.put, List.setIfInBounds_toArray, List.set_cons_zero, List.set_cons_succ]
        refine wpAny_take (i := 5) (oi := ?oia16) (v := ?va16) ?hoa16 (by kernel_rfl) ?hfa16 ?hra16 ?hQa16 ?hya16 ?resta16
        case hoa16 => (simp only [List.getElem?_toArray, List.getElem?_cons_succ, List.getElem?_cons_zero]; exact rfl)
        case hfa16 => kernel_rfl
        case hra16 => kernel_rfl
        case hQa16 => exact fun _ _ _ h => h
        case hya16 =>
          refine Or.inl ⟨by rfl, ?_⟩
          intro w
          go_simp
          (try with_reducible rfl)
        try simp only [Act.put, List.setIfInBounds_toArray, List.set_cons_zero, List.set_cons_succ]
        refine wpAny_done (by kernel_rfl) ?_ _
        go_wp2
        go_ret
        exact ⟨rfl, HB0.out.trans ((Below.trans (by exact hd0) (hv1.trans (hv2.mono hv1.size)) : Below W0.heap.size W0 V2).mono (by have := HS0.out; omega))⟩
      exact AllReady.nil
    exact AllReady.nil
  refine AllReady.cons (o := ?oa17) ?hoa17 (fun K hK => ?ka17) ?ma17
  case hoa17 => (simp only [List.getElem?_toArray, List.getElem?_cons_succ, List.getElem?_cons_zero]; exact rfl)
  case ka17 =>
    go_simp
    refine (made_any g key A n c R sl _ (by exact (HM.out : Mac W0 g key)) HRX.out hbd hnb (by exact (HT.out : Tab W0))).mono ?_
    rintro e V1 ⟨rfl, hv1⟩
    (try dsimp only)
    refine hK _ _ ?_
    clear hK K
    try simp only [Act.put, List.setIfInBounds_toArray, List.set_cons_zero, List.set_cons_succ]
    refine wpAny_ready (rs := [0]) (by kernel_rfl) (by simp) ?_
    refine AllReady.cons (o := ?oa18) ?hoa18 (fun K hK => ?ka18) ?ma18
    case hoa18 => (simp only [List.getElem?_toArray, List.getElem?_cons_succ, List.getElem?_cons_zero]; exact rfl)
    case ka18 =>
      refine any_load_mid (by rfl) 28 (.tmp 4) rfl w.heap.size 0 rfl (xs.map bv) _ (hrg _ (by exact (Below.trans (by exact hd0) hv1 : Below W0.heap.size W0 V1))) Tryd.underlying28 rfl HSL.out ?_
      refine hK _ _ ?_
      clear hK K
      try simp only [Act.put, List.setIfInBounds_toArray, List.set_cons_zero, List.set_cons_succ]
      refine wpAny_ready (rs := [4]) (by kernel_rfl) (by simp) ?_
      refine AllReady.cons (o := ?oa19) ?hoa19 (fun K hK => ?ka19) ?ma19
      case hoa19 => (simp only [List.getElem?_toArray, List.getElem?_cons_succ, List.getElem?_cons_zero]; exact rfl)
      case ka19 =>
        go_simp
        refine (same_any xs (hmacL key sl.flatten) _ HL.out (hmacL_len _ _)).mono ?_
        rintro e V2 ⟨rfl, hv2⟩
        (try dsimp only)
        rw [HB.out]
        refine hK _ _ ?_
        clear hK K
        try simp only [Act.put, List.setIfInBounds_toArray, List.set_cons_zero, List.set_cons_succ]
        refine wpAny_take (i := 5) (oi := ?oia20) (v := ?va20) ?hoa20 (by kernel_rfl) ?hfa20 ?hra20 ?hQa20 ?hya20 ?resta20
        case hoa20 => (simp only [List.getElem?_toArray, List.getElem?_cons_succ, List.getElem?_cons_zero]; exact rfl)
        case hfa20 => kernel_rfl
        case hra20 => kernel_rfl
        case hQa20 => exact fun _ _ _ h => h
        case hya20 =>
          refine Or.inl ⟨by rfl, ?_⟩
          intro w
          go_simp
          (try with_reducible rfl)
        try simp only [Act.put, List.setIfInBounds_toArray, List.set_cons_zero, List.set_cons_succ]
        refine wpAny_done (by kernel_rfl) ?_ _
        go_wp2
        go_ret
        exact ⟨rfl, HB0.out.trans ((Below.trans (by exact hd0) (hv1.trans (hv2.mono hv1.size)) : Below W0.heap.size W0 V2).mono (by have := HS0.out; omega))⟩
      exact AllReady.nil
    exact AllReady.nil
  exact AllReady.nil
end Go.Proofs.YtgkfebbifgkkeaaDoor
