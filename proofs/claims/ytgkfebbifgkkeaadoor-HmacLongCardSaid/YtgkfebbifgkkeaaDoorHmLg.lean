/- HmacLong: a key of more than 64 bytes makes the tags that its sum makes; the message may come in any parts: the walks. -/
import Derived.Test.YtgkfebbifgkkeaaDoorHmP
set_option linter.unusedVariables false
set_option linter.unusedSimpArgs false
namespace Go.Proofs.YtgkfebbifgkkeaaDoor
open Go Go.RowKit

namespace hmacLong
set_option maxRecDepth 100000 in
set_option maxHeartbeats 1000000 in
theorem walkVast (A0 A : Option Addr) (n0 c0 n c : Nat) (R : List RowA) (sl : List (List UInt8)) (w : World) (ht : Tab w) (hr : Rws w w.heap.size A n R sl) (hb : ∀ l ∈ sl, l.length ≤ 140737488351232) (hv : 2000 < n0 ∨ 60 < n ∨ 8192 < sl.flatten.length) :
    Calls Tryd.prog 5 #[.slice A0 n0 c0, .slice A n c] w fun e w' => e = .returned (.bool true) ∧ Below w.heap.size w w' := by
  have hvast : Calls Tryd.prog 6 #[.slice A0 n0 c0, .slice A n c] w fun e w' => e = .returned (.bool true) ∧ w = w' := by
    by_cases h : 2000 < n0
    · exact vast_key A0 n0 c0 A n c w h
    · by_cases h1 : 60 < n
      · exact vast_long A0 n0 c0 A n c w (by omega) h1
      · exact vast_any A0 n0 c0 A n c R sl w hr hb (by omega) (by omega) true (decide_eq_true (by omega))
  have HV := Lib.hid hvast
  clear hvast hv
  go_enter Tryd.func5, Tryd.ntmps5
  go_wp2_with (first
    | (go_at_call 6; refine HV.out.mono ?_; rintro e w1 ⟨rfl, rfl⟩)
    | (go_at_call 7; refine (works_any _ ht).mono ?_; rintro e w2 ⟨rfl, hb2⟩))
  go_ret
  exact ⟨rfl, hb2⟩

set_option maxRecDepth 100000 in
set_option maxHeartbeats 4000000 in
theorem walk (A0 A : Option Addr) (n0 c0 n c : Nat) (R : List RowA) (key : List UInt8) (sl : List (List UInt8)) (w : World) (ht : Tab w) (h0 : Rd w w.heap.size 1 A0 n0 (key.map bv)) (k0 : n0 ≤ c0) (hr : Rws w w.heap.size A n R sl) (hb : ∀ l ∈ sl, l.length ≤ 140737488351232)
    (hn0 : n0 ≤ 2000) (hn : n ≤ 60) (hv : sl.flatten.length ≤ 8192) :
    Calls Tryd.prog 5 #[.slice A0 n0 c0, .slice A n c] w fun e w' => e = .returned (.bool true) ∧ Below w.heap.size w w' := by
  have HV := Lib.hid (vast_any A0 n0 c0 A n c R sl w hr hb hn0 hn false (decide_eq_false (by omega)))
  have HT := Lib.hid ht
  have H0 := Lib.hid h0
  have HR := Lib.hid hr
  have HFL := Lib.hid hv
  have HSL := Lib.hid hr.lenS
  have hl0 : key.length = n0 := by simpa using h0.len1
  have HL0 := Lib.hid hl0
  clear ht h0 hr hb hv hl0
  go_enter Tryd.func5, Tryd.ntmps5
  go_wp2_with (go_at_call 6; refine HV.out.mono ?_; rintro e w1 ⟨rfl, rfl⟩)
  go_loopw [5, 6] (fun q p wr => ∃ (i m : Nat) (Ao : Option Addr) (co : Nat), i ≤ n ∧ p = .int .i64 (i : Int) ∧ q = .slice Ao m co ∧ Ow wr w.heap.size Ao co m (sl.take i).flatten ∧ Below w.heap.size w wr)
    (fun _ p _ => n - (intOf p).toNat)
  case atStart => exact ⟨0, 0, none, 0, by omega, rfl, rfl, owNil _ _, Below.refl _ _⟩
  case round =>
    obtain ⟨i, m, Ao, co, hi, rfl, rfl, ho, hbw⟩ := hrel
    by_cases hlt : i < n
    · have hci : (i : Int) < (n : Int) := by omega
      obtain ⟨b, o, Ai, ni, ci, l, hA, hb, hc, hl, hri, hnc⟩ := (HR.out.below hbw).at_ hlt
      subst hA
      have hfl := flat_step sl i l hl
      have hle := flat_le sl (i + 1)
      have hll : l.length = ni := by simpa using hri.len1
      have hm := ho.len
      have hbd2 : m + ni ≤ 8192 := by
        rw [hfl, List.length_append] at hle
        have := HFL.out
        omega
      have HF := Lib.hid hfl
      clear hl hle hll hfl hm
      go_wp2_with (at_builtin; refine app8 _ rfl _ _ rfl w.heap.size Ao co m _ rfl ho w.heap.size Ai ni ci l rfl hri (by omega) hbw.size ?_; intro A4 c4 w4 ho4 hb4 _)
      go_roundw
      case rel => exact ⟨i + 1, m + ni, A4, c4, by omega, by go_num, rfl, by rw [HF.out]; exact ho4, hbw.trans hb4⟩
      case measure => simp [intOf]; omega
    · obtain rfl : n = i := by omega
      rw [List.take_of_length_le (by have := HSL.out; omega)] at ho
      rename World => W1
      obtain ⟨fl, hfe⟩ : ∃ fl, sl.flatten = fl := ⟨_, rfl⟩
      rw [hfe] at ho
      have hm := ho.len
      have hm8 : m ≤ 8192 := by rw [← hm, ← hfe]; exact HFL.out
      have HFE := Lib.hid hfe
      have HO := Lib.hid ho
      have HM := Lib.hid hm
      have HZ1 := hbw.size
      have HBW := Lib.hid hbw
      have h01 := H0.out.below hbw
      clear hlt hi hfe ho hm hbw
      repeat (first | (at_builtin; refine app8 _ rfl (.tmp 28) (.tmp 29) rfl W1.heap.size _ _ 0 [] rfl (owLit0 W1 _ (Nat.le_refl _)) w.heap.size A0 n0 c0 key rfl (h01.below ((Below.refl _ _).alloc (by omega) _)) (by omega) (by simp) ?_; intro A4 c4 W2 ho4 hb4 _) | go_step)
      rw [Nat.zero_add, List.nil_append] at ho4
      have hbw2 : Below W1.heap.size W1 W2 := ((Below.refl _ _).alloc (Nat.le_refl _) _).trans hb4
      clear hb4
      repeat go_step
      refine (newMac_any A4 n0 c4 key W2 ho4.rd ho4.le (by omega) (HT.out.below (HBW.out.trans (hbw2.mono HZ1)))).mono ?_
      rintro e W3 ⟨g, rfl, hg, hm3, hb3⟩
      have hF3 := OwnF.of (ho4.below hb3 (Nat.le_refl _))
      have hbw3 := hbw2.trans (hb3.mono hbw2.size)
      clear ho4 hbw2 hb3 hg
      dsimp only
      repeat go_step
      go_loopw [9] (fun p wr => ∃ k : Nat, k ≤ n0 ∧ p = .int .i64 (k : Int) ∧ OwnF wr W1.heap.size A4 n0 ∧ Mac wr g key ∧ Below W1.heap.size W1 wr) (fun p _ => n0 - (intOf p).toNat)
      case atStart => exact ⟨0, by omega, rfl, hF3, hm3, hbw3⟩
      case round =>
        clear hF3 hm3 hbw3
        obtain ⟨k, hk, rfl, hF, hmr, hbk⟩ := hrel
        by_cases hlk : k < n0
        · obtain ⟨q, cur, rfl, hq, hbg, hcl, hx⟩ := hF (by omega)
          obtain ⟨x, hxk⟩ := hx k hlk
          have cx : wr.cell? ⟨q, k, none⟩ = some (.int .u8 (x.toNat : Int)) := by rw [hbg.cell, hxk]; rfl
          have fx := hbg.frozen k
          have hck : (k : Int) < (n0 : Int) := by omega
          obtain ⟨y, hy⟩ := incB x
          have HX := Lib.hid hx
          clear hx hxk
          have HF2 : Hid (OwnF (wr.setCell ⟨q, k, none⟩ (Value.int .u8 (y.toNat : Int))) W1.heap.size (some ⟨q, 0, none⟩) n0) := by
            show OwnF _ _ _ _
            refine fun _ => ⟨q, cur.set k (bv y), rfl, hq, hbg.set_ k (bv y), by simpa using hcl, fun j hj => ?_⟩
            obtain ⟨z, hz⟩ := HX.out j hj
            rw [List.getElem?_set]
            by_cases hkj : k = j
            · rw [if_pos hkj, if_pos (by omega)]
              exact ⟨y, rfl⟩
            · rw [if_neg hkj]
              exact ⟨z, hz⟩
          have HM2 := Lib.hid (hmr.byte hbg k (Value.int .u8 (y.toNat : Int)))
          have HB2 := Lib.hid (hbk.setCell (p := ⟨q, k, none⟩) hq (Value.int .u8 (y.toNat : Int)))
          clear hbg hbk hmr hF
          go_wp2
          go_roundw
          case rel => exact ⟨k + 1, by omega, by go_num, HF2.out, HM2.out, HB2.out⟩
          case measure => simp [intOf]; omega
        · obtain rfl : n0 = k := by omega
          rename World => W4
          clear hF hlk hk
          have hbw4 : Below w.heap.size w W4 := HBW.out.trans (hbk.mono HZ1)
          have ho4 := HO.out.below hbk (Nat.le_refl _)
          have hZ4 := hbw4.size
          have HMC := Lib.hid hmr
          have HBW4 := Lib.hid hbw4
          have HO4 := Lib.hid ho4
          clear hmr hbk hbw4 ho4 HBW HZ1
          repeat go_step
          refine (hTag_any A0 Ao n0 c0 m co key fl W4 ((H0.out.below HBW4.out).more hZ4) k0 HO4.out.rd HO4.out.le (by omega) (by omega) (HT.out.below HBW4.out)).mono ?_
          rintro e W5 ⟨rfl, hb5⟩
          have hlA := hmacL_len key fl
          have HLA := Lib.hid hlA
          unfold tagH
          obtain ⟨tA, HTA⟩ : ∃ tA, Hid (hmacL key fl = tA) := ⟨_, rfl⟩
          rw [HTA.out] at HLA ⊢
          obtain ⟨U, hU, hAU, hbU⟩ : ∃ U, U = W5.alloc (.cells (tA.map bv).toArray 28) ∧ Bk U W5.heap.size 28 (tA.map bv) ∧ Below W4.heap.size W4 U :=
            ⟨_, rfl, Bk.new W5 _ _, hb5.alloc hb5.size _⟩
          have HU := Lib.hid hU
          have hZU := hbU.size
          have HAU := Lib.hid hAU
          have hwU := HBW4.out.trans (hbU.mono hZ4)
          have HWU := Lib.hid hwU
          have HMU := Lib.hid (HMC.out.later hbU)
          have hoU : Rd U U.heap.size 1 Ao m (fl.map bv) := (HO4.out.rd.below hbU).more hZU
          have HOU := Lib.hid hoU
          have hmo : m ≤ co := HO4.out.le
          have hZ : w.heap.size ≤ U.heap.size := Nat.le_trans hZ4 hZU
          clear hU hb5 hlA hAU hbU hwU hoU HMC HO4
          dsimp only
          repeat (first | (refine wpList_store_new rfl 28 _ _ rfl W5 _ _ rfl rfl (tagSz _ HLA.out) (tag32 _ HLA.out) (bvOne _) ?_; rw [← HU.out]) | go_step)
          have hrg : ∀ (W : World), Below U.heap.size U W → W.rangeAt W5.heap.size 0 (tA.map bv) := fun W h j v hv => by
            rw [Nat.zero_add, (HAU.out.later h).cell]
            exact hv
          have hsl : (Tryd.prog.info? 28).map (·.size) = some (tA.map bv).length := by rw [← HTA.out]; exact tagLen _ _
          have HSZ := Lib.hid hsl
          have hrw : ∀ (W : World), Below U.heap.size U W → Rws W W.heap.size A n R sl := fun W h => (HR.out.below (HWU.out.trans (h.mono hZ))).more (Nat.le_trans hZ h.size)
          have h0w : ∀ (W : World), Below U.heap.size U W → Rd W W.heap.size 1 A0 n0 (key.map bv) := fun W h => (H0.out.below (HWU.out.trans (h.mono hZ))).more (Nat.le_trans hZ h.size)
          have how : ∀ (W : World), Below U.heap.size U W → Rd W W.heap.size 1 Ao m (fl.map bv) := fun W h => (HOU.out.below h).more h.size
          have hmw : ∀ (W : World), Below U.heap.size U W → Mac W g key := fun W h => HMU.out.later h
          have htw : ∀ (W : World), Below U.heap.size U W → Tab W := fun W h => HT.out.below (HWU.out.trans (h.mono hZ))
          have eqA : ∀ W : World, (Op.equalIn 10000 28 (.agg (tA.map bv).toArray) (.agg (tA.map bv).toArray)).run Tryd.prog W = .ok true W := fun W => by rw [← HTA.out]; exact eqH _ _ _
          clear hsl
          refine wp_region_any (by kernel_rfl) ?_
          try (change wpAny _ _ _ _ _ _ _ (World.drew _))
          refine wpAny_meet1 (β := Nat) (b := ?ad1) (fun V => Below U.heap.size U V) ?cd1 ?rd1
          case rd1 =>
            intro hEnd
            have hf0 : Below U.heap.size U U.drew := belowDrewN (Below.refl _ _) 1
            refine wpAny_take (i := 0) (oi := ?oid2) (v := ?vd2) ?hod2 (by kernel_rfl) ?hfd2 ?hrd2 ?hQd2 ?hyd2 ?restd2
            case hod2 => (simp only [List.getElem?_toArray, List.getElem?_cons_succ, List.getElem?_cons_zero]; exact rfl)
            case hfd2 => kernel_rfl
            case hrd2 => kernel_rfl
            case hQd2 => exact fun _ _ _ h => h
            case hyd2 =>
              refine Or.inl ⟨by rfl, ?_⟩
              intro w
              go_simp
              (try with_reducible rfl)
            try simp only [Act.put, List.setIfInBounds_toArray, List.set_cons_zero, List.set_cons_succ]
            refine wpAny_take (i := 1) (oi := ?oid3) (v := ?vd3) ?hod3 (by kernel_rfl) ?hfd3 ?hrd3 ?hQd3 ?hyd3 ?restd3
            case hod3 => (simp only [List.getElem?_toArray, List.getElem?_cons_succ, List.getElem?_cons_zero]; exact rfl)
            case hfd3 => kernel_rfl
            case hrd3 => kernel_rfl
            case hQd3 => exact fun _ _ _ h => h
            case hyd3 =>
              refine Or.inl ⟨by rfl, ?_⟩
              intro w
              go_simp
              (try with_reducible rfl)
            try simp only [Act.put, List.setIfInBounds_toArray, List.set_cons_zero, List.set_cons_succ]
            refine wpAny_take (i := 2) (oi := ?oid4) (v := ?vd4) ?hod4 (by kernel_rfl) ?hfd4 ?hrd4 ?hQd4 ?hyd4 ?restd4
            case hod4 => (simp only [List.getElem?_toArray, List.getElem?_cons_succ, List.getElem?_cons_zero]; exact rfl)
            case hfd4 => kernel_rfl
            case hrd4 => kernel_rfl
            case hQd4 => exact fun _ _ _ h => h
            case hyd4 =>
              refine Or.inl ⟨by rfl, ?_⟩
              intro w
              go_simp
              (try with_reducible rfl)
            try simp only [Act.put, List.setIfInBounds_toArray, List.set_cons_zero, List.set_cons_succ]
            refine wpAny_take (i := 3) (oi := ?oid5) (v := ?vd5) ?hod5 (by kernel_rfl) ?hfd5 ?hrd5 ?hQd5 ?hyd5 ?restd5
            case hod5 => (simp only [List.getElem?_toArray, List.getElem?_cons_succ, List.getElem?_cons_zero]; exact rfl)
            case hfd5 => kernel_rfl
            case hrd5 => kernel_rfl
            case hQd5 => exact fun _ _ _ h => h
            case hyd5 =>
              refine Or.inl ⟨by rfl, ?_⟩
              intro w
              go_simp
              (try with_reducible rfl)
            try simp only [Act.put, List.setIfInBounds_toArray, List.set_cons_zero, List.set_cons_succ]
            refine wpAny_take (i := 4) (oi := ?oid6) (v := ?vd6) ?hod6 (by kernel_rfl) ?hfd6 ?hrd6 ?hQd6 ?hyd6 ?restd6
            case hod6 => (simp only [List.getElem?_toArray, List.getElem?_cons_succ, List.getElem?_cons_zero]; exact rfl)
            case hfd6 => kernel_rfl
            case hrd6 => kernel_rfl
            case hQd6 => exact fun _ _ _ h => h
            case hyd6 =>
              refine Or.inl ⟨by rfl, ?_⟩
              intro w
              go_simp
              (try with_reducible rfl)
            try simp only [Act.put, List.setIfInBounds_toArray, List.set_cons_zero, List.set_cons_succ]
            refine wpAny_ready (rs := [5, 6]) (by kernel_rfl) (by simp) ?_
            refine AllReady.cons (o := ?od7) ?hod7 (fun K hK => ?kd7) ?md7
            case hod7 => (simp only [List.getElem?_toArray, List.getElem?_cons_succ, List.getElem?_cons_zero]; exact rfl)
            case kd7 =>
              go_simp
              refine (macTag_any g key A n c R sl _ (hmw _ (by exact hf0)) (hrw _ (by exact hf0)) (by have := HFL.out; omega) (by omega) (htw _ (by exact hf0))).mono ?_
              rintro e Vd7 ⟨rfl, hvd7⟩
              rw [HFE.out]
              unfold tagH
              rw [HTA.out]
              have hfd7 : Below U.heap.size U Vd7 := Below.trans (by exact hf0) (hvd7.mono (hf0).size)
              (try dsimp only)
              refine hK _ _ ?_
              clear hK K
              try simp only [Act.put, List.setIfInBounds_toArray, List.set_cons_zero, List.set_cons_succ]
              refine wpAny_ready (rs := [6]) (by kernel_rfl) (by simp) ?_
              refine AllReady.cons (o := ?od8) ?hod8 (fun K hK => ?kd8) ?md8
              case hod8 => (simp only [List.getElem?_toArray, List.getElem?_cons_succ, List.getElem?_cons_zero]; exact rfl)
              case kd8 =>
                refine any_load_mid (by rfl) 28 (.tmp 10) rfl W5.heap.size 0 rfl (tA.map bv) _ (hrg _ (by exact hfd7)) Tryd.underlying28 rfl HSZ.out ?_
                refine hK _ _ ?_
                clear hK K
                try simp only [Act.put, List.setIfInBounds_toArray, List.set_cons_zero, List.set_cons_succ]
                refine wpAny_take (i := 7) (oi := ?oid9) (v := ?vd9) ?hod9 (by kernel_rfl) ?hfd9 ?hrd9 ?hQd9 ?hyd9 ?restd9
                case hod9 => (simp only [List.getElem?_toArray, List.getElem?_cons_succ, List.getElem?_cons_zero]; exact rfl)
                case hfd9 => kernel_rfl
                case hrd9 => kernel_rfl
                case hQd9 => exact fun _ _ _ h => h
                case hyd9 =>
                  refine Or.inl ⟨by rfl, ?_⟩
                  intro w
                  go_simp
                  (try with_reducible rfl)
                try simp only [Act.put, List.setIfInBounds_toArray, List.set_cons_zero, List.set_cons_succ]
                refine wpAny_take (i := 8) (oi := ?oid10) (v := ?vd10) ?hod10 (by kernel_rfl) ?hfd10 ?hrd10 ?hQd10 ?hyd10 ?restd10
                case hod10 => (simp only [List.getElem?_toArray, List.getElem?_cons_succ, List.getElem?_cons_zero]; exact rfl)
                case hfd10 => kernel_rfl
                case hrd10 => kernel_rfl
                case hQd10 => exact fun _ _ _ h => h
                case hyd10 =>
                  refine Or.inl ⟨by rfl, ?_⟩
                  intro w
                  go_simp
                  (try with_reducible rfl)
                try simp only [Act.put, List.setIfInBounds_toArray, List.set_cons_zero, List.set_cons_succ]
                refine wpAny_take (i := 9) (oi := ?oid11) (v := ?vd11) ?hod11 (by kernel_rfl) ?hfd11 ?hrd11 ?hQd11 ?hyd11 ?restd11
                case hod11 => (simp only [List.getElem?_toArray, List.getElem?_cons_succ, List.getElem?_cons_zero]; exact rfl)
                case hfd11 => kernel_rfl
                case hrd11 => kernel_rfl
                case hQd11 => exact fun _ _ _ h => h
                case hyd11 =>
                  refine Or.inl ⟨by rfl, ?_⟩
                  intro w
                  go_simp
                  (try with_reducible rfl)
                try simp only [Act.put, List.setIfInBounds_toArray, List.set_cons_zero, List.set_cons_succ]
                refine wpAny_take (i := 10) (oi := ?oid12) (v := ?vd12) ?hod12 (by kernel_rfl) ?hfd12 ?hrd12 ?hQd12 ?hyd12 ?restd12
                case hod12 => (simp only [List.getElem?_toArray, List.getElem?_cons_succ, List.getElem?_cons_zero]; exact rfl)
                case hfd12 => kernel_rfl
                case hrd12 => kernel_rfl
                case hQd12 => exact fun _ _ _ h => h
                case hyd12 =>
                  refine Or.inl ⟨by rfl, ?_⟩
                  intro w
                  go_simp
                  (try with_reducible rfl)
                try simp only [Act.put, List.setIfInBounds_toArray, List.set_cons_zero, List.set_cons_succ]
                refine wpAny_take (i := 11) (oi := ?oid13) (v := ?vd13) ?hod13 (by kernel_rfl) ?hfd13 ?hrd13 ?hQd13 ?hyd13 ?restd13
                case hod13 => (simp only [List.getElem?_toArray, List.getElem?_cons_succ, List.getElem?_cons_zero]; exact rfl)
                case hfd13 => kernel_rfl
                case hrd13 => kernel_rfl
                case hQd13 => exact fun _ _ _ h => h
                case hyd13 =>
                  refine Or.inl ⟨by rfl, ?_⟩
                  intro w
                  go_simp
                  (try with_reducible rfl)
                try simp only [Act.put, List.setIfInBounds_toArray, List.set_cons_zero, List.set_cons_succ]
                refine wpAny_ready (rs := [12, 14]) (by kernel_rfl) (by simp) ?_
                refine AllReady.cons (o := ?od14) ?hod14 (fun K hK => ?kd14) ?md14
                case hod14 => (simp only [List.getElem?_toArray, List.getElem?_cons_succ, List.getElem?_cons_zero]; exact rfl)
                case kd14 =>
                  refine any_lit1 (by rfl) (.tmp 59) rfl _ _ _ fl (by rfl) (how _ (by exact hfd7)) hmo ?_
                  intro Vd14 qq hrd hvd14
                  have hfd14 : Below U.heap.size U Vd14 := Below.trans (by exact hfd7) (hvd14.mono (hfd7).size)
                  (try dsimp only)
                  refine hK _ _ ?_
                  clear hK K
                  try simp only [Act.put, List.setIfInBounds_toArray, List.set_cons_zero, List.set_cons_succ]
                  refine wpAny_ready (rs := [13, 14]) (by kernel_rfl) (by simp) ?_
                  refine AllReady.cons (o := ?od15) ?hod15 (fun K hK => ?kd15) ?md15
                  case hod15 => (simp only [List.getElem?_toArray, List.getElem?_cons_succ, List.getElem?_cons_zero]; exact rfl)
                  case kd15 =>
                    go_simp
                    refine (macTag_any g key _ 1 1 _ [fl] _ (hmw _ (by exact hfd14)) (by exact hrd) (by have := HM.out; simp; omega) (by omega) (htw _ (by exact hfd14))).mono ?_
                    rintro e Vd15 ⟨rfl, hvd15⟩
                    rw [flat1]
                    unfold tagH
                    rw [HTA.out]
                    have hfd15 : Below U.heap.size U Vd15 := Below.trans (by exact hfd14) (hvd15.mono (hfd14).size)
                    (try dsimp only)
                    refine hK _ _ ?_
                    clear hK K
                    try simp only [Act.put, List.setIfInBounds_toArray, List.set_cons_zero, List.set_cons_succ]
                    refine wpAny_ready (rs := [14]) (by kernel_rfl) (by simp) ?_
                    refine AllReady.cons (o := ?od16) ?hod16 (fun K hK => ?kd16) ?md16
                    case hod16 => (simp only [List.getElem?_toArray, List.getElem?_cons_succ, List.getElem?_cons_zero]; exact rfl)
                    case kd16 =>
                      refine any_load_mid (by rfl) 28 (.tmp 10) rfl W5.heap.size 0 rfl (tA.map bv) _ (hrg _ (by exact hfd15)) Tryd.underlying28 rfl HSZ.out ?_
                      refine hK _ _ ?_
                      clear hK K
                      try simp only [Act.put, List.setIfInBounds_toArray, List.set_cons_zero, List.set_cons_succ]
                      refine wpAny_take (i := 15) (oi := ?oid17) (v := ?vd17) ?hod17 (by kernel_rfl) ?hfd17 ?hrd17 ?hQd17 ?hyd17 ?restd17
                      case hod17 => (simp only [List.getElem?_toArray, List.getElem?_cons_succ, List.getElem?_cons_zero]; exact rfl)
                      case hfd17 => kernel_rfl
                      case hrd17 => kernel_rfl
                      case hQd17 => exact fun _ _ _ h => h
                      case hyd17 =>
                        refine Or.inl ⟨by rfl, ?_⟩
                        intro w
                        go_simp
                        (try with_reducible rfl)
                      try simp only [Act.put, List.setIfInBounds_toArray, List.set_cons_zero, List.set_cons_succ]
                      refine wpAny_take (i := 16) (oi := ?oid18) (v := ?vd18) ?hod18 (by kernel_rfl) ?hfd18 ?hrd18 ?hQd18 ?hyd18 ?restd18
                      case hod18 => (simp only [List.getElem?_toArray, List.getElem?_cons_succ, List.getElem?_cons_zero]; exact rfl)
                      case hfd18 => kernel_rfl
                      case hrd18 => kernel_rfl
                      case hQd18 => exact fun _ _ _ h => h
                      case hyd18 =>
                        refine Or.inl ⟨by rfl, ?_⟩
                        intro w
                        go_simp
                        (try with_reducible rfl)
                      try simp only [Act.put, List.setIfInBounds_toArray, List.set_cons_zero, List.set_cons_succ]
                      refine wpAny_take (i := 17) (oi := ?oid19) (v := ?vd19) ?hod19 (by kernel_rfl) ?hfd19 ?hrd19 ?hQd19 ?hyd19 ?restd19
                      case hod19 => (simp only [List.getElem?_toArray, List.getElem?_cons_succ, List.getElem?_cons_zero]; exact rfl)
                      case hfd19 => kernel_rfl
                      case hrd19 => kernel_rfl
                      case hQd19 => exact fun _ _ _ h => h
                      case hyd19 =>
                        refine Or.inl ⟨by rfl, ?_⟩
                        intro w
                        go_simp
                        (try with_reducible rfl)
                      try simp only [Act.put, List.setIfInBounds_toArray, List.set_cons_zero, List.set_cons_succ]
                      refine wpAny_take (i := 18) (oi := ?oid20) (v := ?vd20) ?hod20 (by kernel_rfl) ?hfd20 ?hrd20 ?hQd20 ?hyd20 ?restd20
                      case hod20 => (simp only [List.getElem?_toArray, List.getElem?_cons_succ, List.getElem?_cons_zero]; exact rfl)
                      case hfd20 => kernel_rfl
                      case hrd20 => kernel_rfl
                      case hQd20 => exact fun _ _ _ h => h
                      case hyd20 =>
                        refine Or.inl ⟨by rfl, ?_⟩
                        intro w
                        go_simp
                        (try with_reducible rfl)
                      try simp only [Act.put, List.setIfInBounds_toArray, List.set_cons_zero, List.set_cons_succ]
                      refine wpAny_take (i := 20) (oi := ?oid21) (v := ?vd21) ?hod21 (by kernel_rfl) ?hfd21 ?hrd21 ?hQd21 ?hyd21 ?restd21
                      case hod21 => (simp only [List.getElem?_toArray, List.getElem?_cons_succ, List.getElem?_cons_zero]; exact rfl)
                      case hfd21 => kernel_rfl
                      case hrd21 => kernel_rfl
                      case hQd21 => exact fun _ _ _ h => h
                      case hyd21 =>
                        refine Or.inl ⟨by rfl, ?_⟩
                        intro w
                        go_simp
                        (try with_reducible rfl)
                      try simp only [Act.put, List.setIfInBounds_toArray, List.set_cons_zero, List.set_cons_succ]
                      refine wpAny_ready (rs := [19]) (by kernel_rfl) (by simp) ?_
                      refine AllReady.cons (o := ?od22) ?hod22 (fun K hK => ?kd22) ?md22
                      case hod22 => (simp only [List.getElem?_toArray, List.getElem?_cons_succ, List.getElem?_cons_zero]; exact rfl)
                      case kd22 =>
                        refine any_load_mid (by rfl) 28 (.tmp 10) rfl W5.heap.size 0 rfl (tA.map bv) _ (hrg _ (by exact hfd15)) Tryd.underlying28 rfl HSZ.out ?_
                        refine hK _ _ ?_
                        clear hK K
                        try simp only [Act.put, List.setIfInBounds_toArray, List.set_cons_zero, List.set_cons_succ]
                        refine wpAny_ready (rs := [21]) (by kernel_rfl) (by simp) ?_
                        refine AllReady.cons (o := ?od23) ?hod23 (fun K hK => ?kd23) ?md23
                        case hod23 => (simp only [List.getElem?_toArray, List.getElem?_cons_succ, List.getElem?_cons_zero]; exact rfl)
                        case kd23 =>
                          go_simp
                          refine (right_yes g key tA A n c R sl _ (hmw _ (by exact hfd15)) (hrw _ (by exact hfd15)) (by have := HFL.out; omega) (by omega) (htw _ (by exact hfd15)) HLA.out (by rw [HFE.out, HTA.out]; simp)).mono ?_
                          rintro e Vd23 ⟨rfl, hvd23⟩
                          have hfd23 : Below U.heap.size U Vd23 := Below.trans (by exact hfd15) (hvd23.mono (hfd15).size)
                          (try dsimp only)
                          refine hK _ _ ?_
                          clear hK K
                          try simp only [Act.put, List.setIfInBounds_toArray, List.set_cons_zero, List.set_cons_succ]
                          refine wpAny_take (i := 22) (oi := ?oid24) (v := ?vd24) ?hod24 (by kernel_rfl) ?hfd24 ?hrd24 ?hQd24 ?hyd24 ?restd24
                          case hod24 => (simp only [List.getElem?_toArray, List.getElem?_cons_succ, List.getElem?_cons_zero]; exact rfl)
                          case hfd24 => kernel_rfl
                          case hrd24 => kernel_rfl
                          case hQd24 => exact fun _ _ _ h => h
                          case hyd24 =>
                            refine Or.inl ⟨by rfl, ?_⟩
                            intro w
                            go_simp
                            (try with_reducible rfl)
                          try simp only [Act.put, List.setIfInBounds_toArray, List.set_cons_zero, List.set_cons_succ]
                          refine wpAny_take (i := 23) (oi := ?oid25) (v := ?vd25) ?hod25 (by kernel_rfl) ?hfd25 ?hrd25 ?hQd25 ?hyd25 ?restd25
                          case hod25 => (simp only [List.getElem?_toArray, List.getElem?_cons_succ, List.getElem?_cons_zero]; exact rfl)
                          case hfd25 => kernel_rfl
                          case hrd25 => kernel_rfl
                          case hQd25 => exact fun _ _ _ h => h
                          case hyd25 =>
                            refine Or.inl ⟨by rfl, ?_⟩
                            intro w
                            go_simp
                            (try with_reducible rfl)
                          try simp only [Act.put, List.setIfInBounds_toArray, List.set_cons_zero, List.set_cons_succ]
                          exact wpAny_done (by kernel_rfl) (hEnd qq _ hfd23) _
                        exact AllReady.nil
                      exact AllReady.nil
                    exact AllReady.nil
                  refine AllReady.cons (o := ?od26) ?hod26 (fun K hK => ?kd26) ?md26
                  case hod26 => (simp only [List.getElem?_toArray, List.getElem?_cons_succ, List.getElem?_cons_zero]; exact rfl)
                  case kd26 =>
                    refine any_load_mid (by rfl) 28 (.tmp 10) rfl W5.heap.size 0 rfl (tA.map bv) _ (hrg _ (by exact hfd14)) Tryd.underlying28 rfl HSZ.out ?_
                    refine hK _ _ ?_
                    clear hK K
                    try simp only [Act.put, List.setIfInBounds_toArray, List.set_cons_zero, List.set_cons_succ]
                    refine wpAny_ready (rs := [13]) (by kernel_rfl) (by simp) ?_
                    refine AllReady.cons (o := ?od27) ?hod27 (fun K hK => ?kd27) ?md27
                    case hod27 => (simp only [List.getElem?_toArray, List.getElem?_cons_succ, List.getElem?_cons_zero]; exact rfl)
                    case kd27 =>
                      go_simp
                      refine (macTag_any g key _ 1 1 _ [fl] _ (hmw _ (by exact hfd14)) (by exact hrd) (by have := HM.out; simp; omega) (by omega) (htw _ (by exact hfd14))).mono ?_
                      rintro e Vd27 ⟨rfl, hvd27⟩
                      rw [flat1]
                      unfold tagH
                      rw [HTA.out]
                      have hfd27 : Below U.heap.size U Vd27 := Below.trans (by exact hfd14) (hvd27.mono (hfd14).size)
                      (try dsimp only)
                      refine hK _ _ ?_
                      clear hK K
                      try simp only [Act.put, List.setIfInBounds_toArray, List.set_cons_zero, List.set_cons_succ]
                      refine wpAny_take (i := 15) (oi := ?oid28) (v := ?vd28) ?hod28 (by kernel_rfl) ?hfd28 ?hrd28 ?hQd28 ?hyd28 ?restd28
                      case hod28 => (simp only [List.getElem?_toArray, List.getElem?_cons_succ, List.getElem?_cons_zero]; exact rfl)
                      case hfd28 => kernel_rfl
                      case hrd28 => kernel_rfl
                      case hQd28 => exact fun _ _ _ h => h
                      case hyd28 =>
                        refine Or.inl ⟨by rfl, ?_⟩
                        intro w
                        go_simp
                        (try with_reducible rfl)
                      try simp only [Act.put, List.setIfInBounds_toArray, List.set_cons_zero, List.set_cons_succ]
                      refine wpAny_take (i := 16) (oi := ?oid29) (v := ?vd29) ?hod29 (by kernel_rfl) ?hfd29 ?hrd29 ?hQd29 ?hyd29 ?restd29
                      case hod29 => (simp only [List.getElem?_toArray, List.getElem?_cons_succ, List.getElem?_cons_zero]; exact rfl)
                      case hfd29 => kernel_rfl
                      case hrd29 => kernel_rfl
                      case hQd29 => exact fun _ _ _ h => h
                      case hyd29 =>
                        refine Or.inl ⟨by rfl, ?_⟩
                        intro w
                        go_simp
                        (try with_reducible rfl)
                      try simp only [Act.put, List.setIfInBounds_toArray, List.set_cons_zero, List.set_cons_succ]
                      refine wpAny_take (i := 17) (oi := ?oid30) (v := ?vd30) ?hod30 (by kernel_rfl) ?hfd30 ?hrd30 ?hQd30 ?hyd30 ?restd30
                      case hod30 => (simp only [List.getElem?_toArray, List.getElem?_cons_succ, List.getElem?_cons_zero]; exact rfl)
                      case hfd30 => kernel_rfl
                      case hrd30 => kernel_rfl
                      case hQd30 => exact fun _ _ _ h => h
                      case hyd30 =>
                        refine Or.inl ⟨by rfl, ?_⟩
                        intro w
                        go_simp
                        (try with_reducible rfl)
                      try simp only [Act.put, List.setIfInBounds_toArray, List.set_cons_zero, List.set_cons_succ]
                      refine wpAny_take (i := 18) (oi := ?oid31) (v := ?vd31) ?hod31 (by kernel_rfl) ?hfd31 ?hrd31 ?hQd31 ?hyd31 ?restd31
                      case hod31 => (simp only [List.getElem?_toArray, List.getElem?_cons_succ, List.getElem?_cons_zero]; exact rfl)
                      case hfd31 => kernel_rfl
                      case hrd31 => kernel_rfl
                      case hQd31 => exact fun _ _ _ h => h
                      case hyd31 =>
                        refine Or.inl ⟨by rfl, ?_⟩
                        intro w
                        go_simp
                        (try with_reducible rfl)
                      try simp only [Act.put, List.setIfInBounds_toArray, List.set_cons_zero, List.set_cons_succ]
                      refine wpAny_take (i := 20) (oi := ?oid32) (v := ?vd32) ?hod32 (by kernel_rfl) ?hfd32 ?hrd32 ?hQd32 ?hyd32 ?restd32
                      case hod32 => (simp only [List.getElem?_toArray, List.getElem?_cons_succ, List.getElem?_cons_zero]; exact rfl)
                      case hfd32 => kernel_rfl
                      case hrd32 => kernel_rfl
                      case hQd32 => exact fun _ _ _ h => h
                      case hyd32 =>
                        refine Or.inl ⟨by rfl, ?_⟩
                        intro w
                        go_simp
                        (try with_reducible rfl)
                      try simp only [Act.put, List.setIfInBounds_toArray, List.set_cons_zero, List.set_cons_succ]
                      refine wpAny_ready (rs := [19]) (by kernel_rfl) (by simp) ?_
                      refine AllReady.cons (o := ?od33) ?hod33 (fun K hK => ?kd33) ?md33
                      case hod33 => (simp only [List.getElem?_toArray, List.getElem?_cons_succ, List.getElem?_cons_zero]; exact rfl)
                      case kd33 =>
                        refine any_load_mid (by rfl) 28 (.tmp 10) rfl W5.heap.size 0 rfl (tA.map bv) _ (hrg _ (by exact hfd27)) Tryd.underlying28 rfl HSZ.out ?_
                        refine hK _ _ ?_
                        clear hK K
                        try simp only [Act.put, List.setIfInBounds_toArray, List.set_cons_zero, List.set_cons_succ]
                        refine wpAny_ready (rs := [21]) (by kernel_rfl) (by simp) ?_
                        refine AllReady.cons (o := ?od34) ?hod34 (fun K hK => ?kd34) ?md34
                        case hod34 => (simp only [List.getElem?_toArray, List.getElem?_cons_succ, List.getElem?_cons_zero]; exact rfl)
                        case kd34 =>
                          go_simp
                          refine (right_yes g key tA A n c R sl _ (hmw _ (by exact hfd27)) (hrw _ (by exact hfd27)) (by have := HFL.out; omega) (by omega) (htw _ (by exact hfd27)) HLA.out (by rw [HFE.out, HTA.out]; simp)).mono ?_
                          rintro e Vd34 ⟨rfl, hvd34⟩
                          have hfd34 : Below U.heap.size U Vd34 := Below.trans (by exact hfd27) (hvd34.mono (hfd27).size)
                          (try dsimp only)
                          refine hK _ _ ?_
                          clear hK K
                          try simp only [Act.put, List.setIfInBounds_toArray, List.set_cons_zero, List.set_cons_succ]
                          refine wpAny_take (i := 22) (oi := ?oid35) (v := ?vd35) ?hod35 (by kernel_rfl) ?hfd35 ?hrd35 ?hQd35 ?hyd35 ?restd35
                          case hod35 => (simp only [List.getElem?_toArray, List.getElem?_cons_succ, List.getElem?_cons_zero]; exact rfl)
                          case hfd35 => kernel_rfl
                          case hrd35 => kernel_rfl
                          case hQd35 => exact fun _ _ _ h => h
                          case hyd35 =>
                            refine Or.inl ⟨by rfl, ?_⟩
                            intro w
                            go_simp
                            (try with_reducible rfl)
                          try simp only [Act.put, List.setIfInBounds_toArray, List.set_cons_zero, List.set_cons_succ]
                          refine wpAny_take (i := 23) (oi := ?oid36) (v := ?vd36) ?hod36 (by kernel_rfl) ?hfd36 ?hrd36 ?hQd36 ?hyd36 ?restd36
                          case hod36 => (simp only [List.getElem?_toArray, List.getElem?_cons_succ, List.getElem?_cons_zero]; exact rfl)
                          case hfd36 => kernel_rfl
                          case hrd36 => kernel_rfl
                          case hQd36 => exact fun _ _ _ h => h
                          case hyd36 =>
                            refine Or.inl ⟨by rfl, ?_⟩
                            intro w
                            go_simp
                            (try with_reducible rfl)
                          try simp only [Act.put, List.setIfInBounds_toArray, List.set_cons_zero, List.set_cons_succ]
                          exact wpAny_done (by kernel_rfl) (hEnd qq _ hfd34) _
                        exact AllReady.nil
                      exact AllReady.nil
                    exact AllReady.nil
                  exact AllReady.nil
                refine AllReady.cons (o := ?od37) ?hod37 (fun K hK => ?kd37) ?md37
                case hod37 => (simp only [List.getElem?_toArray, List.getElem?_cons_succ, List.getElem?_cons_zero]; exact rfl)
                case kd37 =>
                  refine any_load_mid (by rfl) 28 (.tmp 10) rfl W5.heap.size 0 rfl (tA.map bv) _ (hrg _ (by exact hfd7)) Tryd.underlying28 rfl HSZ.out ?_
                  refine hK _ _ ?_
                  clear hK K
                  try simp only [Act.put, List.setIfInBounds_toArray, List.set_cons_zero, List.set_cons_succ]
                  refine wpAny_ready (rs := [12]) (by kernel_rfl) (by simp) ?_
                  refine AllReady.cons (o := ?od38) ?hod38 (fun K hK => ?kd38) ?md38
                  case hod38 => (simp only [List.getElem?_toArray, List.getElem?_cons_succ, List.getElem?_cons_zero]; exact rfl)
                  case kd38 =>
                    refine any_lit1 (by rfl) (.tmp 59) rfl _ _ _ fl (by rfl) (how _ (by exact hfd7)) hmo ?_
                    intro Vd38 qq hrd hvd38
                    have hfd38 : Below U.heap.size U Vd38 := Below.trans (by exact hfd7) (hvd38.mono (hfd7).size)
                    (try dsimp only)
                    refine hK _ _ ?_
                    clear hK K
                    try simp only [Act.put, List.setIfInBounds_toArray, List.set_cons_zero, List.set_cons_succ]
                    refine wpAny_ready (rs := [13]) (by kernel_rfl) (by simp) ?_
                    refine AllReady.cons (o := ?od39) ?hod39 (fun K hK => ?kd39) ?md39
                    case hod39 => (simp only [List.getElem?_toArray, List.getElem?_cons_succ, List.getElem?_cons_zero]; exact rfl)
                    case kd39 =>
                      go_simp
                      refine (macTag_any g key _ 1 1 _ [fl] _ (hmw _ (by exact hfd38)) (by exact hrd) (by have := HM.out; simp; omega) (by omega) (htw _ (by exact hfd38))).mono ?_
                      rintro e Vd39 ⟨rfl, hvd39⟩
                      rw [flat1]
                      unfold tagH
                      rw [HTA.out]
                      have hfd39 : Below U.heap.size U Vd39 := Below.trans (by exact hfd38) (hvd39.mono (hfd38).size)
                      (try dsimp only)
                      refine hK _ _ ?_
                      clear hK K
                      try simp only [Act.put, List.setIfInBounds_toArray, List.set_cons_zero, List.set_cons_succ]
                      refine wpAny_take (i := 15) (oi := ?oid40) (v := ?vd40) ?hod40 (by kernel_rfl) ?hfd40 ?hrd40 ?hQd40 ?hyd40 ?restd40
                      case hod40 => (simp only [List.getElem?_toArray, List.getElem?_cons_succ, List.getElem?_cons_zero]; exact rfl)
                      case hfd40 => kernel_rfl
                      case hrd40 => kernel_rfl
                      case hQd40 => exact fun _ _ _ h => h
                      case hyd40 =>
                        refine Or.inl ⟨by rfl, ?_⟩
                        intro w
                        go_simp
                        (try with_reducible rfl)
                      try simp only [Act.put, List.setIfInBounds_toArray, List.set_cons_zero, List.set_cons_succ]
                      refine wpAny_take (i := 16) (oi := ?oid41) (v := ?vd41) ?hod41 (by kernel_rfl) ?hfd41 ?hrd41 ?hQd41 ?hyd41 ?restd41
                      case hod41 => (simp only [List.getElem?_toArray, List.getElem?_cons_succ, List.getElem?_cons_zero]; exact rfl)
                      case hfd41 => kernel_rfl
                      case hrd41 => kernel_rfl
                      case hQd41 => exact fun _ _ _ h => h
                      case hyd41 =>
                        refine Or.inl ⟨by rfl, ?_⟩
                        intro w
                        go_simp
                        (try with_reducible rfl)
                      try simp only [Act.put, List.setIfInBounds_toArray, List.set_cons_zero, List.set_cons_succ]
                      refine wpAny_take (i := 17) (oi := ?oid42) (v := ?vd42) ?hod42 (by kernel_rfl) ?hfd42 ?hrd42 ?hQd42 ?hyd42 ?restd42
                      case hod42 => (simp only [List.getElem?_toArray, List.getElem?_cons_succ, List.getElem?_cons_zero]; exact rfl)
                      case hfd42 => kernel_rfl
                      case hrd42 => kernel_rfl
                      case hQd42 => exact fun _ _ _ h => h
                      case hyd42 =>
                        refine Or.inl ⟨by rfl, ?_⟩
                        intro w
                        go_simp
                        (try with_reducible rfl)
                      try simp only [Act.put, List.setIfInBounds_toArray, List.set_cons_zero, List.set_cons_succ]
                      refine wpAny_take (i := 18) (oi := ?oid43) (v := ?vd43) ?hod43 (by kernel_rfl) ?hfd43 ?hrd43 ?hQd43 ?hyd43 ?restd43
                      case hod43 => (simp only [List.getElem?_toArray, List.getElem?_cons_succ, List.getElem?_cons_zero]; exact rfl)
                      case hfd43 => kernel_rfl
                      case hrd43 => kernel_rfl
                      case hQd43 => exact fun _ _ _ h => h
                      case hyd43 =>
                        refine Or.inl ⟨by rfl, ?_⟩
                        intro w
                        go_simp
                        (try with_reducible rfl)
                      try simp only [Act.put, List.setIfInBounds_toArray, List.set_cons_zero, List.set_cons_succ]
                      refine wpAny_take (i := 20) (oi := ?oid44) (v := ?vd44) ?hod44 (by kernel_rfl) ?hfd44 ?hrd44 ?hQd44 ?hyd44 ?restd44
                      case hod44 => (simp only [List.getElem?_toArray, List.getElem?_cons_succ, List.getElem?_cons_zero]; exact rfl)
                      case hfd44 => kernel_rfl
                      case hrd44 => kernel_rfl
                      case hQd44 => exact fun _ _ _ h => h
                      case hyd44 =>
                        refine Or.inl ⟨by rfl, ?_⟩
                        intro w
                        go_simp
                        (try with_reducible rfl)
                      try simp only [Act.put, List.setIfInBounds_toArray, List.set_cons_zero, List.set_cons_succ]
                      refine wpAny_ready (rs := [19]) (by kernel_rfl) (by simp) ?_
                      refine AllReady.cons (o := ?od45) ?hod45 (fun K hK => ?kd45) ?md45
                      case hod45 => (simp only [List.getElem?_toArray, List.getElem?_cons_succ, List.getElem?_cons_zero]; exact rfl)
                      case kd45 =>
                        refine any_load_mid (by rfl) 28 (.tmp 10) rfl W5.heap.size 0 rfl (tA.map bv) _ (hrg _ (by exact hfd39)) Tryd.underlying28 rfl HSZ.out ?_
                        refine hK _ _ ?_
                        clear hK K
                        try simp only [Act.put, List.setIfInBounds_toArray, List.set_cons_zero, List.set_cons_succ]
                        refine wpAny_ready (rs := [21]) (by kernel_rfl) (by simp) ?_
                        refine AllReady.cons (o := ?od46) ?hod46 (fun K hK => ?kd46) ?md46
                        case hod46 => (simp only [List.getElem?_toArray, List.getElem?_cons_succ, List.getElem?_cons_zero]; exact rfl)
                        case kd46 =>
                          go_simp
                          refine (right_yes g key tA A n c R sl _ (hmw _ (by exact hfd39)) (hrw _ (by exact hfd39)) (by have := HFL.out; omega) (by omega) (htw _ (by exact hfd39)) HLA.out (by rw [HFE.out, HTA.out]; simp)).mono ?_
                          rintro e Vd46 ⟨rfl, hvd46⟩
                          have hfd46 : Below U.heap.size U Vd46 := Below.trans (by exact hfd39) (hvd46.mono (hfd39).size)
                          (try dsimp only)
                          refine hK _ _ ?_
                          clear hK K
                          try simp only [Act.put, List.setIfInBounds_toArray, List.set_cons_zero, List.set_cons_succ]
                          refine wpAny_take (i := 22) (oi := ?oid47) (v := ?vd47) ?hod47 (by kernel_rfl) ?hfd47 ?hrd47 ?hQd47 ?hyd47 ?restd47
                          case hod47 => (simp only [List.getElem?_toArray, List.getElem?_cons_succ, List.getElem?_cons_zero]; exact rfl)
                          case hfd47 => kernel_rfl
                          case hrd47 => kernel_rfl
                          case hQd47 => exact fun _ _ _ h => h
                          case hyd47 =>
                            refine Or.inl ⟨by rfl, ?_⟩
                            intro w
                            go_simp
                            (try with_reducible rfl)
                          try simp only [Act.put, List.setIfInBounds_toArray, List.set_cons_zero, List.set_cons_succ]
                          refine wpAny_take (i := 23) (oi := ?oid48) (v := ?vd48) ?hod48 (by kernel_rfl) ?hfd48 ?hrd48 ?hQd48 ?hyd48 ?restd48
                          case hod48 => (simp only [List.getElem?_toArray, List.getElem?_cons_succ, List.getElem?_cons_zero]; exact rfl)
                          case hfd48 => kernel_rfl
                          case hrd48 => kernel_rfl
                          case hQd48 => exact fun _ _ _ h => h
                          case hyd48 =>
                            refine Or.inl ⟨by rfl, ?_⟩
                            intro w
                            go_simp
                            (try with_reducible rfl)
                          try simp only [Act.put, List.setIfInBounds_toArray, List.set_cons_zero, List.set_cons_succ]
                          exact wpAny_done (by kernel_rfl) (hEnd qq _ hfd46) _
                        exact AllReady.nil
                      exact AllReady.nil
                    exact AllReady.nil
                  exact AllReady.nil
                exact AllReady.nil
              exact AllReady.nil
            refine AllReady.cons (o := ?od49) ?hod49 (fun K hK => ?kd49) ?md49
            case hod49 => (simp only [List.getElem?_toArray, List.getElem?_cons_succ, List.getElem?_cons_zero]; exact rfl)
            case kd49 =>
              refine any_load_mid (by rfl) 28 (.tmp 10) rfl W5.heap.size 0 rfl (tA.map bv) _ (hrg _ (by exact hf0)) Tryd.underlying28 rfl HSZ.out ?_
              refine hK _ _ ?_
              clear hK K
              try simp only [Act.put, List.setIfInBounds_toArray, List.set_cons_zero, List.set_cons_succ]
              refine wpAny_ready (rs := [5]) (by kernel_rfl) (by simp) ?_
              refine AllReady.cons (o := ?od50) ?hod50 (fun K hK => ?kd50) ?md50
              case hod50 => (simp only [List.getElem?_toArray, List.getElem?_cons_succ, List.getElem?_cons_zero]; exact rfl)
              case kd50 =>
                go_simp
                refine (macTag_any g key A n c R sl _ (hmw _ (by exact hf0)) (hrw _ (by exact hf0)) (by have := HFL.out; omega) (by omega) (htw _ (by exact hf0))).mono ?_
                rintro e Vd50 ⟨rfl, hvd50⟩
                rw [HFE.out]
                unfold tagH
                rw [HTA.out]
                have hfd50 : Below U.heap.size U Vd50 := Below.trans (by exact hf0) (hvd50.mono (hf0).size)
                (try dsimp only)
                refine hK _ _ ?_
                clear hK K
                try simp only [Act.put, List.setIfInBounds_toArray, List.set_cons_zero, List.set_cons_succ]
                refine wpAny_take (i := 7) (oi := ?oid51) (v := ?vd51) ?hod51 (by kernel_rfl) ?hfd51 ?hrd51 ?hQd51 ?hyd51 ?restd51
                case hod51 => (simp only [List.getElem?_toArray, List.getElem?_cons_succ, List.getElem?_cons_zero]; exact rfl)
                case hfd51 => kernel_rfl
                case hrd51 => kernel_rfl
                case hQd51 => exact fun _ _ _ h => h
                case hyd51 =>
                  refine Or.inl ⟨by rfl, ?_⟩
                  intro w
                  go_simp
                  (try with_reducible rfl)
                try simp only [Act.put, List.setIfInBounds_toArray, List.set_cons_zero, List.set_cons_succ]
                refine wpAny_take (i := 8) (oi := ?oid52) (v := ?vd52) ?hod52 (by kernel_rfl) ?hfd52 ?hrd52 ?hQd52 ?hyd52 ?restd52
                case hod52 => (simp only [List.getElem?_toArray, List.getElem?_cons_succ, List.getElem?_cons_zero]; exact rfl)
                case hfd52 => kernel_rfl
                case hrd52 => kernel_rfl
                case hQd52 => exact fun _ _ _ h => h
                case hyd52 =>
                  refine Or.inl ⟨by rfl, ?_⟩
                  intro w
                  go_simp
                  (try with_reducible rfl)
                try simp only [Act.put, List.setIfInBounds_toArray, List.set_cons_zero, List.set_cons_succ]
                refine wpAny_take (i := 9) (oi := ?oid53) (v := ?vd53) ?hod53 (by kernel_rfl) ?hfd53 ?hrd53 ?hQd53 ?hyd53 ?restd53
                case hod53 => (simp only [List.getElem?_toArray, List.getElem?_cons_succ, List.getElem?_cons_zero]; exact rfl)
                case hfd53 => kernel_rfl
                case hrd53 => kernel_rfl
                case hQd53 => exact fun _ _ _ h => h
                case hyd53 =>
                  refine Or.inl ⟨by rfl, ?_⟩
                  intro w
                  go_simp
                  (try with_reducible rfl)
                try simp only [Act.put, List.setIfInBounds_toArray, List.set_cons_zero, List.set_cons_succ]
                refine wpAny_take (i := 10) (oi := ?oid54) (v := ?vd54) ?hod54 (by kernel_rfl) ?hfd54 ?hrd54 ?hQd54 ?hyd54 ?restd54
                case hod54 => (simp only [List.getElem?_toArray, List.getElem?_cons_succ, List.getElem?_cons_zero]; exact rfl)
                case hfd54 => kernel_rfl
                case hrd54 => kernel_rfl
                case hQd54 => exact fun _ _ _ h => h
                case hyd54 =>
                  refine Or.inl ⟨by rfl, ?_⟩
                  intro w
                  go_simp
                  (try with_reducible rfl)
                try simp only [Act.put, List.setIfInBounds_toArray, List.set_cons_zero, List.set_cons_succ]
                refine wpAny_take (i := 11) (oi := ?oid55) (v := ?vd55) ?hod55 (by kernel_rfl) ?hfd55 ?hrd55 ?hQd55 ?hyd55 ?restd55
                case hod55 => (simp only [List.getElem?_toArray, List.getElem?_cons_succ, List.getElem?_cons_zero]; exact rfl)
                case hfd55 => kernel_rfl
                case hrd55 => kernel_rfl
                case hQd55 => exact fun _ _ _ h => h
                case hyd55 =>
                  refine Or.inl ⟨by rfl, ?_⟩
                  intro w
                  go_simp
                  (try with_reducible rfl)
                try simp only [Act.put, List.setIfInBounds_toArray, List.set_cons_zero, List.set_cons_succ]
                refine wpAny_ready (rs := [12, 14]) (by kernel_rfl) (by simp) ?_
                refine AllReady.cons (o := ?od56) ?hod56 (fun K hK => ?kd56) ?md56
                case hod56 => (simp only [List.getElem?_toArray, List.getElem?_cons_succ, List.getElem?_cons_zero]; exact rfl)
                case kd56 =>
                  refine any_lit1 (by rfl) (.tmp 59) rfl _ _ _ fl (by rfl) (how _ (by exact hfd50)) hmo ?_
                  intro Vd56 qq hrd hvd56
                  have hfd56 : Below U.heap.size U Vd56 := Below.trans (by exact hfd50) (hvd56.mono (hfd50).size)
                  (try dsimp only)
                  refine hK _ _ ?_
                  clear hK K
                  try simp only [Act.put, List.setIfInBounds_toArray, List.set_cons_zero, List.set_cons_succ]
                  refine wpAny_ready (rs := [13, 14]) (by kernel_rfl) (by simp) ?_
                  refine AllReady.cons (o := ?od57) ?hod57 (fun K hK => ?kd57) ?md57
                  case hod57 => (simp only [List.getElem?_toArray, List.getElem?_cons_succ, List.getElem?_cons_zero]; exact rfl)
                  case kd57 =>
                    go_simp
                    refine (macTag_any g key _ 1 1 _ [fl] _ (hmw _ (by exact hfd56)) (by exact hrd) (by have := HM.out; simp; omega) (by omega) (htw _ (by exact hfd56))).mono ?_
                    rintro e Vd57 ⟨rfl, hvd57⟩
                    rw [flat1]
                    unfold tagH
                    rw [HTA.out]
                    have hfd57 : Below U.heap.size U Vd57 := Below.trans (by exact hfd56) (hvd57.mono (hfd56).size)
                    (try dsimp only)
                    refine hK _ _ ?_
                    clear hK K
                    try simp only [Act.put, List.setIfInBounds_toArray, List.set_cons_zero, List.set_cons_succ]
                    refine wpAny_ready (rs := [14]) (by kernel_rfl) (by simp) ?_
                    refine AllReady.cons (o := ?od58) ?hod58 (fun K hK => ?kd58) ?md58
                    case hod58 => (simp only [List.getElem?_toArray, List.getElem?_cons_succ, List.getElem?_cons_zero]; exact rfl)
                    case kd58 =>
                      refine any_load_mid (by rfl) 28 (.tmp 10) rfl W5.heap.size 0 rfl (tA.map bv) _ (hrg _ (by exact hfd57)) Tryd.underlying28 rfl HSZ.out ?_
                      refine hK _ _ ?_
                      clear hK K
                      try simp only [Act.put, List.setIfInBounds_toArray, List.set_cons_zero, List.set_cons_succ]
                      refine wpAny_take (i := 15) (oi := ?oid59) (v := ?vd59) ?hod59 (by kernel_rfl) ?hfd59 ?hrd59 ?hQd59 ?hyd59 ?restd59
                      case hod59 => (simp only [List.getElem?_toArray, List.getElem?_cons_succ, List.getElem?_cons_zero]; exact rfl)
                      case hfd59 => kernel_rfl
                      case hrd59 => kernel_rfl
                      case hQd59 => exact fun _ _ _ h => h
                      case hyd59 =>
                        refine Or.inl ⟨by rfl, ?_⟩
                        intro w
                        go_simp
                        (try with_reducible rfl)
                      try simp only [Act.put, List.setIfInBounds_toArray, List.set_cons_zero, List.set_cons_succ]
                      refine wpAny_take (i := 16) (oi := ?oid60) (v := ?vd60) ?hod60 (by kernel_rfl) ?hfd60 ?hrd60 ?hQd60 ?hyd60 ?restd60
                      case hod60 => (simp only [List.getElem?_toArray, List.getElem?_cons_succ, List.getElem?_cons_zero]; exact rfl)
                      case hfd60 => kernel_rfl
                      case hrd60 => kernel_rfl
                      case hQd60 => exact fun _ _ _ h => h
                      case hyd60 =>
                        refine Or.inl ⟨by rfl, ?_⟩
                        intro w
                        go_simp
                        (try with_reducible rfl)
                      try simp only [Act.put, List.setIfInBounds_toArray, List.set_cons_zero, List.set_cons_succ]
                      refine wpAny_take (i := 17) (oi := ?oid61) (v := ?vd61) ?hod61 (by kernel_rfl) ?hfd61 ?hrd61 ?hQd61 ?hyd61 ?restd61
                      case hod61 => (simp only [List.getElem?_toArray, List.getElem?_cons_succ, List.getElem?_cons_zero]; exact rfl)
                      case hfd61 => kernel_rfl
                      case hrd61 => kernel_rfl
                      case hQd61 => exact fun _ _ _ h => h
                      case hyd61 =>
                        refine Or.inl ⟨by rfl, ?_⟩
                        intro w
                        go_simp
                        (try with_reducible rfl)
                      try simp only [Act.put, List.setIfInBounds_toArray, List.set_cons_zero, List.set_cons_succ]
                      refine wpAny_take (i := 18) (oi := ?oid62) (v := ?vd62) ?hod62 (by kernel_rfl) ?hfd62 ?hrd62 ?hQd62 ?hyd62 ?restd62
                      case hod62 => (simp only [List.getElem?_toArray, List.getElem?_cons_succ, List.getElem?_cons_zero]; exact rfl)
                      case hfd62 => kernel_rfl
                      case hrd62 => kernel_rfl
                      case hQd62 => exact fun _ _ _ h => h
                      case hyd62 =>
                        refine Or.inl ⟨by rfl, ?_⟩
                        intro w
                        go_simp
                        (try with_reducible rfl)
                      try simp only [Act.put, List.setIfInBounds_toArray, List.set_cons_zero, List.set_cons_succ]
                      refine wpAny_take (i := 20) (oi := ?oid63) (v := ?vd63) ?hod63 (by kernel_rfl) ?hfd63 ?hrd63 ?hQd63 ?hyd63 ?restd63
                      case hod63 => (simp only [List.getElem?_toArray, List.getElem?_cons_succ, List.getElem?_cons_zero]; exact rfl)
                      case hfd63 => kernel_rfl
                      case hrd63 => kernel_rfl
                      case hQd63 => exact fun _ _ _ h => h
                      case hyd63 =>
                        refine Or.inl ⟨by rfl, ?_⟩
                        intro w
                        go_simp
                        (try with_reducible rfl)
                      try simp only [Act.put, List.setIfInBounds_toArray, List.set_cons_zero, List.set_cons_succ]
                      refine wpAny_ready (rs := [19]) (by kernel_rfl) (by simp) ?_
                      refine AllReady.cons (o := ?od64) ?hod64 (fun K hK => ?kd64) ?md64
                      case hod64 => (simp only [List.getElem?_toArray, List.getElem?_cons_succ, List.getElem?_cons_zero]; exact rfl)
                      case kd64 =>
                        refine any_load_mid (by rfl) 28 (.tmp 10) rfl W5.heap.size 0 rfl (tA.map bv) _ (hrg _ (by exact hfd57)) Tryd.underlying28 rfl HSZ.out ?_
                        refine hK _ _ ?_
                        clear hK K
                        try simp only [Act.put, List.setIfInBounds_toArray, List.set_cons_zero, List.set_cons_succ]
                        refine wpAny_ready (rs := [21]) (by kernel_rfl) (by simp) ?_
                        refine AllReady.cons (o := ?od65) ?hod65 (fun K hK => ?kd65) ?md65
                        case hod65 => (simp only [List.getElem?_toArray, List.getElem?_cons_succ, List.getElem?_cons_zero]; exact rfl)
                        case kd65 =>
                          go_simp
                          refine (right_yes g key tA A n c R sl _ (hmw _ (by exact hfd57)) (hrw _ (by exact hfd57)) (by have := HFL.out; omega) (by omega) (htw _ (by exact hfd57)) HLA.out (by rw [HFE.out, HTA.out]; simp)).mono ?_
                          rintro e Vd65 ⟨rfl, hvd65⟩
                          have hfd65 : Below U.heap.size U Vd65 := Below.trans (by exact hfd57) (hvd65.mono (hfd57).size)
                          (try dsimp only)
                          refine hK _ _ ?_
                          clear hK K
                          try simp only [Act.put, List.setIfInBounds_toArray, List.set_cons_zero, List.set_cons_succ]
                          refine wpAny_take (i := 22) (oi := ?oid66) (v := ?vd66) ?hod66 (by kernel_rfl) ?hfd66 ?hrd66 ?hQd66 ?hyd66 ?restd66
                          case hod66 => (simp only [List.getElem?_toArray, List.getElem?_cons_succ, List.getElem?_cons_zero]; exact rfl)
                          case hfd66 => kernel_rfl
                          case hrd66 => kernel_rfl
                          case hQd66 => exact fun _ _ _ h => h
                          case hyd66 =>
                            refine Or.inl ⟨by rfl, ?_⟩
                            intro w
                            go_simp
                            (try with_reducible rfl)
                          try simp only [Act.put, List.setIfInBounds_toArray, List.set_cons_zero, List.set_cons_succ]
                          refine wpAny_take (i := 23) (oi := ?oid67) (v := ?vd67) ?hod67 (by kernel_rfl) ?hfd67 ?hrd67 ?hQd67 ?hyd67 ?restd67
                          case hod67 => (simp only [List.getElem?_toArray, List.getElem?_cons_succ, List.getElem?_cons_zero]; exact rfl)
                          case hfd67 => kernel_rfl
                          case hrd67 => kernel_rfl
                          case hQd67 => exact fun _ _ _ h => h
                          case hyd67 =>
                            refine Or.inl ⟨by rfl, ?_⟩
                            intro w
                            go_simp
                            (try with_reducible rfl)
                          try simp only [Act.put, List.setIfInBounds_toArray, List.set_cons_zero, List.set_cons_succ]
                          exact wpAny_done (by kernel_rfl) (hEnd qq _ hfd65) _
                        exact AllReady.nil
                      exact AllReady.nil
                    exact AllReady.nil
                  refine AllReady.cons (o := ?od68) ?hod68 (fun K hK => ?kd68) ?md68
                  case hod68 => (simp only [List.getElem?_toArray, List.getElem?_cons_succ, List.getElem?_cons_zero]; exact rfl)
                  case kd68 =>
                    refine any_load_mid (by rfl) 28 (.tmp 10) rfl W5.heap.size 0 rfl (tA.map bv) _ (hrg _ (by exact hfd56)) Tryd.underlying28 rfl HSZ.out ?_
                    refine hK _ _ ?_
                    clear hK K
                    try simp only [Act.put, List.setIfInBounds_toArray, List.set_cons_zero, List.set_cons_succ]
                    refine wpAny_ready (rs := [13]) (by kernel_rfl) (by simp) ?_
                    refine AllReady.cons (o := ?od69) ?hod69 (fun K hK => ?kd69) ?md69
                    case hod69 => (simp only [List.getElem?_toArray, List.getElem?_cons_succ, List.getElem?_cons_zero]; exact rfl)
                    case kd69 =>
                      go_simp
                      refine (macTag_any g key _ 1 1 _ [fl] _ (hmw _ (by exact hfd56)) (by exact hrd) (by have := HM.out; simp; omega) (by omega) (htw _ (by exact hfd56))).mono ?_
                      rintro e Vd69 ⟨rfl, hvd69⟩
                      rw [flat1]
                      unfold tagH
                      rw [HTA.out]
                      have hfd69 : Below U.heap.size U Vd69 := Below.trans (by exact hfd56) (hvd69.mono (hfd56).size)
                      (try dsimp only)
                      refine hK _ _ ?_
                      clear hK K
                      try simp only [Act.put, List.setIfInBounds_toArray, List.set_cons_zero, List.set_cons_succ]
                      refine wpAny_take (i := 15) (oi := ?oid70) (v := ?vd70) ?hod70 (by kernel_rfl) ?hfd70 ?hrd70 ?hQd70 ?hyd70 ?restd70
                      case hod70 => (simp only [List.getElem?_toArray, List.getElem?_cons_succ, List.getElem?_cons_zero]; exact rfl)
                      case hfd70 => kernel_rfl
                      case hrd70 => kernel_rfl
                      case hQd70 => exact fun _ _ _ h => h
                      case hyd70 =>
                        refine Or.inl ⟨by rfl, ?_⟩
                        intro w
                        go_simp
                        (try with_reducible rfl)
                      try simp only [Act.put, List.setIfInBounds_toArray, List.set_cons_zero, List.set_cons_succ]
                      refine wpAny_take (i := 16) (oi := ?oid71) (v := ?vd71) ?hod71 (by kernel_rfl) ?hfd71 ?hrd71 ?hQd71 ?hyd71 ?restd71
                      case hod71 => (simp only [List.getElem?_toArray, List.getElem?_cons_succ, List.getElem?_cons_zero]; exact rfl)
                      case hfd71 => kernel_rfl
                      case hrd71 => kernel_rfl
                      case hQd71 => exact fun _ _ _ h => h
                      case hyd71 =>
                        refine Or.inl ⟨by rfl, ?_⟩
                        intro w
                        go_simp
                        (try with_reducible rfl)
                      try simp only [Act.put, List.setIfInBounds_toArray, List.set_cons_zero, List.set_cons_succ]
                      refine wpAny_take (i := 17) (oi := ?oid72) (v := ?vd72) ?hod72 (by kernel_rfl) ?hfd72 ?hrd72 ?hQd72 ?hyd72 ?restd72
                      case hod72 => (simp only [List.getElem?_toArray, List.getElem?_cons_succ, List.getElem?_cons_zero]; exact rfl)
                      case hfd72 => kernel_rfl
                      case hrd72 => kernel_rfl
                      case hQd72 => exact fun _ _ _ h => h
                      case hyd72 =>
                        refine Or.inl ⟨by rfl, ?_⟩
                        intro w
                        go_simp
                        (try with_reducible rfl)
                      try simp only [Act.put, List.setIfInBounds_toArray, List.set_cons_zero, List.set_cons_succ]
                      refine wpAny_take (i := 18) (oi := ?oid73) (v := ?vd73) ?hod73 (by kernel_rfl) ?hfd73 ?hrd73 ?hQd73 ?hyd73 ?restd73
                      case hod73 => (simp only [List.getElem?_toArray, List.getElem?_cons_succ, List.getElem?_cons_zero]; exact rfl)
                      case hfd73 => kernel_rfl
                      case hrd73 => kernel_rfl
                      case hQd73 => exact fun _ _ _ h => h
                      case hyd73 =>
                        refine Or.inl ⟨by rfl, ?_⟩
                        intro w
                        go_simp
                        (try with_reducible rfl)
                      try simp only [Act.put, List.setIfInBounds_toArray, List.set_cons_zero, List.set_cons_succ]
                      refine wpAny_take (i := 20) (oi := ?oid74) (v := ?vd74) ?hod74 (by kernel_rfl) ?hfd74 ?hrd74 ?hQd74 ?hyd74 ?restd74
                      case hod74 => (simp only [List.getElem?_toArray, List.getElem?_cons_succ, List.getElem?_cons_zero]; exact rfl)
                      case hfd74 => kernel_rfl
                      case hrd74 => kernel_rfl
                      case hQd74 => exact fun _ _ _ h => h
                      case hyd74 =>
                        refine Or.inl ⟨by rfl, ?_⟩
                        intro w
                        go_simp
                        (try with_reducible rfl)
                      try simp only [Act.put, List.setIfInBounds_toArray, List.set_cons_zero, List.set_cons_succ]
                      refine wpAny_ready (rs := [19]) (by kernel_rfl) (by simp) ?_
                      refine AllReady.cons (o := ?od75) ?hod75 (fun K hK => ?kd75) ?md75
                      case hod75 => (simp only [List.getElem?_toArray, List.getElem?_cons_succ, List.getElem?_cons_zero]; exact rfl)
                      case kd75 =>
                        refine any_load_mid (by rfl) 28 (.tmp 10) rfl W5.heap.size 0 rfl (tA.map bv) _ (hrg _ (by exact hfd69)) Tryd.underlying28 rfl HSZ.out ?_
                        refine hK _ _ ?_
                        clear hK K
                        try simp only [Act.put, List.setIfInBounds_toArray, List.set_cons_zero, List.set_cons_succ]
                        refine wpAny_ready (rs := [21]) (by kernel_rfl) (by simp) ?_
                        refine AllReady.cons (o := ?od76) ?hod76 (fun K hK => ?kd76) ?md76
                        case hod76 => (simp only [List.getElem?_toArray, List.getElem?_cons_succ, List.getElem?_cons_zero]; exact rfl)
                        case kd76 =>
                          go_simp
                          refine (right_yes g key tA A n c R sl _ (hmw _ (by exact hfd69)) (hrw _ (by exact hfd69)) (by have := HFL.out; omega) (by omega) (htw _ (by exact hfd69)) HLA.out (by rw [HFE.out, HTA.out]; simp)).mono ?_
                          rintro e Vd76 ⟨rfl, hvd76⟩
                          have hfd76 : Below U.heap.size U Vd76 := Below.trans (by exact hfd69) (hvd76.mono (hfd69).size)
                          (try dsimp only)
                          refine hK _ _ ?_
                          clear hK K
                          try simp only [Act.put, List.setIfInBounds_toArray, List.set_cons_zero, List.set_cons_succ]
                          refine wpAny_take (i := 22) (oi := ?oid77) (v := ?vd77) ?hod77 (by kernel_rfl) ?hfd77 ?hrd77 ?hQd77 ?hyd77 ?restd77
                          case hod77 => (simp only [List.getElem?_toArray, List.getElem?_cons_succ, List.getElem?_cons_zero]; exact rfl)
                          case hfd77 => kernel_rfl
                          case hrd77 => kernel_rfl
                          case hQd77 => exact fun _ _ _ h => h
                          case hyd77 =>
                            refine Or.inl ⟨by rfl, ?_⟩
                            intro w
                            go_simp
                            (try with_reducible rfl)
                          try simp only [Act.put, List.setIfInBounds_toArray, List.set_cons_zero, List.set_cons_succ]
                          refine wpAny_take (i := 23) (oi := ?oid78) (v := ?vd78) ?hod78 (by kernel_rfl) ?hfd78 ?hrd78 ?hQd78 ?hyd78 ?restd78
                          case hod78 => (simp only [List.getElem?_toArray, List.getElem?_cons_succ, List.getElem?_cons_zero]; exact rfl)
                          case hfd78 => kernel_rfl
                          case hrd78 => kernel_rfl
                          case hQd78 => exact fun _ _ _ h => h
                          case hyd78 =>
                            refine Or.inl ⟨by rfl, ?_⟩
                            intro w
                            go_simp
                            (try with_reducible rfl)
                          try simp only [Act.put, List.setIfInBounds_toArray, List.set_cons_zero, List.set_cons_succ]
                          exact wpAny_done (by kernel_rfl) (hEnd qq _ hfd76) _
                        exact AllReady.nil
                      exact AllReady.nil
                    exact AllReady.nil
                  exact AllReady.nil
                refine AllReady.cons (o := ?od79) ?hod79 (fun K hK => ?kd79) ?md79
                case hod79 => (simp only [List.getElem?_toArray, List.getElem?_cons_succ, List.getElem?_cons_zero]; exact rfl)
                case kd79 =>
                  refine any_load_mid (by rfl) 28 (.tmp 10) rfl W5.heap.size 0 rfl (tA.map bv) _ (hrg _ (by exact hfd50)) Tryd.underlying28 rfl HSZ.out ?_
                  refine hK _ _ ?_
                  clear hK K
                  try simp only [Act.put, List.setIfInBounds_toArray, List.set_cons_zero, List.set_cons_succ]
                  refine wpAny_ready (rs := [12]) (by kernel_rfl) (by simp) ?_
                  refine AllReady.cons (o := ?od80) ?hod80 (fun K hK => ?kd80) ?md80
                  case hod80 => (simp only [List.getElem?_toArray, List.getElem?_cons_succ, List.getElem?_cons_zero]; exact rfl)
                  case kd80 =>
                    refine any_lit1 (by rfl) (.tmp 59) rfl _ _ _ fl (by rfl) (how _ (by exact hfd50)) hmo ?_
                    intro Vd80 qq hrd hvd80
                    have hfd80 : Below U.heap.size U Vd80 := Below.trans (by exact hfd50) (hvd80.mono (hfd50).size)
                    (try dsimp only)
                    refine hK _ _ ?_
                    clear hK K
                    try simp only [Act.put, List.setIfInBounds_toArray, List.set_cons_zero, List.set_cons_succ]
                    refine wpAny_ready (rs := [13]) (by kernel_rfl) (by simp) ?_
                    refine AllReady.cons (o := ?od81) ?hod81 (fun K hK => ?kd81) ?md81
                    case hod81 => (simp only [List.getElem?_toArray, List.getElem?_cons_succ, List.getElem?_cons_zero]; exact rfl)
                    case kd81 =>
                      go_simp
                      refine (macTag_any g key _ 1 1 _ [fl] _ (hmw _ (by exact hfd80)) (by exact hrd) (by have := HM.out; simp; omega) (by omega) (htw _ (by exact hfd80))).mono ?_
                      rintro e Vd81 ⟨rfl, hvd81⟩
                      rw [flat1]
                      unfold tagH
                      rw [HTA.out]
                      have hfd81 : Below U.heap.size U Vd81 := Below.trans (by exact hfd80) (hvd81.mono (hfd80).size)
                      (try dsimp only)
                      refine hK _ _ ?_
                      clear hK K
                      try simp only [Act.put, List.setIfInBounds_toArray, List.set_cons_zero, List.set_cons_succ]
                      refine wpAny_take (i := 15) (oi := ?oid82) (v := ?vd82) ?hod82 (by kernel_rfl) ?hfd82 ?hrd82 ?hQd82 ?hyd82 ?restd82
                      case hod82 => (simp only [List.getElem?_toArray, List.getElem?_cons_succ, List.getElem?_cons_zero]; exact rfl)
                      case hfd82 => kernel_rfl
                      case hrd82 => kernel_rfl
                      case hQd82 => exact fun _ _ _ h => h
                      case hyd82 =>
                        refine Or.inl ⟨by rfl, ?_⟩
                        intro w
                        go_simp
                        (try with_reducible rfl)
                      try simp only [Act.put, List.setIfInBounds_toArray, List.set_cons_zero, List.set_cons_succ]
                      refine wpAny_take (i := 16) (oi := ?oid83) (v := ?vd83) ?hod83 (by kernel_rfl) ?hfd83 ?hrd83 ?hQd83 ?hyd83 ?restd83
                      case hod83 => (simp only [List.getElem?_toArray, List.getElem?_cons_succ, List.getElem?_cons_zero]; exact rfl)
                      case hfd83 => kernel_rfl
                      case hrd83 => kernel_rfl
                      case hQd83 => exact fun _ _ _ h => h
                      case hyd83 =>
                        refine Or.inl ⟨by rfl, ?_⟩
                        intro w
                        go_simp
                        (try with_reducible rfl)
                      try simp only [Act.put, List.setIfInBounds_toArray, List.set_cons_zero, List.set_cons_succ]
                      refine wpAny_take (i := 17) (oi := ?oid84) (v := ?vd84) ?hod84 (by kernel_rfl) ?hfd84 ?hrd84 ?hQd84 ?hyd84 ?restd84
                      case hod84 => (simp only [List.getElem?_toArray, List.getElem?_cons_succ, List.getElem?_cons_zero]; exact rfl)
                      case hfd84 => kernel_rfl
                      case hrd84 => kernel_rfl
                      case hQd84 => exact fun _ _ _ h => h
                      case hyd84 =>
                        refine Or.inl ⟨by rfl, ?_⟩
                        intro w
                        go_simp
                        (try with_reducible rfl)
                      try simp only [Act.put, List.setIfInBounds_toArray, List.set_cons_zero, List.set_cons_succ]
                      refine wpAny_take (i := 18) (oi := ?oid85) (v := ?vd85) ?hod85 (by kernel_rfl) ?hfd85 ?hrd85 ?hQd85 ?hyd85 ?restd85
                      case hod85 => (simp only [List.getElem?_toArray, List.getElem?_cons_succ, List.getElem?_cons_zero]; exact rfl)
                      case hfd85 => kernel_rfl
                      case hrd85 => kernel_rfl
                      case hQd85 => exact fun _ _ _ h => h
                      case hyd85 =>
                        refine Or.inl ⟨by rfl, ?_⟩
                        intro w
                        go_simp
                        (try with_reducible rfl)
                      try simp only [Act.put, List.setIfInBounds_toArray, List.set_cons_zero, List.set_cons_succ]
                      refine wpAny_take (i := 20) (oi := ?oid86) (v := ?vd86) ?hod86 (by kernel_rfl) ?hfd86 ?hrd86 ?hQd86 ?hyd86 ?restd86
                      case hod86 => (simp only [List.getElem?_toArray, List.getElem?_cons_succ, List.getElem?_cons_zero]; exact rfl)
                      case hfd86 => kernel_rfl
                      case hrd86 => kernel_rfl
                      case hQd86 => exact fun _ _ _ h => h
                      case hyd86 =>
                        refine Or.inl ⟨by rfl, ?_⟩
                        intro w
                        go_simp
                        (try with_reducible rfl)
                      try simp only [Act.put, List.setIfInBounds_toArray, List.set_cons_zero, List.set_cons_succ]
                      refine wpAny_ready (rs := [19]) (by kernel_rfl) (by simp) ?_
                      refine AllReady.cons (o := ?od87) ?hod87 (fun K hK => ?kd87) ?md87
                      case hod87 => (simp only [List.getElem?_toArray, List.getElem?_cons_succ, List.getElem?_cons_zero]; exact rfl)
                      case kd87 =>
                        refine any_load_mid (by rfl) 28 (.tmp 10) rfl W5.heap.size 0 rfl (tA.map bv) _ (hrg _ (by exact hfd81)) Tryd.underlying28 rfl HSZ.out ?_
                        refine hK _ _ ?_
                        clear hK K
                        try simp only [Act.put, List.setIfInBounds_toArray, List.set_cons_zero, List.set_cons_succ]
                        refine wpAny_ready (rs := [21]) (by kernel_rfl) (by simp) ?_
                        refine AllReady.cons (o := ?od88) ?hod88 (fun K hK => ?kd88) ?md88
                        case hod88 => (simp only [List.getElem?_toArray, List.getElem?_cons_succ, List.getElem?_cons_zero]; exact rfl)
                        case kd88 =>
                          go_simp
                          refine (right_yes g key tA A n c R sl _ (hmw _ (by exact hfd81)) (hrw _ (by exact hfd81)) (by have := HFL.out; omega) (by omega) (htw _ (by exact hfd81)) HLA.out (by rw [HFE.out, HTA.out]; simp)).mono ?_
                          rintro e Vd88 ⟨rfl, hvd88⟩
                          have hfd88 : Below U.heap.size U Vd88 := Below.trans (by exact hfd81) (hvd88.mono (hfd81).size)
                          (try dsimp only)
                          refine hK _ _ ?_
                          clear hK K
                          try simp only [Act.put, List.setIfInBounds_toArray, List.set_cons_zero, List.set_cons_succ]
                          refine wpAny_take (i := 22) (oi := ?oid89) (v := ?vd89) ?hod89 (by kernel_rfl) ?hfd89 ?hrd89 ?hQd89 ?hyd89 ?restd89
                          case hod89 => (simp only [List.getElem?_toArray, List.getElem?_cons_succ, List.getElem?_cons_zero]; exact rfl)
                          case hfd89 => kernel_rfl
                          case hrd89 => kernel_rfl
                          case hQd89 => exact fun _ _ _ h => h
                          case hyd89 =>
                            refine Or.inl ⟨by rfl, ?_⟩
                            intro w
                            go_simp
                            (try with_reducible rfl)
                          try simp only [Act.put, List.setIfInBounds_toArray, List.set_cons_zero, List.set_cons_succ]
                          refine wpAny_take (i := 23) (oi := ?oid90) (v := ?vd90) ?hod90 (by kernel_rfl) ?hfd90 ?hrd90 ?hQd90 ?hyd90 ?restd90
                          case hod90 => (simp only [List.getElem?_toArray, List.getElem?_cons_succ, List.getElem?_cons_zero]; exact rfl)
                          case hfd90 => kernel_rfl
                          case hrd90 => kernel_rfl
                          case hQd90 => exact fun _ _ _ h => h
                          case hyd90 =>
                            refine Or.inl ⟨by rfl, ?_⟩
                            intro w
                            go_simp
                            (try with_reducible rfl)
                          try simp only [Act.put, List.setIfInBounds_toArray, List.set_cons_zero, List.set_cons_succ]
                          exact wpAny_done (by kernel_rfl) (hEnd qq _ hfd88) _
                        exact AllReady.nil
                      exact AllReady.nil
                    exact AllReady.nil
                  exact AllReady.nil
                exact AllReady.nil
              exact AllReady.nil
            exact AllReady.nil
          case cd1 =>
            intro qq V hV
            obtain ⟨V1, HV1⟩ : ∃ V1, Hid (V1 = V.alloc (.cells #[.slice A0 n0 c0] 22)) := ⟨_, rfl⟩
            have hl1 : Rws V1 V1.heap.size (some ⟨V.heap.size, 0, none⟩) 1 [(A0, n0, c0)] [key] := by rw [HV1.out]; exact Rws.lit1 22 (h0w _ hV) k0
            have hV1 : Below U.heap.size U V1 := by rw [HV1.out]; exact hV.alloc hV.size _
            repeat go_step
            rw [← HV1.out]
            refine (sum_any _ 1 1 _ [key] V1 hl1 (by have := HL0.out; simp; omega) (by omega) (htw _ hV1)).mono ?_
            rintro e V2 ⟨rfl, hv2⟩
            rw [flat1]
            have hV2 := hV1.trans (hv2.mono hV1.size)
            clear hV1 hv2 hl1
            obtain ⟨X, hX, hsX, hXB⟩ : ∃ X, X = V2.alloc (.cells ((shaL key).map bv).toArray 28) ∧ Bk X V2.heap.size 28 ((shaL key).map bv) ∧ Below U.heap.size U X :=
              ⟨_, rfl, Bk.new V2 _ _, hV2.alloc hV2.size _⟩
            have HX := Lib.hid hX
            clear hX hV2
            unfold tagV
            dsimp only
            repeat (first | (refine wpList_store_new rfl 28 _ _ rfl V2 _ _ rfl rfl (tagSz _ (shaL_len key)) (tag32 _ (shaL_len key)) (bvOne _) ?_; rw [← HX.out]) | go_step)
            have hXU : ∀ W : World, Below X.heap.size X W → Below U.heap.size U W := fun W h => hXB.trans (h.mono hXB.size)
            have hsr : ∀ W : World, Below X.heap.size X W → Rd W W.heap.size 1 (some ⟨V2.heap.size, 0, none⟩) 32 ((shaL key).map bv) := fun W h => by
              have h2 := (hsX.later h).rd 32 (by simp [shaL_len])
              rwa [List.take_of_length_le (by simp [shaL_len])] at h2
            by_cases hkl : n0 ≤ 64
            · have hd64 : decide ((n0 : Int) ≤ 64) = true := by simp; omega
              refine wp_region_any (by kernel_rfl) ?_
              try (change wpAny _ _ _ _ _ _ _ (World.drew _))
              have hf0 : Below X.heap.size X X.drew := belowDrewN (Below.refl _ _) 1
              refine wpAny_take (i := 0) (oi := ?oid92) (v := ?vd92) ?hod92 (by kernel_rfl) ?hfd92 ?hrd92 ?hQd92 ?hyd92 ?restd92
              case hod92 => (simp only [List.getElem?_toArray, List.getElem?_cons_succ, List.getElem?_cons_zero]; exact rfl)
              case hfd92 => kernel_rfl
              case hrd92 => kernel_rfl
              case hQd92 => exact fun _ _ _ h => h
              case hyd92 =>
                refine Or.inl ⟨by rfl, ?_⟩
                intro w
                go_simp
                (try with_reducible rfl)
              try simp only [Act.put, List.setIfInBounds_toArray, List.set_cons_zero, List.set_cons_succ]
              refine wpAny_take (i := 1) (oi := ?oid93) (v := ?vd93) ?hod93 (by kernel_rfl) ?hfd93 ?hrd93 ?hQd93 ?hyd93 ?restd93
              case hod93 => (simp only [List.getElem?_toArray, List.getElem?_cons_succ, List.getElem?_cons_zero]; exact rfl)
              case hfd93 => kernel_rfl
              case hrd93 => kernel_rfl
              case hQd93 => exact fun _ _ _ h => h
              case hyd93 =>
                refine Or.inl ⟨by rfl, ?_⟩
                intro w
                go_simp
                (try with_reducible rfl)
              try simp only [Act.put, List.setIfInBounds_toArray, List.set_cons_zero, List.set_cons_succ]
              refine wpAny_take (i := 2) (oi := ?oid94) (v := ?vd94) ?hod94 (by kernel_rfl) ?hfd94 ?hrd94 ?hQd94 ?hyd94 ?restd94
              case hod94 => (simp only [List.getElem?_toArray, List.getElem?_cons_succ, List.getElem?_cons_zero]; exact rfl)
              case hfd94 => kernel_rfl
              case hrd94 => kernel_rfl
              case hQd94 => exact fun _ _ _ h => h
              case hyd94 =>
                refine Or.inl ⟨by rfl, ?_⟩
                intro w
                go_simp
                (try with_reducible rfl)
              try simp only [Act.put, List.setIfInBounds_toArray, List.set_cons_zero, List.set_cons_succ]
              refine wpAny_take (i := 3) (oi := ?oid95) (v := ?vd95) ?hod95 (by kernel_rfl) ?hfd95 ?hrd95 ?hQd95 ?hyd95 ?restd95
              case hod95 => (simp only [List.getElem?_toArray, List.getElem?_cons_succ, List.getElem?_cons_zero]; exact rfl)
              case hfd95 => kernel_rfl
              case hrd95 => kernel_rfl
              case hQd95 => exact fun _ _ _ h => h
              case hyd95 =>
                refine Or.inl ⟨by rfl, ?_⟩
                intro w
                go_simp
                (try with_reducible rfl)
              try simp only [Act.put, List.setIfInBounds_toArray, List.set_cons_zero, List.set_cons_succ]
              refine wpAny_take (i := 4) (oi := ?oid96) (v := undef) ?hod96 (by kernel_rfl) ?hfd96 ?hrd96 ?hQd96 ?hyd96 ?restd96
              case hod96 => (simp only [List.getElem?_toArray, List.getElem?_cons_succ, List.getElem?_cons_zero]; exact rfl)
              case hfd96 => kernel_rfl
              case hrd96 => kernel_rfl
              case hQd96 => exact fun _ _ _ h => h
              case hyd96 =>
                exact Or.inr ⟨by rfl, rfl⟩
              try simp only [Act.put, List.setIfInBounds_toArray, List.set_cons_zero, List.set_cons_succ]
              refine wpAny_take (i := 5) (oi := ?oid97) (v := undef) ?hod97 (by kernel_rfl) ?hfd97 ?hrd97 ?hQd97 ?hyd97 ?restd97
              case hod97 => (simp only [List.getElem?_toArray, List.getElem?_cons_succ, List.getElem?_cons_zero]; exact rfl)
              case hfd97 => kernel_rfl
              case hrd97 => kernel_rfl
              case hQd97 => exact fun _ _ _ h => h
              case hyd97 =>
                exact Or.inr ⟨by rfl, rfl⟩
              try simp only [Act.put, List.setIfInBounds_toArray, List.set_cons_zero, List.set_cons_succ]
              refine wpAny_take (i := 6) (oi := ?oid98) (v := undef) ?hod98 (by kernel_rfl) ?hfd98 ?hrd98 ?hQd98 ?hyd98 ?restd98
              case hod98 => (simp only [List.getElem?_toArray, List.getElem?_cons_succ, List.getElem?_cons_zero]; exact rfl)
              case hfd98 => kernel_rfl
              case hrd98 => kernel_rfl
              case hQd98 => exact fun _ _ _ h => h
              case hyd98 =>
                exact Or.inr ⟨by rfl, rfl⟩
              try simp only [Act.put, List.setIfInBounds_toArray, List.set_cons_zero, List.set_cons_succ]
              refine wpAny_take (i := 7) (oi := ?oid99) (v := undef) ?hod99 (by kernel_rfl) ?hfd99 ?hrd99 ?hQd99 ?hyd99 ?restd99
              case hod99 => (simp only [List.getElem?_toArray, List.getElem?_cons_succ, List.getElem?_cons_zero]; exact rfl)
              case hfd99 => kernel_rfl
              case hrd99 => kernel_rfl
              case hQd99 => exact fun _ _ _ h => h
              case hyd99 =>
                exact Or.inr ⟨by rfl, rfl⟩
              try simp only [Act.put, List.setIfInBounds_toArray, List.set_cons_zero, List.set_cons_succ]
              refine wpAny_take (i := 8) (oi := ?oid100) (v := undef) ?hod100 (by kernel_rfl) ?hfd100 ?hrd100 ?hQd100 ?hyd100 ?restd100
              case hod100 => (simp only [List.getElem?_toArray, List.getElem?_cons_succ, List.getElem?_cons_zero]; exact rfl)
              case hfd100 => kernel_rfl
              case hrd100 => kernel_rfl
              case hQd100 => exact fun _ _ _ h => h
              case hyd100 =>
                exact Or.inr ⟨by rfl, rfl⟩
              try simp only [Act.put, List.setIfInBounds_toArray, List.set_cons_zero, List.set_cons_succ]
              refine wpAny_take (i := 9) (oi := ?oid101) (v := ?vd101) ?hod101 (by kernel_rfl) ?hfd101 ?hrd101 ?hQd101 ?hyd101 ?restd101
              case hod101 => (simp only [List.getElem?_toArray, List.getElem?_cons_succ, List.getElem?_cons_zero]; exact rfl)
              case hfd101 => kernel_rfl
              case hrd101 => kernel_rfl
              case hQd101 => exact fun _ _ _ h => h
              case hyd101 =>
                refine Or.inl ⟨by rfl, ?_⟩
                intro w
                go_simp
                (try with_reducible rfl)
              try simp only [Act.put, List.setIfInBounds_toArray, List.set_cons_zero, List.set_cons_succ]
              refine wpAny_take (i := 10) (oi := ?oid102) (v := ?vd102) ?hod102 (by kernel_rfl) ?hfd102 ?hrd102 ?hQd102 ?hyd102 ?restd102
              case hod102 => (simp only [List.getElem?_toArray, List.getElem?_cons_succ, List.getElem?_cons_zero]; exact rfl)
              case hfd102 => kernel_rfl
              case hrd102 => kernel_rfl
              case hQd102 => exact fun _ _ _ h => h
              case hyd102 =>
                refine Or.inl ⟨by rfl, ?_⟩
                intro w
                go_simp
                (try with_reducible rfl)
              try simp only [Act.put, List.setIfInBounds_toArray, List.set_cons_zero, List.set_cons_succ]
              refine wpAny_ready (rs := [11]) (by kernel_rfl) (by simp) ?_
              refine AllReady.cons (o := ?od103) ?hod103 (fun K hK => ?kd103) ?md103
              case hod103 => (simp only [List.getElem?_toArray, List.getElem?_cons_succ, List.getElem?_cons_zero]; exact rfl)
              case kd103 =>
                go_simp
                refine (works_any _ (htw _ (hXU _ (by exact hf0)))).mono ?_
                rintro e Vd103 ⟨rfl, hvd103⟩
                have hfd103 : Below X.heap.size X Vd103 := Below.trans (by exact hf0) (hvd103.mono (hf0).size)
                (try dsimp only)
                refine hK _ _ ?_
                clear hK K
                try simp only [Act.put, List.setIfInBounds_toArray, List.set_cons_zero, List.set_cons_succ]
                refine wpAny_take (i := 12) (oi := ?oid104) (v := ?vd104) ?hod104 (by kernel_rfl) ?hfd104 ?hrd104 ?hQd104 ?hyd104 ?restd104
                case hod104 => (simp only [List.getElem?_toArray, List.getElem?_cons_succ, List.getElem?_cons_zero]; exact rfl)
                case hfd104 => kernel_rfl
                case hrd104 => kernel_rfl
                case hQd104 => exact fun _ _ _ h => h
                case hyd104 =>
                  refine Or.inl ⟨by rfl, ?_⟩
                  intro w
                  go_simp
                  (try with_reducible rfl)
                try simp only [Act.put, List.setIfInBounds_toArray, List.set_cons_zero, List.set_cons_succ]
                refine wpAny_take (i := 13) (oi := ?oid105) (v := ?vd105) ?hod105 (by kernel_rfl) ?hfd105 ?hrd105 ?hQd105 ?hyd105 ?restd105
                case hod105 => (simp only [List.getElem?_toArray, List.getElem?_cons_succ, List.getElem?_cons_zero]; exact rfl)
                case hfd105 => kernel_rfl
                case hrd105 => kernel_rfl
                case hQd105 => exact fun _ _ _ h => h
                case hyd105 =>
                  refine Or.inl ⟨by rfl, ?_⟩
                  intro w
                  go_simp
                  (try with_reducible rfl)
                try simp only [Act.put, List.setIfInBounds_toArray, List.set_cons_zero, List.set_cons_succ]
                refine wpAny_done (by kernel_rfl) ?_ _
                repeat go_step
                go_ret
                exact ⟨rfl, HWU.out.trans (Below.mono (hXU _ (by exact hfd103)) hZ)⟩
              exact AllReady.nil
            · have hd64 : decide ((n0 : Int) ≤ 64) = false := by simp; omega
              refine wp_region_any (by kernel_rfl) ?_
              try (change wpAny _ _ _ _ _ _ _ (World.drew _))
              have hf0 : Below X.heap.size X X.drew := belowDrewN (Below.refl _ _) 1
              refine wpAny_take (i := 0) (oi := ?oid107) (v := ?vd107) ?hod107 (by kernel_rfl) ?hfd107 ?hrd107 ?hQd107 ?hyd107 ?restd107
              case hod107 => (simp only [List.getElem?_toArray, List.getElem?_cons_succ, List.getElem?_cons_zero]; exact rfl)
              case hfd107 => kernel_rfl
              case hrd107 => kernel_rfl
              case hQd107 => exact fun _ _ _ h => h
              case hyd107 =>
                refine Or.inl ⟨by rfl, ?_⟩
                intro w
                go_simp
                (try with_reducible rfl)
              try simp only [Act.put, List.setIfInBounds_toArray, List.set_cons_zero, List.set_cons_succ]
              refine wpAny_take (i := 1) (oi := ?oid108) (v := ?vd108) ?hod108 (by kernel_rfl) ?hfd108 ?hrd108 ?hQd108 ?hyd108 ?restd108
              case hod108 => (simp only [List.getElem?_toArray, List.getElem?_cons_succ, List.getElem?_cons_zero]; exact rfl)
              case hfd108 => kernel_rfl
              case hrd108 => kernel_rfl
              case hQd108 => exact fun _ _ _ h => h
              case hyd108 =>
                refine Or.inl ⟨by rfl, ?_⟩
                intro w
                go_simp
                (try with_reducible rfl)
              try simp only [Act.put, List.setIfInBounds_toArray, List.set_cons_zero, List.set_cons_succ]
              refine wpAny_take (i := 2) (oi := ?oid109) (v := ?vd109) ?hod109 (by kernel_rfl) ?hfd109 ?hrd109 ?hQd109 ?hyd109 ?restd109
              case hod109 => (simp only [List.getElem?_toArray, List.getElem?_cons_succ, List.getElem?_cons_zero]; exact rfl)
              case hfd109 => kernel_rfl
              case hrd109 => kernel_rfl
              case hQd109 => exact fun _ _ _ h => h
              case hyd109 =>
                refine Or.inl ⟨by rfl, ?_⟩
                intro w
                go_simp
                (try with_reducible rfl)
              try simp only [Act.put, List.setIfInBounds_toArray, List.set_cons_zero, List.set_cons_succ]
              refine wpAny_take (i := 3) (oi := ?oid110) (v := ?vd110) ?hod110 (by kernel_rfl) ?hfd110 ?hrd110 ?hQd110 ?hyd110 ?restd110
              case hod110 => (simp only [List.getElem?_toArray, List.getElem?_cons_succ, List.getElem?_cons_zero]; exact rfl)
              case hfd110 => kernel_rfl
              case hrd110 => kernel_rfl
              case hQd110 => exact fun _ _ _ h => h
              case hyd110 =>
                refine Or.inl ⟨by rfl, ?_⟩
                intro w
                go_simp
                (try with_reducible rfl)
              try simp only [Act.put, List.setIfInBounds_toArray, List.set_cons_zero, List.set_cons_succ]
              refine wpAny_take (i := 4) (oi := ?oid111) (v := ?vd111) ?hod111 (by kernel_rfl) ?hfd111 ?hrd111 ?hQd111 ?hyd111 ?restd111
              case hod111 => (simp only [List.getElem?_toArray, List.getElem?_cons_succ, List.getElem?_cons_zero]; exact rfl)
              case hfd111 => kernel_rfl
              case hrd111 => kernel_rfl
              case hQd111 => exact fun _ _ _ h => h
              case hyd111 =>
                refine Or.inl ⟨by rfl, ?_⟩
                intro w
                go_simp
                (try with_reducible rfl)
              try simp only [Act.put, List.setIfInBounds_toArray, List.set_cons_zero, List.set_cons_succ]
              refine wpAny_take (i := 5) (oi := ?oid112) (v := ?vd112) ?hod112 (by kernel_rfl) ?hfd112 ?hrd112 ?hQd112 ?hyd112 ?restd112
              case hod112 => (simp only [List.getElem?_toArray, List.getElem?_cons_succ, List.getElem?_cons_zero]; exact rfl)
              case hfd112 => kernel_rfl
              case hrd112 => kernel_rfl
              case hQd112 => exact fun _ _ _ h => h
              case hyd112 =>
                refine Or.inl ⟨by rfl, ?_⟩
                intro w
                go_simp
                (try with_reducible rfl)
              try simp only [Act.put, List.setIfInBounds_toArray, List.set_cons_zero, List.set_cons_succ]
              refine wpAny_ready (rs := [6, 7]) (by kernel_rfl) (by simp) ?_
              refine AllReady.cons (o := ?od113) ?hod113 (fun K hK => ?kd113) ?md113
              case hod113 => (simp only [List.getElem?_toArray, List.getElem?_cons_succ, List.getElem?_cons_zero]; exact rfl)
              case kd113 =>
                go_simp
                refine (hTag_any (some ⟨V2.heap.size, 0, none⟩) Ao 32 32 m co (shaL key) fl _ (hsr _ (by exact hf0)) (by omega) (how _ (hXU _ (by exact hf0))) hmo (by omega) (by omega) (htw _ (hXU _ (by exact hf0)))).mono ?_
                rintro e Vd113 ⟨rfl, hvd113⟩
                unfold tagH
                rw [hmacL_sum key fl (by have := HL0.out; omega), HTA.out]
                have hfd113 : Below X.heap.size X Vd113 := Below.trans (by exact hf0) (hvd113.mono (hf0).size)
                (try dsimp only)
                refine hK _ _ ?_
                clear hK K
                try simp only [Act.put, List.setIfInBounds_toArray, List.set_cons_zero, List.set_cons_succ]
                refine wpAny_ready (rs := [7]) (by kernel_rfl) (by simp) ?_
                refine AllReady.cons (o := ?od114) ?hod114 (fun K hK => ?kd114) ?md114
                case hod114 => (simp only [List.getElem?_toArray, List.getElem?_cons_succ, List.getElem?_cons_zero]; exact rfl)
                case kd114 =>
                  refine any_load_mid (by rfl) 28 (.tmp 10) rfl W5.heap.size 0 rfl (tA.map bv) _ (hrg _ (by exact hXU _ hfd113)) Tryd.underlying28 rfl HSZ.out ?_
                  refine hK _ _ ?_
                  clear hK K
                  try simp only [Act.put, List.setIfInBounds_toArray, List.set_cons_zero, List.set_cons_succ]
                  refine wpAny_take (i := 8) (oi := ?oid115) (v := ?vd115) ?hod115 (by kernel_rfl) ?hfd115 ?hrd115 ?hQd115 ?hyd115 ?restd115
                  case hod115 => (simp only [List.getElem?_toArray, List.getElem?_cons_succ, List.getElem?_cons_zero]; exact rfl)
                  case hfd115 => kernel_rfl
                  case hrd115 => kernel_rfl
                  case hQd115 => exact fun _ _ _ h => h
                  case hyd115 =>
                    refine Or.inl ⟨by rfl, ?_⟩
                    intro w
                    go_simp
                    (try with_reducible rfl)
                  try simp only [Act.put, List.setIfInBounds_toArray, List.set_cons_zero, List.set_cons_succ]
                  refine wpAny_take (i := 9) (oi := ?oid116) (v := ?vd116) ?hod116 (by kernel_rfl) ?hfd116 ?hrd116 ?hQd116 ?hyd116 ?restd116
                  case hod116 => (simp only [List.getElem?_toArray, List.getElem?_cons_succ, List.getElem?_cons_zero]; exact rfl)
                  case hfd116 => kernel_rfl
                  case hrd116 => kernel_rfl
                  case hQd116 => exact fun _ _ _ h => h
                  case hyd116 =>
                    refine Or.inl ⟨by rfl, ?_⟩
                    intro w
                    go_simp
                    (try with_reducible rfl)
                  try simp only [Act.put, List.setIfInBounds_toArray, List.set_cons_zero, List.set_cons_succ]
                  refine wpAny_take (i := 10) (oi := ?oid117) (v := ?vd117) ?hod117 (by kernel_rfl) ?hfd117 ?hrd117 ?hQd117 ?hyd117 ?restd117
                  case hod117 => (simp only [List.getElem?_toArray, List.getElem?_cons_succ, List.getElem?_cons_zero]; exact rfl)
                  case hfd117 => kernel_rfl
                  case hrd117 => kernel_rfl
                  case hQd117 => exact fun _ _ _ h => h
                  case hyd117 =>
                    refine Or.inl ⟨by rfl, ?_⟩
                    intro w
                    go_simp
                    (try with_reducible rfl)
                  try simp only [Act.put, List.setIfInBounds_toArray, List.set_cons_zero, List.set_cons_succ]
                  refine wpAny_ready (rs := [11]) (by kernel_rfl) (by simp) ?_
                  refine AllReady.cons (o := ?od118) ?hod118 (fun K hK => ?kd118) ?md118
                  case hod118 => (simp only [List.getElem?_toArray, List.getElem?_cons_succ, List.getElem?_cons_zero]; exact rfl)
                  case kd118 =>
                    go_simp
                    refine (works_any _ (htw _ (hXU _ (by exact hfd113)))).mono ?_
                    rintro e Vd118 ⟨rfl, hvd118⟩
                    have hfd118 : Below X.heap.size X Vd118 := Below.trans (by exact hfd113) (hvd118.mono (hfd113).size)
                    (try dsimp only)
                    refine hK _ _ ?_
                    clear hK K
                    try simp only [Act.put, List.setIfInBounds_toArray, List.set_cons_zero, List.set_cons_succ]
                    refine wpAny_take (i := 12) (oi := ?oid119) (v := ?vd119) ?hod119 (by kernel_rfl) ?hfd119 ?hrd119 ?hQd119 ?hyd119 ?restd119
                    case hod119 => (simp only [List.getElem?_toArray, List.getElem?_cons_succ, List.getElem?_cons_zero]; exact rfl)
                    case hfd119 => kernel_rfl
                    case hrd119 => kernel_rfl
                    case hQd119 => exact fun _ _ _ h => h
                    case hyd119 =>
                      refine Or.inl ⟨by rfl, ?_⟩
                      intro w
                      go_simp
                      (try with_reducible rfl)
                    try simp only [Act.put, List.setIfInBounds_toArray, List.set_cons_zero, List.set_cons_succ]
                    refine wpAny_take (i := 13) (oi := ?oid120) (v := ?vd120) ?hod120 (by kernel_rfl) ?hfd120 ?hrd120 ?hQd120 ?hyd120 ?restd120
                    case hod120 => (simp only [List.getElem?_toArray, List.getElem?_cons_succ, List.getElem?_cons_zero]; exact rfl)
                    case hfd120 => kernel_rfl
                    case hrd120 => kernel_rfl
                    case hQd120 => exact fun _ _ _ h => h
                    case hyd120 =>
                      refine Or.inl ⟨by rfl, ?_⟩
                      intro w
                      go_simp
                      (try with_reducible rfl)
                    try simp only [Act.put, List.setIfInBounds_toArray, List.set_cons_zero, List.set_cons_succ]
                    refine wpAny_done (by kernel_rfl) ?_ _
                    repeat go_step
                    go_ret
                    exact ⟨rfl, HWU.out.trans (Below.mono (hXU _ (by exact hfd118)) hZ)⟩
                  exact AllReady.nil
                exact AllReady.nil
              refine AllReady.cons (o := ?od121) ?hod121 (fun K hK => ?kd121) ?md121
              case hod121 => (simp only [List.getElem?_toArray, List.getElem?_cons_succ, List.getElem?_cons_zero]; exact rfl)
              case kd121 =>
                refine any_load_mid (by rfl) 28 (.tmp 10) rfl W5.heap.size 0 rfl (tA.map bv) _ (hrg _ (by exact hXU _ hf0)) Tryd.underlying28 rfl HSZ.out ?_
                refine hK _ _ ?_
                clear hK K
                try simp only [Act.put, List.setIfInBounds_toArray, List.set_cons_zero, List.set_cons_succ]
                refine wpAny_ready (rs := [6]) (by kernel_rfl) (by simp) ?_
                refine AllReady.cons (o := ?od122) ?hod122 (fun K hK => ?kd122) ?md122
                case hod122 => (simp only [List.getElem?_toArray, List.getElem?_cons_succ, List.getElem?_cons_zero]; exact rfl)
                case kd122 =>
                  go_simp
                  refine (hTag_any (some ⟨V2.heap.size, 0, none⟩) Ao 32 32 m co (shaL key) fl _ (hsr _ (by exact hf0)) (by omega) (how _ (hXU _ (by exact hf0))) hmo (by omega) (by omega) (htw _ (hXU _ (by exact hf0)))).mono ?_
                  rintro e Vd122 ⟨rfl, hvd122⟩
                  unfold tagH
                  rw [hmacL_sum key fl (by have := HL0.out; omega), HTA.out]
                  have hfd122 : Below X.heap.size X Vd122 := Below.trans (by exact hf0) (hvd122.mono (hf0).size)
                  (try dsimp only)
                  refine hK _ _ ?_
                  clear hK K
                  try simp only [Act.put, List.setIfInBounds_toArray, List.set_cons_zero, List.set_cons_succ]
                  refine wpAny_take (i := 8) (oi := ?oid123) (v := ?vd123) ?hod123 (by kernel_rfl) ?hfd123 ?hrd123 ?hQd123 ?hyd123 ?restd123
                  case hod123 => (simp only [List.getElem?_toArray, List.getElem?_cons_succ, List.getElem?_cons_zero]; exact rfl)
                  case hfd123 => kernel_rfl
                  case hrd123 => kernel_rfl
                  case hQd123 => exact fun _ _ _ h => h
                  case hyd123 =>
                    refine Or.inl ⟨by rfl, ?_⟩
                    intro w
                    go_simp
                    (try with_reducible rfl)
                  try simp only [Act.put, List.setIfInBounds_toArray, List.set_cons_zero, List.set_cons_succ]
                  refine wpAny_take (i := 9) (oi := ?oid124) (v := ?vd124) ?hod124 (by kernel_rfl) ?hfd124 ?hrd124 ?hQd124 ?hyd124 ?restd124
                  case hod124 => (simp only [List.getElem?_toArray, List.getElem?_cons_succ, List.getElem?_cons_zero]; exact rfl)
                  case hfd124 => kernel_rfl
                  case hrd124 => kernel_rfl
                  case hQd124 => exact fun _ _ _ h => h
                  case hyd124 =>
                    refine Or.inl ⟨by rfl, ?_⟩
                    intro w
                    go_simp
                    (try with_reducible rfl)
                  try simp only [Act.put, List.setIfInBounds_toArray, List.set_cons_zero, List.set_cons_succ]
                  refine wpAny_take (i := 10) (oi := ?oid125) (v := ?vd125) ?hod125 (by kernel_rfl) ?hfd125 ?hrd125 ?hQd125 ?hyd125 ?restd125
                  case hod125 => (simp only [List.getElem?_toArray, List.getElem?_cons_succ, List.getElem?_cons_zero]; exact rfl)
                  case hfd125 => kernel_rfl
                  case hrd125 => kernel_rfl
                  case hQd125 => exact fun _ _ _ h => h
                  case hyd125 =>
                    refine Or.inl ⟨by rfl, ?_⟩
                    intro w
                    go_simp
                    (try with_reducible rfl)
                  try simp only [Act.put, List.setIfInBounds_toArray, List.set_cons_zero, List.set_cons_succ]
                  refine wpAny_ready (rs := [11]) (by kernel_rfl) (by simp) ?_
                  refine AllReady.cons (o := ?od126) ?hod126 (fun K hK => ?kd126) ?md126
                  case hod126 => (simp only [List.getElem?_toArray, List.getElem?_cons_succ, List.getElem?_cons_zero]; exact rfl)
                  case kd126 =>
                    go_simp
                    refine (works_any _ (htw _ (hXU _ (by exact hfd122)))).mono ?_
                    rintro e Vd126 ⟨rfl, hvd126⟩
                    have hfd126 : Below X.heap.size X Vd126 := Below.trans (by exact hfd122) (hvd126.mono (hfd122).size)
                    (try dsimp only)
                    refine hK _ _ ?_
                    clear hK K
                    try simp only [Act.put, List.setIfInBounds_toArray, List.set_cons_zero, List.set_cons_succ]
                    refine wpAny_take (i := 12) (oi := ?oid127) (v := ?vd127) ?hod127 (by kernel_rfl) ?hfd127 ?hrd127 ?hQd127 ?hyd127 ?restd127
                    case hod127 => (simp only [List.getElem?_toArray, List.getElem?_cons_succ, List.getElem?_cons_zero]; exact rfl)
                    case hfd127 => kernel_rfl
                    case hrd127 => kernel_rfl
                    case hQd127 => exact fun _ _ _ h => h
                    case hyd127 =>
                      refine Or.inl ⟨by rfl, ?_⟩
                      intro w
                      go_simp
                      (try with_reducible rfl)
                    try simp only [Act.put, List.setIfInBounds_toArray, List.set_cons_zero, List.set_cons_succ]
                    refine wpAny_take (i := 13) (oi := ?oid128) (v := ?vd128) ?hod128 (by kernel_rfl) ?hfd128 ?hrd128 ?hQd128 ?hyd128 ?restd128
                    case hod128 => (simp only [List.getElem?_toArray, List.getElem?_cons_succ, List.getElem?_cons_zero]; exact rfl)
                    case hfd128 => kernel_rfl
                    case hrd128 => kernel_rfl
                    case hQd128 => exact fun _ _ _ h => h
                    case hyd128 =>
                      refine Or.inl ⟨by rfl, ?_⟩
                      intro w
                      go_simp
                      (try with_reducible rfl)
                    try simp only [Act.put, List.setIfInBounds_toArray, List.set_cons_zero, List.set_cons_succ]
                    refine wpAny_done (by kernel_rfl) ?_ _
                    repeat go_step
                    go_ret
                    exact ⟨rfl, HWU.out.trans (Below.mono (hXU _ (by exact hfd126)) hZ)⟩
                  exact AllReady.nil
                exact AllReady.nil
              exact AllReady.nil
end hmacLong
end Go.Proofs.YtgkfebbifgkkeaaDoor
