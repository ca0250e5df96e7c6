/- Layer 3 (hmac): the tag of a mac; is a tag right. -/
import Derived.Test.YtgkfebbifgkkeaaDoorHmC
import Derived.Test.YtgkfebbifgkkeaaDoorHmI
import Derived.BigQuiet
set_option linter.unusedVariables false
set_option linter.unusedSimpArgs false
namespace Go.Proofs.YtgkfebbifgkkeaaDoor
open Go Go.RowKit

theorem orU (b m : UInt8) : bits .or .u8 (un b) (un m) = un (b ||| m) := by
  unfold un
  rw [u8_or_nat _ _ (u8_lt b) (u8_lt m), UInt8.toNat_or]
theorem orX (u x y : UInt8) : u ||| (x ^^^ y) = 0 ↔ u = 0 ∧ x = y := by
  rw [UInt8.or_eq_zero_iff, UInt8.xor_eq_zero_iff]

set_option maxRecDepth 100000 in
set_option maxHeartbeats 1000000 in
theorem missing_any (g : Nat) (key : List UInt8) (w : World) (hm : Mac w g key) :
    Calls Tryd.prog 23 #[.pointer (some ⟨g, 0, none⟩)] w fun e w' => e = .returned .nilIface ∧ w = w' := by
  obtain ⟨i, o, hb, h1, h2⟩ := hm
  have c0 := hb.cell 0
  rw [show [Value.pointer (some ⟨i, 0, none⟩), Value.pointer (some ⟨o, 0, none⟩)][0]? = some (Value.pointer (some ⟨i, 0, none⟩)) from rfl] at c0
  clear hb h1 h2
  go_enter Tryd.func23, Tryd.ntmps23
  go_wp2
  go_ret
  exact ⟨rfl, rfl⟩

abbrev tagH (key msg : List UInt8) : Value := .agg ((hmacL key msg).map bv).toArray

set_option maxRecDepth 100000 in
set_option maxHeartbeats 1000000 in
theorem made_any (g : Nat) (key : List UInt8) (A : Option Addr) (n c : Nat) (R : List RowA) (sl : List (List UInt8)) (w : World) (hm : Mac w g key) (hr : Rws w w.heap.size A n R sl) (hbd : sl.flatten.length ≤ 1099511627776) (hnb : n ≤ 1099511627776) (ht : Tab w) :
    Calls Tryd.prog 24 #[.pointer (some ⟨g, 0, none⟩), .slice A n c] w fun e w' => e = .returned (tagH key sl.flatten) ∧ Below w.heap.size w w' := by
  have HR := Lib.hid hr
  have HT := Lib.hid ht
  have HFB := Lib.hid hbd
  have hlt := ht.lt
  have hlt0 := ht.lt0
  have HSL := Lib.hid hr.lenS
  have hk64 : (xorL 54 (keyB key)).length = 64 := by rw [xorL_len, keyB_len]
  have hk64' : (xorL 92 (keyB key)).length = 64 := by rw [xorL_len, keyB_len]
  have HL1 := Lib.hid hk64
  have HL2 := Lib.hid hk64'
  obtain ⟨i, o, hb, h1, h2⟩ := hm
  obtain ⟨W0, hW0, hz0, hbw0, hs0⟩ := zero27 w
  have hbW := hb.later hbw0
  have hgl := hb.lt
  have c0 := hbW.cell 0
  rw [show [Value.pointer (some ⟨i, 0, none⟩), Value.pointer (some ⟨o, 0, none⟩)][0]? = some (Value.pointer (some ⟨i, 0, none⟩)) from rfl] at c0
  have HH1 := Lib.hid h1
  have HH2 := Lib.hid h2
  have HBB := Lib.hid hb
  have c0' := hW0 ▸ c0
  have HW0 := Lib.hid hW0
  rw [show tagH key sl.flatten = tagV (xorL 92 (keyB key) ++ shaL (xorL 54 (keyB key) ++ sl.flatten)) from rfl]
  clear hr ht hW0 hb h1 h2 hbW c0 hk64 hk64' hbd
  generalize xorL 54 (keyB key) = x1 at *
  generalize xorL 92 (keyB key) = x2 at *
  go_enter Tryd.func24, Tryd.ntmps24
  go_wp2_with fail
  rw [← HW0.out]
  clear c0'
  refine (fork_any i x1 W0 (HH1.out.later hbw0)).mono ?_
  rintro e W1 ⟨rfl, hst1, hb1, hs1⟩
  have hz1 := hz0.later hb1
  have hbw1 : Below w.heap.size w W1 := hbw0.trans (hb1.mono hbw0.size)
  rw [hs0] at hst1 hs1 ⊢
  clear hz0 hbw0 hb1 HW0
  go_wp2_with fail
  go_loopw [17] (fun p wr => ∃ k : Nat, k ≤ n ∧ p = .int .i64 (k : Int) ∧ St wr (w.heap.size + 1) (x1 ++ (sl.take k).flatten) ∧ Bk wr w.heap.size 28 (zB 32) ∧ Below w.heap.size w wr)
    (fun p _ => n - (intOf p).toNat)
  case atStart => exact ⟨0, by omega, rfl, by simpa using hst1, hz1, hbw1⟩
  case round =>
    clear hst1 hz1 hbw1 hs1
    obtain ⟨k, hk, rfl, hst, hz, hbw⟩ := hrel
    by_cases hlt : k < n
    · have hci : (k : Int) < (n : Int) := by omega
      obtain ⟨b, q, Ai, ni, ci, l, hA, hb, hc, hl, hri, hnc⟩ := (HR.out.below hbw).at_ hlt
      subst hA
      have hfl := flat_step sl k l hl
      have hle := flat_le sl (k + 1)
      have hll : l.length = ni := by simpa using hri.len1
      have hbd2 : (x1 ++ (sl.take k).flatten).length + ni ≤ 1152921504606846976 := by
        have := HL1.out
        have := HFB.out
        rw [hfl, List.length_append] at hle
        rw [List.length_append]
        omega
      have HFL := Lib.hid hfl
      clear hl hle hll hfl
      go_wp2_with fail
      refine (write_any (w.heap.size + 1) _ Ai ni ci l _ hst (Rdg.ofRd hri (by omega) hbw.size) hnc hbd2 (HT.out.below hbw) (by omega) (by omega)).mono ?_
      rintro e W2 ⟨rfl, hst2, hgr⟩
      have hz2 : Bk W2 w.heap.size 28 (zB 32) := (hgr.block _ hz.lt (by simp)).trans hz
      have hbw2 := hbw.grown hgr hbw.size (fun k hk => by cases hk; omega)
      rw [List.append_assoc, ← HFL.out] at hst2
      clear hst hz hbw hgr hri hc
      go_wp2
      go_roundw
      case rel => exact ⟨k + 1, by omega, by go_num, hst2, hz2, hbw2⟩
      case measure => simp [intOf]; omega
    · obtain rfl : k = n := by omega
      clear hlt hk
      rw [List.take_of_length_le (by have := HSL.out; omega)] at hst
      have HS2 := Lib.hid hbw.size
      have HFF := Lib.hid (show (x1 ++ sl.flatten).length ≤ 1125899906842624 from by have := HL1.out; have := HFB.out; rw [List.length_append]; omega)
      generalize hms : x1 ++ sl.flatten = ms at *
      go_wp2_with fail
      refine (sumM_any (w.heap.size + 1) _ _ hst HFF.out (HT.out.below hbw)).mono ?_
      rintro e W3 ⟨rfl, hb3⟩
      have hz3 := hz.later hb3
      have hbw3 := hbw.trans (hb3.mono HS2.out)
      clear hst hz hbw hb3
      obtain ⟨W4, hW4, ht4, hz4, hbw4, hs4⟩ : ∃ W4, W4 = W3.alloc (.cells ((shaL ms).map bv).toArray 28) ∧ Bk W4 W3.heap.size 28 ((shaL ms).map bv) ∧ Bk W4 w.heap.size 28 (zB 32) ∧ Below w.heap.size w W4 ∧ W4.heap.size = W3.heap.size + 1 :=
        ⟨_, rfl, Bk.new W3 _ _, hz3.alloc _, hbw3.alloc hbw3.size _, by simp⟩
      have HW4 := Lib.hid hW4
      have hB4 : Bk W4 g 50 _ := HBB.out.later hbw4
      have c1 := hB4.cell 1
      rw [show [Value.pointer (some ⟨i, 0, none⟩), Value.pointer (some ⟨o, 0, none⟩)][1]? = some (Value.pointer (some ⟨o, 0, none⟩)) from rfl] at c1
      have HS3 := Lib.hid hbw3.size
      have HS4 := Lib.hid hs4
      clear hW4 hz3 hbw3 hB4 hs4
      go_wp2_with (refine wpList_store_new rfl 28 _ _ rfl W3 _ _ rfl rfl (tagSize _) rfl (tagOne _) ?_; rw [← HW4.out])
      refine (fork_any o x2 W4 (HH2.out.later hbw4)).mono ?_
      rintro e W5 ⟨rfl, hst5, hb5, hs5⟩
      have ht5 := ht4.later hb5
      have hz5 := hz4.later hb5
      have hbw5 := hbw4.trans (hb5.mono hbw4.size)
      have hrg : Rdg W5 W4.heap.size (some ⟨W3.heap.size, 0, none⟩) 32 (shaL ms) := ht5.rdg (by have := HS4.out; omega) (shaL_len _)
      have HS5 := Lib.hid hbw4.size
      clear ht4 hz4 hbw4 hb5 ht5 c1 hs5
      go_wp2_with fail
      refine (write_any W4.heap.size x2 _ 32 32 (shaL ms) W5 hst5 hrg (by omega) (by have := HL2.out; omega) (HT.out.below hbw5) (by have := HS5.out; omega) (by have := HS5.out; omega)).mono ?_
      rintro e W6 ⟨rfl, hst6, hg6⟩
      have hz6 : Bk W6 w.heap.size 28 (zB 32) := (hg6.block _ hz5.lt (by have := HS4.out; have := HS3.out; simp; omega)).trans hz5
      have hbw6 := hbw5.grown hg6 hbw5.size (fun k hk => by cases hk; exact HS5.out)
      have HL6 := Lib.hid (show (x2 ++ shaL ms).length ≤ 1125899906842624 from by have := HL2.out; rw [List.length_append, shaL_len]; omega)
      clear hst5 hrg hz5 hbw5 hg6
      go_wp2_with fail
      refine (sumM_any W4.heap.size _ _ hst6 HL6.out (HT.out.below hbw6)).mono ?_
      rintro e W7 ⟨rfl, hb7⟩
      have hz7 := hz6.later hb7
      have hbw7 := hbw6.trans (hb7.mono hbw6.size)
      have hsz2 := tagSize (x2 ++ shaL ms)
      clear hst6 hz6 hbw6 hb7
      unfold tagV
      go_wp2_with (refine wpList_store_row (P := Tryd.prog) rfl 28 _ _ rfl w.heap.size _ rfl rfl _ _ hz7 hsz2 (by simp [zB, shaL_len]) (by simp [bv, Value.oneCell']) ?_)
      refine bodyPost_ret (v := .agg ((shaL (x2 ++ shaL ms)).map bv).toArray) (results_cell_row rfl _ _ w.heap.size _ _ _ _ rfl (setRow_heap W7 w.heap.size _ _ _ _ hz7) Tryd.underlying28 rfl hsz2) rfl ⟨by rw [hms], below_setRow hbw7 (Nat.le_refl _) _⟩

theorem zero32v (w : World) : (zeroValue 28).run Tryd.prog w = .ok (.agg (zB 32).toArray) w := by kernel_rfl
theorem tagSizeH (key msg : List UInt8) : (Tryd.prog.info? 28).map (·.size) = some ((hmacL key msg).map bv).toArray.size := tagSize _
theorem eq_take (xs ys : List UInt8) (i : Nat) (x y : UInt8) (h1 : xs[i]? = some x) (h2 : ys[i]? = some y) : xs.take (i + 1) = ys.take (i + 1) ↔ xs.take i = ys.take i ∧ x = y := by
  rw [List.take_add_one, List.take_add_one, h1, h2]
  constructor
  · intro h
    have := List.append_inj' h (by simp)
    simpa using this
  · rintro ⟨h, rfl⟩
    rw [h]

set_option maxRecDepth 100000 in
set_option maxHeartbeats 1000000 in
theorem same_any (xs ys : List UInt8) (w : World) (hx : xs.length = 32) (hy : ys.length = 32) :
    Calls Tryd.prog 17 #[.agg (xs.map bv).toArray, .agg (ys.map bv).toArray] w fun e w' => e = .returned (.bool (xs == ys)) ∧ Below w.heap.size w w' := by
  have HX := Lib.hid hx
  have HY := Lib.hid hy
  obtain ⟨cx, hcx⟩ : ∃ cs, cs = xs.map bv := ⟨_, rfl⟩
  obtain ⟨cy, hcy⟩ : ∃ cs, cs = ys.map bv := ⟨_, rfl⟩
  rw [← hcx, ← hcy]
  have HCX := Lib.hid hcx
  have HCY := Lib.hid hcy
  have hb1 : Bk ((w.alloc (.cells cx.toArray 28)).alloc (.cells cy.toArray 28)) w.heap.size 28 cx := (Bk.new w _ cx).alloc _
  have hb2 : Bk ((w.alloc (.cells cx.toArray 28)).alloc (.cells cy.toArray 28)) (w.heap.size + 1) 28 cy := Bk.newAt _ cy (by simp)
  have hbw := ((Below.refl w.heap.size w).alloc (Nat.le_refl _) (.cells cx.toArray 28)).alloc (by simp) (.cells cy.toArray 28)
  clear hcx hcy hx hy
  go_enter Tryd.func17, Tryd.ntmps17
  go_wp2
  generalize (w.alloc (.cells cx.toArray 28)).alloc (.cells cy.toArray 28) = W0 at *
  go_loopw [5, 7] (fun q p wr => ∃ (i : Nat) (u : UInt8), i ≤ 32 ∧ p = .int .i64 (i : Int) ∧ q = .int .u8 (un u) ∧ (u = 0 ↔ xs.take i = ys.take i) ∧ Below W0.heap.size W0 wr)
    (fun _ p _ => 32 - (intOf p).toNat)
  case atStart => exact ⟨0, 0, by omega, rfl, rfl, by simp, Below.refl _ _⟩
  case round =>
    obtain ⟨i, u, hi, rfl, rfl, hu, hbr⟩ := hrel
    have HU := Lib.hid hu
    clear hu
    by_cases hlt : i < 32
    · have hci : (i : Int) < 32 := by omega
      have gx : xs[i]? = some (xs[i]'(by have := HX.out; omega)) := List.getElem?_eq_getElem _
      have gy : ys[i]? = some (ys[i]'(by have := HY.out; omega)) := List.getElem?_eq_getElem _
      generalize xs[i]'(by have := HX.out; omega) = x at gx
      generalize ys[i]'(by have := HY.out; omega) = y at gy
      have HST := Lib.hid (eq_take xs ys i x y gx gy)
      have cx1 : ∀ q : Nat, (wr.drewN q).cell? ⟨w.heap.size, i, none⟩ = some (.int .u8 (un x)) := fun q => by
        rw [((hb1.later hbr).below (belowDrewN (Below.refl _ _) q) (hb1.later hbr).lt).cell i, HCX.out, List.getElem?_map, gx]
        rfl
      have cy1 : ∀ q : Nat, (wr.drewN q).cell? ⟨w.heap.size + 1, i, none⟩ = some (.int .u8 (un y)) := fun q => by
        rw [((hb2.later hbr).below (belowDrewN (Below.refl _ _) q) (hb2.later hbr).lt).cell i, HCY.out, List.getElem?_map, gy]
        rfl
      have xx := xorU x y
      have oo := orU u (x ^^^ y)
      have HB := Lib.hid hbr
      clear gx gy hbr
      go_wp2
      go_quiet (fail)
      go_wp2
      go_roundw
      case rel => exact ⟨i + 1, u ||| (x ^^^ y), by omega, by go_num, rfl, by rw [orX, HST.out, HU.out], belowDrewN HB.out nq⟩
      case measure => simp [intOf]; omega
    · obtain rfl : i = 32 := by omega
      have he : (xs == ys) = decide (u = 0) := by
        have h := HU.out
        rw [List.take_of_length_le (by have := HX.out; omega), List.take_of_length_le (by have := HY.out; omega)] at h
        by_cases hxy : xs = ys
        · simp [hxy, h.2 hxy]
        · have : ¬ u = 0 := fun hh => hxy (h.1 hh)
          simp [hxy, this]
      have hz : ((un u) == 0) = decide (u = 0) := by
        by_cases h0 : u = 0
        · subst h0; rfl
        · have : ¬ un u = 0 := fun hh => h0 (by
            unfold un at hh
            apply UInt8.toNat_inj.1
            show u.toNat = 0
            omega)
          simp [h0, this]
      have HE := Lib.hid he
      have hfin : Below w.heap.size w wr := hbw.trans (hbr.mono hbw.size)
      clear he hbr
      go_wp2
      go_ret
      refine ⟨?_, hfin⟩
      rw [HE.out]
      rfl
end Go.Proofs.YtgkfebbifgkkeaaDoor
