/- Texts, packed: LxB LxC Fp LxD SyA -/
import Derived.Test.YtoigpbajefkpoaaGreatDoorPyA
set_option linter.unusedVariables false
set_option linter.unusedSimpArgs false
namespace Go.Proofs.YtoigpbajefkpoaaGreatDoor
open Go Go.RowKit

theorem u8n {x : UInt8} {n : Nat} (hn : n < 256) : x.toNat = n ↔ x = UInt8.ofNat n := by
 constructor
 ·
  intro h
  apply UInt8.toNat_inj.1
  rw [h, UInt8.toNat_ofNat_of_lt' (by show n < 256; exact hn)]
 ·
  rintro rfl
  exact UInt8.toNat_ofNat_of_lt' (by show n < 256; exact hn)
theorem ieq {x n : Nat} (h : x = n) : ((x : Int) == (n : Int)) = true := by rw [h]; simp
theorem ine {x n : Nat} (h : x ≠ n) : ((x : Int) == (n : Int)) = false := by rw [beq_eq_false_iff_ne]; omega
theorem bne1 {x n : Nat} (h : x = n) : ((x : Int) != (n : Int)) = false := by rw [h]; simp
theorem bne2 {x n : Nat} (h : x ≠ n) : ((x : Int) != (n : Int)) = true := by rw [bne_iff_ne]; omega

set_option maxRecDepth 100000 in
set_option maxHeartbeats 4000000 in
theorem rBlanks_any (s : ByteArray) (a : Nat) (w : World) (hs : s.size ≤ 1099511627776) (ha : a ≤ s.size) :
  Calls Tryz.prog 53 #[sv s, .int .i64 (a : Int)] w fun e w' => e = .returned (.int .i64 (blN false ((tb s).drop a) : Int)) ∧ w = w' := by
 go_enter Tryz.func53, Tryz.ntmps53
 repeat (first | go_skip | go_guarded | go_step)
 go_loop [5] (fun q => ∃ k : Nat, a ≤ k ∧ k ≤ s.size ∧ q = .int .i64 (k : Int) ∧ blN false ((tb s).drop a) = (k - a) + blN false ((tb s).drop k)) (fun q => s.size - (intOf q).toNat)
 case atStart => exact ⟨a, by omega, ha, rfl, by omega⟩
 case round =>
  obtain ⟨k, h1, h2, rfl, hl⟩ := hrel
  have HL := Lib.hid hl
  clear hl
  by_cases hlt : k < s.size
  ·
   have hci : (k : Int) < (s.size : Int) := by omega
   obtain ⟨x, hx⟩ : ∃ x, s[k]'hlt = x := ⟨_, rfl⟩
   have ht := tb_at hlt
   rw [hx] at ht
   have HT := Lib.hid ht
   clear ht
   rcases (by omega : x.toNat = 37 ∨ x.toNat = 32 ∨ x.toNat = 9 ∨ x.toNat = 10 ∨ x.toNat = 13 ∨ (x.toNat ≠ 37 ∧ x.toNat ≠ 32 ∧ x.toNat ≠ 9 ∧ x.toNat ≠ 10 ∧ x.toNat ≠ 13)) with hc | hc | hc | hc | hc | hc
   ·
    have d37 : ((x.toNat : Int) == 37) = true := ieq (n := 37) hc
    have HX := Lib.hid ((u8n (n := 37) (by omega)).1 hc)
    have HST := Lib.hid (show blN true ((tb s).drop k) = blN false ((tb s).drop k) by
     rw [HT.out, blN, blN, if_neg (by rw [HX.out]; decide), if_pos (by rw [HX.out]; rfl)])
    clear hc
    repeat (first | go_skip | go_guarded | go_step)
    go_loop [5] (fun q => ∃ j : Nat, k ≤ j ∧ j ≤ s.size ∧ q = .int .i64 (j : Int) ∧ blN false ((tb s).drop a) = (j - a) + blN true ((tb s).drop j)) (fun q => s.size - (intOf q).toNat)
    case atStart => exact ⟨k, by omega, h2, rfl, by rw [HST.out, HL.out]⟩
    case round =>
     obtain ⟨j, g1, g2, rfl, gl⟩ := hrel
     have GL := Lib.hid gl
     clear gl
     by_cases glt : j < s.size
     ·
      have gci : (j : Int) < (s.size : Int) := by omega
      obtain ⟨y, hy⟩ : ∃ y, s[j]'glt = y := ⟨_, rfl⟩
      have gt := tb_at glt
      rw [hy] at gt
      have GT := Lib.hid gt
      clear gt
      by_cases g10 : y.toNat = 10
      ·
       have HY := Lib.hid ((u8n (n := 10) (by omega)).1 g10)
       have hjk : j ≠ k := by
        rintro rfl
        have : y = x := by rw [← hy, ← hx]
        rw [HY.out, HX.out] at this
        exact absurd this (by decide)
       have d10 : ((y.toNat : Int) != 10) = false := bne1 (n := 10) g10
       have HE := Lib.hid (show blN true ((tb s).drop j) = blN false ((tb s).drop j) by
        rw [GT.out, blN, blN, if_pos (by rw [HY.out]; rfl), if_neg (by rw [HY.out]; decide), HY.out]
        simp [isBl])
       clear g10
       repeat (first | go_skip | go_guarded | go_step)
       go_round
       case rel => exact ⟨j, by omega, by omega, rfl, by rw [GL.out, HE.out]⟩
       case measure => simp [intOf] <;> omega
      ·
       have d10 : ((y.toNat : Int) != 10) = true := bne2 (n := 10) g10
       have HE := Lib.hid (show blN true ((tb s).drop j) = 1 + blN true ((tb s).drop (j + 1)) by
        rw [GT.out, blN, if_neg (fun h : y = 10 => g10 ((u8n (n := 10) (by omega)).2 h))])
       clear g10
       repeat (first | go_skip | go_guarded | go_step)
       go_round
       case rel => exact ⟨j + 1, by omega, by omega, by go_num, by rw [GL.out, HE.out]; omega⟩
       case measure => simp [intOf] <;> omega
     ·
      obtain rfl : j = s.size := by omega
      have HE := Lib.hid (show blN false ((tb s).drop a) = (s.size - a) + blN false ((tb s).drop s.size) by
       rw [GL.out, List.drop_of_length_le (by rw [tb_len]; omega)]
       simp [blN])
      repeat (first | go_skip | go_guarded | go_step)
      go_round
      case rel => exact ⟨s.size, by omega, by omega, rfl, HE.out⟩
      case measure => simp [intOf] <;> omega
   ·
    have HX := Lib.hid ((u8n (n := 32) (by omega)).1 hc)
    have d37 : ((x.toNat : Int) == 37) = false := ine (n := 37) (by omega)
    have d32 : ((x.toNat : Int) != 32) = false := bne1 (n := 32) (by omega)
    have d9 : ((x.toNat : Int) != 9) = true := bne2 (n := 9) (by omega)
    have d10 : ((x.toNat : Int) != 10) = true := bne2 (n := 10) (by omega)
    have d13 : ((x.toNat : Int) != 13) = true := bne2 (n := 13) (by omega)
    have HB := Lib.hid (show blN false ((tb s).drop k) = 1 + blN false ((tb s).drop (k + 1)) by
     rw [HT.out, blN, if_neg (by rw [HX.out]; decide), HX.out]
     simp [isBl])
    clear hc
    repeat (first | go_skip | go_guarded | go_step)
    go_round
    case rel => exact ⟨k + 1, by omega, by omega, by go_num, by rw [HL.out, HB.out]; omega⟩
    case measure => simp [intOf] <;> omega
   ·
    have HX := Lib.hid ((u8n (n := 9) (by omega)).1 hc)
    have d37 : ((x.toNat : Int) == 37) = false := ine (n := 37) (by omega)
    have d32 : ((x.toNat : Int) != 32) = true := bne2 (n := 32) (by omega)
    have d9 : ((x.toNat : Int) != 9) = false := bne1 (n := 9) (by omega)
    have d10 : ((x.toNat : Int) != 10) = true := bne2 (n := 10) (by omega)
    have d13 : ((x.toNat : Int) != 13) = true := bne2 (n := 13) (by omega)
    have HB := Lib.hid (show blN false ((tb s).drop k) = 1 + blN false ((tb s).drop (k + 1)) by
     rw [HT.out, blN, if_neg (by rw [HX.out]; decide), HX.out]
     simp [isBl])
    clear hc
    repeat (first | go_skip | go_guarded | go_step)
    go_round
    case rel => exact ⟨k + 1, by omega, by omega, by go_num, by rw [HL.out, HB.out]; omega⟩
    case measure => simp [intOf] <;> omega
   ·
    have HX := Lib.hid ((u8n (n := 10) (by omega)).1 hc)
    have d37 : ((x.toNat : Int) == 37) = false := ine (n := 37) (by omega)
    have d32 : ((x.toNat : Int) != 32) = true := bne2 (n := 32) (by omega)
    have d9 : ((x.toNat : Int) != 9) = true := bne2 (n := 9) (by omega)
    have d10 : ((x.toNat : Int) != 10) = false := bne1 (n := 10) (by omega)
    have d13 : ((x.toNat : Int) != 13) = true := bne2 (n := 13) (by omega)
    have HB := Lib.hid (show blN false ((tb s).drop k) = 1 + blN false ((tb s).drop (k + 1)) by
     rw [HT.out, blN, if_neg (by rw [HX.out]; decide), HX.out]
     simp [isBl])
    clear hc
    repeat (first | go_skip | go_guarded | go_step)
    go_round
    case rel => exact ⟨k + 1, by omega, by omega, by go_num, by rw [HL.out, HB.out]; omega⟩
    case measure => simp [intOf] <;> omega
   ·
    have HX := Lib.hid ((u8n (n := 13) (by omega)).1 hc)
    have d37 : ((x.toNat : Int) == 37) = false := ine (n := 37) (by omega)
    have d32 : ((x.toNat : Int) != 32) = true := bne2 (n := 32) (by omega)
    have d9 : ((x.toNat : Int) != 9) = true := bne2 (n := 9) (by omega)
    have d10 : ((x.toNat : Int) != 10) = true := bne2 (n := 10) (by omega)
    have d13 : ((x.toNat : Int) != 13) = false := bne1 (n := 13) (by omega)
    have HB := Lib.hid (show blN false ((tb s).drop k) = 1 + blN false ((tb s).drop (k + 1)) by
     rw [HT.out, blN, if_neg (by rw [HX.out]; decide), HX.out]
     simp [isBl])
    clear hc
    repeat (first | go_skip | go_guarded | go_step)
    go_round
    case rel => exact ⟨k + 1, by omega, by omega, by go_num, by rw [HL.out, HB.out]; omega⟩
    case measure => simp [intOf] <;> omega
   ·
    have d37 : ((x.toNat : Int) == 37) = false := ine (n := 37) (by omega)
    have d32 : ((x.toNat : Int) != 32) = true := bne2 (n := 32) (by omega)
    have d9 : ((x.toNat : Int) != 9) = true := bne2 (n := 9) (by omega)
    have d10 : ((x.toNat : Int) != 10) = true := bne2 (n := 10) (by omega)
    have d13 : ((x.toNat : Int) != 13) = true := bne2 (n := 13) (by omega)
    have HB := Lib.hid (show blN false ((tb s).drop k) = 0 by
     rw [HT.out, blN, if_neg (fun h : x = 37 => hc.1 ((u8n (n := 37) (by omega)).2 h))]
     have : isBl x = false := by
      unfold isBl
      simp only [Bool.or_eq_false_iff, beq_eq_false_iff_ne]
      exact ⟨⟨⟨fun h : x = 32 => hc.2.1 ((u8n (n := 32) (by omega)).2 h), fun h : x = 9 => hc.2.2.1 ((u8n (n := 9) (by omega)).2 h)⟩, fun h : x = 10 => hc.2.2.2.1 ((u8n (n := 10) (by omega)).2 h)⟩, fun h : x = 13 => hc.2.2.2.2 ((u8n (n := 13) (by omega)).2 h)⟩
     rw [this]; rfl)
    clear hc
    repeat (first | go_skip | go_guarded | go_step)
    go_ret
    exact ⟨by rw [HL.out, HB.out]; simp; omega, rfl⟩
  ·
   obtain rfl : k = s.size := by omega
   have HZ := Lib.hid (show blN false ((tb s).drop a) = s.size - a by rw [HL.out, List.drop_of_length_le (by rw [tb_len]; omega)]; simp [blN])
   repeat (first | go_skip | go_guarded | go_step)
   go_ret
   exact ⟨by rw [HZ.out]; simp; omega, rfl⟩

set_option maxRecDepth 100000 in
set_option maxHeartbeats 4000000 in
theorem rMark_any (s : ByteArray) (a : Nat) (w : World) (hs : s.size ≤ 1099511627776) (ha : a < s.size) :
  Calls Tryz.prog 54 #[sv s, .int .i64 (a : Int)] w fun e w' => e = .returned (.tuple #[.int .u8 ((markN ((tb s).drop a)).1 : Int), .int .i64 ((markN ((tb s).drop a)).2 : Int)]) ∧ ∃ q, w' = w.drewN q := by
 obtain ⟨x, hx⟩ : ∃ x, s[a]'ha = x := ⟨_, rfl⟩
 have ht := tb_at ha
 rw [hx] at ht
 have HT := Lib.hid ht
 clear ht
 have hci : (a : Int) < (s.size : Int) := by omega
 have m0 : ((⟨#[40, 41, 44, 46]⟩ : ByteArray)[0]'(by decide)).toNat = 40 := by decide
 have m1 : ((⟨#[40, 41, 44, 46]⟩ : ByteArray)[1]'(by decide)).toNat = 41 := by decide
 have m2 : ((⟨#[40, 41, 44, 46]⟩ : ByteArray)[2]'(by decide)).toNat = 44 := by decide
 have m3 : ((⟨#[40, 41, 44, 46]⟩ : ByteArray)[3]'(by decide)).toNat = 46 := by decide
 go_enter Tryz.func54, Tryz.ntmps54
 repeat (first | go_skip | go_guarded | go_step)
 go_loopw [7] (fun q wr => ∃ i : Nat, i ≤ 4 ∧ q = .int .i64 (i : Int) ∧ (1 ≤ i → x.toNat ≠ 40) ∧ (2 ≤ i → x.toNat ≠ 41) ∧ (3 ≤ i → x.toNat ≠ 44) ∧ (4 ≤ i → x.toNat ≠ 46) ∧ ∃ m, wr = w.drewN m) (fun q _ => 4 - (intOf q).toNat)
 case atStart => exact ⟨0, by omega, rfl, by omega, by omega, by omega, by omega, 0, rfl⟩
 case round =>
  obtain ⟨i, hi, rfl, h1, h2, h3, h4, m, rfl⟩ := hrel
  rcases (show i = 0 ∨ i = 1 ∨ i = 2 ∨ i = 3 ∨ i = 4 by omega) with rfl | rfl | rfl | rfl | rfl
  ·
   clear h1 h2 h3 h4
   by_cases hc : x.toNat = 40
   ·
    have hd : ((x.toNat : Int) == 40) = true := ieq (n := 40) hc
    have HM := Lib.hid (show markN ((tb s).drop a) = (5, 1) by
     rw [HT.out]
     unfold markN
     dsimp only
     rw [if_pos (show x = 40 from (u8n (n := 40) (by omega)).1 hc)])
    clear hc
    repeat (first | go_skip | go_guarded | go_step)
    go_quiet (fail)
    repeat (first | go_skip | go_guarded | go_step)
    go_ret2
    exact ⟨by rw [HM.out]; rfl, _, rfl⟩
   ·
    have hd : ((x.toNat : Int) == 40) = false := ine (n := 40) hc
    have HC := Lib.hid hc
    clear hc
    repeat (first | go_skip | go_guarded | go_step)
    go_quiet (fail)
    repeat (first | go_skip | go_guarded | go_step)
    go_roundw
    case rel => exact ⟨1, by omega, by rfl, fun _ => HC.out, by omega, by omega, by omega, _, rfl⟩
    case measure => simp [intOf]
  ·
   have p0 : x.toNat ≠ 40 := h1 (by omega)
   clear h1 h2 h3 h4
   by_cases hc : x.toNat = 41
   ·
    have hd : ((x.toNat : Int) == 41) = true := ieq (n := 41) hc
    have HM := Lib.hid (show markN ((tb s).drop a) = (6, 1) by
     rw [HT.out]
     unfold markN
     dsimp only
     rw [if_neg (fun h : x = 40 => p0 ((u8n (n := 40) (by omega)).2 h))]
     rw [if_pos (show x = 41 from (u8n (n := 41) (by omega)).1 hc)])
    clear hc p0
    repeat (first | go_skip | go_guarded | go_step)
    go_quiet (fail)
    repeat (first | go_skip | go_guarded | go_step)
    go_ret2
    exact ⟨by rw [HM.out]; rfl, _, rfl⟩
   ·
    have hd : ((x.toNat : Int) == 41) = false := ine (n := 41) hc
    have HC := Lib.hid hc
    have P0 := Lib.hid p0
    clear hc p0
    repeat (first | go_skip | go_guarded | go_step)
    go_quiet (fail)
    repeat (first | go_skip | go_guarded | go_step)
    go_roundw
    case rel => exact ⟨2, by omega, by rfl, fun _ => P0.out, fun _ => HC.out, by omega, by omega, _, rfl⟩
    case measure => simp [intOf]
  ·
   have p0 : x.toNat ≠ 40 := h1 (by omega)
   have p1 : x.toNat ≠ 41 := h2 (by omega)
   clear h1 h2 h3 h4
   by_cases hc : x.toNat = 44
   ·
    have hd : ((x.toNat : Int) == 44) = true := ieq (n := 44) hc
    have HM := Lib.hid (show markN ((tb s).drop a) = (7, 1) by
     rw [HT.out]
     unfold markN
     dsimp only
     rw [if_neg (fun h : x = 40 => p0 ((u8n (n := 40) (by omega)).2 h))]
     rw [if_neg (fun h : x = 41 => p1 ((u8n (n := 41) (by omega)).2 h))]
     rw [if_pos (show x = 44 from (u8n (n := 44) (by omega)).1 hc)])
    clear hc p0 p1
    repeat (first | go_skip | go_guarded | go_step)
    go_quiet (fail)
    repeat (first | go_skip | go_guarded | go_step)
    go_ret2
    exact ⟨by rw [HM.out]; rfl, _, rfl⟩
   ·
    have hd : ((x.toNat : Int) == 44) = false := ine (n := 44) hc
    have HC := Lib.hid hc
    have P0 := Lib.hid p0
    have P1 := Lib.hid p1
    clear hc p0 p1
    repeat (first | go_skip | go_guarded | go_step)
    go_quiet (fail)
    repeat (first | go_skip | go_guarded | go_step)
    go_roundw
    case rel => exact ⟨3, by omega, by rfl, fun _ => P0.out, fun _ => P1.out, fun _ => HC.out, by omega, _, rfl⟩
    case measure => simp [intOf]
  ·
   have p0 : x.toNat ≠ 40 := h1 (by omega)
   have p1 : x.toNat ≠ 41 := h2 (by omega)
   have p2 : x.toNat ≠ 44 := h3 (by omega)
   clear h1 h2 h3 h4
   by_cases hc : x.toNat = 46
   ·
    have hd : ((x.toNat : Int) == 46) = true := ieq (n := 46) hc
    have HM := Lib.hid (show markN ((tb s).drop a) = (8, 1) by
     rw [HT.out]
     unfold markN
     dsimp only
     rw [if_neg (fun h : x = 40 => p0 ((u8n (n := 40) (by omega)).2 h))]
     rw [if_neg (fun h : x = 41 => p1 ((u8n (n := 41) (by omega)).2 h))]
     rw [if_neg (fun h : x = 44 => p2 ((u8n (n := 44) (by omega)).2 h))]
     rw [if_pos (show x = 46 from (u8n (n := 46) (by omega)).1 hc)])
    clear hc p0 p1 p2
    repeat (first | go_skip | go_guarded | go_step)
    go_quiet (fail)
    repeat (first | go_skip | go_guarded | go_step)
    go_ret2
    exact ⟨by rw [HM.out]; rfl, _, rfl⟩
   ·
    have hd : ((x.toNat : Int) == 46) = false := ine (n := 46) hc
    have HC := Lib.hid hc
    have P0 := Lib.hid p0
    have P1 := Lib.hid p1
    have P2 := Lib.hid p2
    clear hc p0 p1 p2
    repeat (first | go_skip | go_guarded | go_step)
    go_quiet (fail)
    repeat (first | go_skip | go_guarded | go_step)
    go_roundw
    case rel => exact ⟨4, by omega, by rfl, fun _ => P0.out, fun _ => P1.out, fun _ => P2.out, fun _ => HC.out, _, rfl⟩
    case measure => simp [intOf]
  ·
   have p0 : x.toNat ≠ 40 := h1 (by omega)
   have p1 : x.toNat ≠ 41 := h2 (by omega)
   have p2 : x.toNat ≠ 44 := h3 (by omega)
   have p3 : x.toNat ≠ 46 := h4 (by omega)
   have HM := Lib.hid (show markN ((tb s).drop a) = if x = 58 ∧ ((tb s).drop (a + 1)).head? = some 45 then (9, 2) else (0, 0) by
    rw [HT.out]
    unfold markN
    dsimp only
    rw [if_neg (fun h : x = 40 => p0 ((u8n (n := 40) (by omega)).2 h)), if_neg (fun h : x = 41 => p1 ((u8n (n := 41) (by omega)).2 h)), if_neg (fun h : x = 44 => p2 ((u8n (n := 44) (by omega)).2 h)), if_neg (fun h : x = 46 => p3 ((u8n (n := 46) (by omega)).2 h))])
   clear h1 h2 h3 h4 p0 p1 p2 p3
   by_cases hlt : a + 1 < s.size
   ·
    have hl2 : (a : Int) + 1 < (s.size : Int) := by omega
    have hsl : ∀ w, _ := fun w => run_part s a (a + 2) (a : Int) ((a : Int) + 2) rfl (by omega) (by omega) (by omega) w
    obtain ⟨y, hy⟩ : ∃ y, s[a + 1]'hlt = y := ⟨_, rfl⟩
    have ht2 := tb_at hlt
    rw [hy] at ht2
    have hex : (tb (s.extract a (a + 2))) = [x, y] := by
     rw [tb_extract, HT.out, ht2, show a + 2 - a = 2 by omega]
     rfl
    have he : (s.extract a (a + 2)).toList = [x, y] := by rw [ByteArray.toList_eq]; exact hex
    have HT2 := Lib.hid ht2
    clear hex ht2
    by_cases h58 : x = 58 ∧ y = 45
    ·
     have hd : ((s.extract a (a + 2)).toList == [58, 45]) = true := by rw [he, h58.1, h58.2]; rfl
     have HM2 := Lib.hid (show markN ((tb s).drop a) = (9, 2) by
      rw [HM.out, HT2.out, if_pos ⟨h58.1, by rw [h58.2]; rfl⟩])
     clear he h58
     repeat (first | go_skip | go_guarded | go_step)
     go_ret2
     exact ⟨by rw [HM2.out]; rfl, _, rfl⟩
    ·
     have hd : ((s.extract a (a + 2)).toList == [58, 45]) = false := by
      rw [he, beq_eq_false_iff_ne]
      intro e
      simp only [List.cons.injEq, and_true] at e
      exact h58 e
     have HM2 := Lib.hid (show markN ((tb s).drop a) = (0, 0) by
      rw [HM.out, HT2.out, if_neg (fun h => h58 ⟨h.1, Option.some.inj h.2⟩)])
     clear he h58
     repeat (first | go_skip | go_guarded | go_step)
     go_ret2
     exact ⟨by rw [HM2.out]; rfl, _, rfl⟩
   ·
    have hl2 : ¬ ((a : Int) + 1 < (s.size : Int)) := by omega
    have HM2 := Lib.hid (show markN ((tb s).drop a) = (0, 0) by
     rw [HM.out, List.drop_of_length_le (by rw [tb_len]; omega)]
     simp)
    repeat (first | go_skip | go_guarded | go_step)
    go_ret2
    exact ⟨by rw [HM2.out]; rfl, _, rfl⟩
end Go.Proofs.YtoigpbajefkpoaaGreatDoor

set_option linter.unusedVariables false
set_option linter.unusedSimpArgs false
namespace Go.Proofs.YtoigpbajefkpoaaGreatDoor
open Go Go.RowKit

/-- A text of its bytes. -/
theorem sv_tb (s : ByteArray) : sv s = strV (tb s) := by
 cases s
 simp [tb]
theorem sv_part (s : ByteArray) (a n : Nat) : sv (s.extract a (a + n)) = strV (((tb s).drop a).take n) := by
 rw [sv_tb, tb_extract, show a + n - a = n by omega]
/-- A word as it lies in memory. -/
def wdC (x : Wd) : List Value := [.int .u8 (x.1 : Int), strV x.2.1, .int .i64 (x.2.2 : Int)]
theorem wdC_one (l : List Wd) : ∀ u ∈ l.flatMap wdC, u.oneCell' = true := by
 intro u hu
 obtain ⟨x, _, hx⟩ := List.mem_flatMap.1 hu
 simp only [wdC, List.mem_cons, List.not_mem_nil, or_false] at hx
 rcases hx with rfl | rfl | rfl <;> rfl
theorem wdCs_len (l : List Wd) : (l.flatMap wdC).length = l.length * 3 := by
 induction l with
 | nil => rfl
 | cons x l ih => rw [List.flatMap_cons, List.length_append, ih, List.length_cons]; simp [wdC]; omega
theorem wdCs_at {l : List Wd} {i : Nat} {x : Wd} (h : l[i]? = some x) : (l.flatMap wdC)[i * 3]? = some (.int .u8 (x.1 : Int)) ∧ (l.flatMap wdC)[i * 3 + 1]? = some (strV x.2.1) ∧ (l.flatMap wdC)[i * 3 + 2]? = some (.int .i64 (x.2.2 : Int)) := by
 induction l generalizing i with
 | nil => simp at h
 | cons y l ih =>
  rw [List.flatMap_cons]
  cases i with
  | zero =>
   simp only [List.getElem?_cons_zero, Option.some.injEq] at h
   subst h
   exact ⟨rfl, rfl, rfl⟩
  | succ i =>
   rw [List.getElem?_cons_succ] at h
   have := ih h
   refine ⟨?_, ?_, ?_⟩
   ·
    rw [List.getElem?_append_right (by simp [wdC]; omega), show (i + 1) * 3 - (wdC y).length = i * 3 by simp [wdC]; omega]; exact this.1
   ·
    rw [List.getElem?_append_right (by simp [wdC]; omega), show (i + 1) * 3 + 1 - (wdC y).length = i * 3 + 1 by simp [wdC]; omega]; exact this.2.1
   ·
    rw [List.getElem?_append_right (by simp [wdC]; omega), show (i + 1) * 3 + 2 - (wdC y).length = i * 3 + 2 by simp [wdC]; omega]; exact this.2.2
/-- A row of words that is read; one of the call's own. -/
abbrev RdV (w : World) (B : Nat) (A : Option Addr) (n : Nat) (l : List Wd) : Prop := Rd w B 3 A n (l.flatMap wdC)
abbrev OwV (e : TypeId) (w : World) (base : Nat) (A : Option Addr) (c n : Nat) (l : List Wd) : Prop := w.ownsRow base e 3 (.slice A n c) n (l.flatMap wdC)
theorem rdV_len {w : World} {B n : Nat} {A : Option Addr} {l : List Wd} (h : RdV w B A n l) : l.length = n := by
 have := h.1
 rw [wdCs_len] at this
 omega
theorem OwV.rd {e : TypeId} {w : World} {base c n : Nat} {A : Option Addr} {l : List Wd} (h : OwV e w base A c n l) : RdV w w.heap.size A n l := Rd.ofOwn h
theorem OwV.cap {e : TypeId} {w : World} {base c n : Nat} {A : Option Addr} {l : List Wd} (h : OwV e w base A c n l) : n ≤ c := by
 obtain ⟨A1, c1, hv, hl⟩ := ownForm h
 cases hv
 exact hl
theorem rdV_at {w : World} {B n : Nat} {A : Option Addr} {l : List Wd} (h : RdV w B A n l) {i : Nat} (hi : i < n) :
  ∃ b o x, A = some ⟨b, o, none⟩ ∧ b < B ∧ l[i]? = some x ∧ w.cell? ⟨b, o + i * 3, none⟩ = some (.int .u8 (x.1 : Int)) ∧ w.cell? ⟨b, o + i * 3 + 1, none⟩ = some (strV x.2.1) ∧ w.cell? ⟨b, o + i * 3 + 2, none⟩ = some (.int .i64 (x.2.2 : Int)) := by
 obtain ⟨b, o, e, hb, hc⟩ := h.2 (by omega)
 have hl := rdV_len h
 have ht : l[i]? = some (l[i]'(by omega)) := List.getElem?_eq_getElem _
 have h2 := wdCs_at ht
 exact ⟨b, o, _, e, hb, ht, hc _ _ h2.1, hc _ _ h2.2.1, hc _ _ h2.2.2⟩
theorem rWdInfo : (Tryz.prog.info? 127).map (fun i => (i.zero, i.size, i.bytes)) = some (some (.agg #[.int .u8 0, .string ⟨#[]⟩, .int .i64 0]), 3, 32) := by kernel_rfl
/-- 'out = append(out, word)', over the document's words. -/
theorem appRV {ops : Array Oper} {rest : List Oper} {o : Oper} {a : Act} {Q : Exit → Act → World → Prop} (w : World) (hgd : o.guard = none) (p x : Operand)
  (ho : o.op = .call { callee := .builtin .append, args := #[p, x], argTypes := #[78, 78] })
  (base : Nat) (A0 : Option Addr) (c0 n : Nat) (l : List Wd) (hv : a.eval p = .slice A0 n c0) (hown : OwV 127 w base A0 c0 n l)
  (B : Nat) (A : Option Addr) (m c : Nat) (news : List Wd) (hx : a.eval x = .slice A m c) (hr : RdV w B A m news) (hb : n + m ≤ 1000000000) (hbase : base ≤ w.heap.size)
  (h : ∀ A' c' w', OwV 127 w' base A' c' (n + m) (l ++ news) → Below base w w' → wpList Tryz.prog ops Q rest (a.put o.dst (.slice A' (n + m) c')) w') : wpList Tryz.prog ops Q (o :: rest) a w := by
 obtain ⟨i0, hi, hz0, hz1, hz2⟩ := info_parts rWdInfo
 refine wpList_app w hgd p x 78 ho base 127 i0 _ 3 32 Tryz.underlying78 hi hz0 hz1 hz2 rfl (by decide) _ n _ hv hown B A m c _ hx hr (wdC_one news) (by simp only [maxLen]; omega) (by omega) hbase ?_
 intro A' c' w' e1 e2 e3
 exact h A' c' w' (by show World.ownsRow _ _ _ _ _ _ _; rw [List.flatMap_append]; exact e1) (belowApp (Below.refl _ _) hown e2 hbase)
theorem run_litRV (k : Nat) (t : List UInt8) (p : Nat) (w : World) : (Instr.buildSlice 78 1 #[(0, .agg #[.int .u8 (k : Int), strV t, .int .i64 (p : Int)])]).run Tryz.prog w = .ok (.slice (some ⟨w.heap.size, 0, none⟩) 1 1) (w.alloc (.cells #[.int .u8 (k : Int), strV t, .int .i64 (p : Int)] 127)) := by
 obtain ⟨i0, hi, hz0, hz1, hz2⟩ := info_parts rWdInfo
 simp [Instr.buildSlice, run_underlying Tryz.underlying78, sizeOf, typeInfo, zeroValue, hi, hz0, hz1, newRow, Instr.fill]
 kernel_rfl
theorem bk_rdV {w : World} {g : Nat} {t : TypeId} {x : Wd} (hb : Bk w g t (wdC x)) : RdV w (g + 1) (some ⟨g, 0, none⟩) 1 [x] :=
 ⟨rfl, fun _ => ⟨g, 0, rfl, by omega, fun j u hu => by rw [Nat.zero_add, hb.cell]; simpa using hu⟩⟩

set_option maxRecDepth 100000 in
set_option maxHeartbeats 4000000 in
theorem rKind_any (s : ByteArray) (w : World) (hs : 1 ≤ s.size) :
  Calls Tryz.prog 56 #[sv s] w fun e w' => e = .returned (.int .u8 (kindL (tb s) : Int)) ∧ w = w' := by
 have hlen := tb_len s
 by_cases hn : tb s = [110, 111, 116]
 ·
  have hd : (s.toList == [110, 111, 116]) = true := by rw [ByteArray.toList_eq]; rw [show s.data.toList = [110, 111, 116] from hn]; rfl
  have HK := Lib.hid (show kindL (tb s) = 3 by unfold kindL; rw [if_pos hn])
  clear hn
  go_enter Tryz.func56, Tryz.ntmps56
  repeat (first | go_skip | go_guarded | go_step)
  go_ret
  exact ⟨by rw [HK.out]; rfl, rfl⟩
 ·
  have hd : (s.toList == [110, 111, 116]) = false := by rw [ByteArray.toList_eq]; exact beq_false_of_ne hn
  by_cases hn2 : tb s = [115, 97, 121, 115]
  ·
   have hd2 : (s.toList == [115, 97, 121, 115]) = true := by rw [ByteArray.toList_eq]; rw [show s.data.toList = [115, 97, 121, 115] from hn2]; rfl
   have HK := Lib.hid (show kindL (tb s) = 4 by unfold kindL; rw [if_neg hn, if_pos hn2])
   clear hn hn2
   go_enter Tryz.func56, Tryz.ntmps56
   repeat (first | go_skip | go_guarded | go_step)
   go_ret
   exact ⟨by rw [HK.out]; rfl, rfl⟩
  ·
   have hd2 : (s.toList == [115, 97, 121, 115]) = false := by rw [ByteArray.toList_eq]; exact beq_false_of_ne hn2
   have h0 : 0 < s.size := by omega
   obtain ⟨x, hx⟩ : ∃ x, s[0]'h0 = x := ⟨_, rfl⟩
   have ht := tb_at h0
   rw [hx, List.drop_zero] at ht
   have hk : kindL (tb s) = if 65 ≤ x.toNat ∧ x.toNat ≤ 90 then 2 else 1 := by
    unfold kindL
    rw [if_neg hn, if_neg hn2, ht]
    rfl
   have HK := Lib.hid hk
   have hci : (0 : Int) < (s.size : Int) := by omega
   clear hn hn2 ht hk hlen
   by_cases h1 : 65 ≤ x.toNat
   ·
    have d1 : decide ((65 : Int) ≤ (x.toNat : Int)) = true := by simp; omega
    by_cases h2 : x.toNat ≤ 90
    ·
     have d2 : decide ((x.toNat : Int) ≤ 90) = true := by simp; omega
     have HK2 := Lib.hid (show kindL (tb s) = 2 by rw [HK.out, if_pos ⟨h1, h2⟩])
     clear h1 h2
     go_enter Tryz.func56, Tryz.ntmps56
     repeat (first | go_skip | go_guarded | go_step)
     go_ret
     exact ⟨by rw [HK2.out]; rfl, rfl⟩
    ·
     have d2 : decide ((x.toNat : Int) ≤ 90) = false := by simp; omega
     have HK2 := Lib.hid (show kindL (tb s) = 1 by rw [HK.out, if_neg (by omega)])
     clear h1 h2
     go_enter Tryz.func56, Tryz.ntmps56
     repeat (first | go_skip | go_guarded | go_step)
     go_ret
     exact ⟨by rw [HK2.out]; rfl, rfl⟩
   ·
    have d1 : decide ((65 : Int) ≤ (x.toNat : Int)) = false := by simp; omega
    have HK2 := Lib.hid (show kindL (tb s) = 1 by rw [HK.out, if_neg (by omega)])
    clear h1
    go_enter Tryz.func56, Tryz.ntmps56
    repeat (first | go_skip | go_guarded | go_step)
    go_ret
    exact ⟨by rw [HK2.out]; rfl, rfl⟩
end Go.Proofs.YtoigpbajefkpoaaGreatDoor

set_option linter.unusedVariables false
namespace Go.Proofs.YtoigpbajefkpoaaGreatDoor
open Go Go.RowKit

/-- From w to w' only blocks of which G is so have turned, and new ones have come. -/
structure Turn (G : Nat → Prop) (w w' : World) : Prop where
 os : w'.os = w.os
 tape : w'.tape = w.tape
 output : w'.output = w.output
 size : w.heap.size ≤ w'.heap.size
 block : ∀ k, k < w.heap.size → ¬ G k → w'.heap[k]? = w.heap[k]?

theorem belowDrews {B : Nat} {a w : World} (h : Below B a w) (n : Nat) : Below B a (w.drewN n) := ⟨h.os, h.tape, h.output, h.size, h.block⟩
section
variable {G G' : Nat → Prop} {w w' a b c : World}
theorem Turn.refl (G : Nat → Prop) (w : World) : Turn G w w := ⟨rfl, rfl, rfl, Nat.le_refl _, fun _ _ _ => rfl⟩
theorem Turn.then_ (h : Turn G a b) (k : Turn G' b c) (hs : ∀ k, k < a.heap.size → G' k → G k) : Turn G a c :=
 ⟨k.os.trans h.os, k.tape.trans h.tape, k.output.trans h.output, Nat.le_trans h.size k.size, fun i hi hn => (k.block i (Nat.lt_of_lt_of_le hi h.size) fun hg => hn (hs i hi hg)).trans (h.block i hi hn)⟩
theorem Turn.trans (h : Turn G a b) (k : Turn G b c) : Turn G a c := h.then_ k fun _ _ h => h
theorem Turn.mono (h : Turn G w w') (hs : ∀ k, k < w.heap.size → G k → G' k) : Turn G' w w' :=
 ⟨h.os, h.tape, h.output, h.size, fun k hk hn => h.block k hk fun hg => hn (hs k hk hg)⟩
theorem Turn.ofBelow (h : Below w.heap.size w w') : Turn G w w' := ⟨h.os, h.tape, h.output, h.size, fun k hk _ => h.block k hk⟩
theorem Turn.ofBelowB {B : Nat} (h : Below B w w') (hs : ∀ k, B ≤ k → k < w.heap.size → G k) : Turn G w w' :=
 ⟨h.os, h.tape, h.output, h.size, fun k hk hn => h.block k (by
  rcases Nat.lt_or_ge k B with hb | hb
  ·
   exact hb
  ·
   exact absurd (hs k hb hk) hn)⟩
theorem Turn.below {B : Nat} (h : Turn G w w') (hB : ∀ k, k < w.heap.size → G k → B ≤ k) (hle : B ≤ w.heap.size) : Below B w w' :=
 ⟨h.os, h.tape, h.output, h.size, fun k hk => h.block k (by omega) fun hg => by have := hB k (by omega) hg; omega⟩
theorem Turn.ofGrown {row : Option Nat} (h : w.grownBy w' row) (hs : ∀ k, row = some k → G k) : Turn G w w' :=
 ⟨h.os, h.tape, h.output, h.size, fun k hk hn => h.block k hk fun e => hn (hs k e.symm)⟩
theorem Turn.alloc (h : Turn G w w') (o : Obj) : Turn G w (w'.alloc o) :=
 h.then_ (Turn.ofBelow (G := G) ((Below.refl _ _).alloc (Nat.le_refl _) o)) fun _ _ h => h
theorem Turn.setCell (h : Turn G w w') {p : Addr} (hg : p.block < w.heap.size → G p.block) (v : Value) : Turn G w (w'.setCell p v) :=
 ⟨h.os, h.tape, h.output, by simpa using h.size, fun k hk hn => (Below.heap_setCell w' p v k (fun e => hn (by subst e; exact hg hk))).trans (h.block k hk hn)⟩
theorem Turn.drew (h : Turn G w w') : Turn G w w'.drew := ⟨h.os, h.tape, h.output, h.size, h.block⟩
theorem Turn.cell (h : Turn G w w') {p : Addr} (hlt : p.block < w.heap.size) (hn : ¬ G p.block) : w'.cell? p = w.cell? p := World.cell?_of_block (h.block _ hlt hn)
theorem Turn.bk (h : Turn G w w') {g : Nat} {t : TypeId} {cs : List Value} (hb : Bk w g t cs) (hn : ¬ G g) : Bk w' g t cs := (h.block g hb.lt hn).trans hb
theorem Turn.rd (h : Turn G w w') {B s n : Nat} {A : Option Addr} {xs : List Value} (hr : Rd w B s A n xs) (hB : B ≤ w.heap.size) (hn : ∀ k, k < B → ¬ G k) : Rd w' B s A n xs :=
 hr.keep fun p hp => h.cell (by omega) (hn _ hp)
theorem Turn.own (h : Turn G w w') {base s n : Nat} {e : TypeId} {v : Value} {xs : List Value} (ho : w.ownsRow base e s v n xs) (hn : ∀ k, v.ownBlock = some k → ¬ G k) : w'.ownsRow base e s v n xs := by
 refine ⟨ho.1, ?_⟩
 rcases ho.2 with h0 | ⟨g, cap, cur, rfl, hbg, hg, hr⟩
 ·
  exact .inl h0
 ·
  refine .inr ⟨g, cap, cur, rfl, hbg, ?_, hr⟩
  rw [h.block g (Array.getElem?_eq_some_iff.1 hg).1 (hn g rfl)]
  exact hg
end
end Go.Proofs.YtoigpbajefkpoaaGreatDoor

set_option linter.unusedVariables false
set_option linter.unusedSimpArgs false
namespace Go.Proofs.YtoigpbajefkpoaaGreatDoor
open Go Go.RowKit

theorem blN_after (l : List UInt8) : blN false (l.drop (blN false l)) = 0 := by
  by_cases h : l.drop (blN false l) = []
  · rw [h]; rfl
  · exact blN_next false l h
theorem lexG_skip (a : Nat) (l : List UInt8) : lexG a l = lexG (a + blN false l) (l.drop (blN false l)) := by
  have h0 := blN_after l
  have hd : (l.drop (blN false l)).drop (blN false (l.drop (blN false l))) = l.drop (blN false l) := by rw [h0, List.drop_zero]
  by_cases h : l.drop (blN false l) = []
  · rw [lexG_end h, lexG_end (hd.trans h)]
  · obtain ⟨k, n, hw⟩ : ∃ k n, wordN (l.drop (blN false l)) = (k, n) := ⟨_, _, rfl⟩
    by_cases hn : n = 0
    · subst hn
      rw [lexG_bad rfl h (by rw [hw]), lexG_bad hd h (by rw [hw]), h0, Nat.add_zero]
    · rw [lexG_word rfl hw hn, lexG_word hd hw hn, h0, Nat.add_zero]
theorem wordsL_ok {l : List UInt8} {ws : List Wd} (h : l.length ≤ 65536) (hl : lexG 0 l = (ws, none)) : wordsL l = (ws, 0, 0) := by
  unfold wordsL
  rw [if_neg (by omega), hl]
theorem wordsL_bad {l : List UInt8} {ws : List Wd} {k : Nat} (h : l.length ≤ 65536) (hl : lexG 0 l = (ws, some k)) : wordsL l = ([], k, 5) := by
  unfold wordsL
  rw [if_neg (by omega), hl]
theorem wordN_mark {l : List UInt8} {k n : Nat} (h : markN l = (k, n)) (hn : n ≠ 0) : wordN l = (k, n) := by
  unfold wordN
  rw [h, if_pos hn]
theorem wordN_let {l : List UInt8} {k : Nat} (h : markN l = (k, 0)) : wordN l = if letN l = 0 ∨ 32 < letN l then (0, 0) else (kindL (l.take (letN l)), letN l) := by
  unfold wordN
  rw [h, if_neg (by simp)]

set_option maxRecDepth 100000 in
set_option maxHeartbeats 8000000 in
theorem rWords_any (s : ByteArray) (w : World) (hs : s.size ≤ 1099511627776) :
    Calls Tryz.prog 32 #[sv s] w fun e w' => ∃ (A : Option Addr) (m c : Nat) (ws : List Wd) (y z : Nat), e = .returned (.tuple #[.slice A m c, .int .i64 (y : Int), .int .i64 (z : Int)]) ∧ OwV 127 w' w.heap.size A c m ws ∧ Below w.heap.size w w' ∧ (ws, y, z) = wordsL (tb s) := by
  have hlen := tb_len s
  by_cases hbig : 65536 < s.size
  · have hd : decide ((65536 : Int) < (s.size : Int)) = true := by simp; omega
    have HA := Lib.hid (show wordsL (tb s) = ([], 0, 6) by unfold wordsL; rw [if_pos (by omega)])
    clear hlen
    go_enter Tryz.func32, Tryz.ntmps32
    repeat (first | go_skip | go_guarded | go_step)
    go_ret3
    exact ⟨none, 0, 0, [], 0, 6, rfl, World.ownsRow_nil _ _ _ _, Below.refl _ _, HA.out.symm⟩
  · have hd : decide ((65536 : Int) < (s.size : Int)) = false := by simp; omega
    have HA := Lib.hid (show (tb s).length ≤ 65536 by omega)
    have HLS := Lib.hid (lexG_skip 0 (tb s))
    have H00 := Lib.hid (blN_after (tb s))
    have HBL := Lib.hid (blN_le false (tb s))
    clear hlen
    go_enter Tryz.func32, Tryz.ntmps32
    repeat (first | go_skip | go_guarded | go_step)
    have hc := rBlanks_any s 0 w (by omega) (by omega)
    rw [List.drop_zero] at hc
    refine hc.mono ?_
    clear hc
    rintro e w1 ⟨rfl, rfl⟩
    obtain ⟨b0, hb0⟩ : ∃ b, b = blN false (tb s) := ⟨_, rfl⟩
    rw [← hb0] at HLS H00 HBL ⊢
    have hb00 : b0 ≤ s.size := by have := HBL.out; rw [tb_len] at this; exact this
    clear hb0
    dsimp only
    repeat (first | go_skip | go_guarded | go_step)
    go_loopw [5, 6] (fun o' p' wr => ∃ (a : Nat) (A : Option Addr) (c m : Nat) (ws : List Wd), a ≤ s.size ∧ p' = .int .i64 (a : Int) ∧ o' = .slice A m c ∧ OwV 127 wr w.heap.size A c m ws ∧ Below w.heap.size w wr ∧ m ≤ a ∧ blN false ((tb s).drop a) = 0 ∧ lexG 0 (tb s) = (ws ++ (lexG a ((tb s).drop a)).1, (lexG a ((tb s).drop a)).2)) (fun _ p _ => s.size - (intOf p).toNat)
    case atStart => exact ⟨b0, none, 0, 0, [], hb00, rfl, rfl, World.ownsRow_nil _ _ _ _, Below.refl _ _, Nat.zero_le _, H00.out, by rw [HLS.out, Nat.zero_add]; rfl⟩
    case round =>
      obtain ⟨a, A, c, m, ws, ha, rfl, rfl, ho, hbw, hma, hz, hlx⟩ := hrel
      have hmw : ws.length = m := rdV_len (OwV.rd ho)
      have HO := Lib.hid ho
      have HB := Lib.hid hbw
      have HZ := Lib.hid hz
      have HLX := Lib.hid hlx
      clear ho hbw hz hlx
      by_cases hlt : a < s.size
      · have hci : (a : Int) < (s.size : Int) := by omega
        have hne : (tb s).drop a ≠ [] := by rw [tb_at hlt]; simp
        have HNE := Lib.hid hne
        have hmb : m ≤ 70000 := by omega
        clear hne
        repeat (first | go_skip | go_guarded | go_step)
        refine (rMark_any s a wr (by omega) hlt).mono ?_
        rintro e wv ⟨rfl, q, rfl⟩
        obtain ⟨k, n, hkn⟩ : ∃ k n, markN ((tb s).drop a) = (k, n) := ⟨_, _, rfl⟩
        rw [hkn]
        have HKN := Lib.hid hkn
        have HOV := Lib.hid (ownBelow HO.out (belowDrews (Below.refl wr.heap.size wr) q) (Nat.le_refl _))
        have HBV := Lib.hid (belowDrews HB.out q)
        clear hkn HO HB
        generalize wr.drewN q = wv at HOV HBV ⊢
        dsimp only
        by_cases hn0 : n = 0
        · subst hn0
          repeat (first | go_skip | go_guarded | go_step)
          refine (rLetters_any s a wv (by omega) (by omega)).mono ?_
          rintro e wv2 ⟨rfl, rfl⟩
          obtain ⟨n, hn⟩ : ∃ n, n = letN ((tb s).drop a) := ⟨_, rfl⟩
          have hle := letN_le ((tb s).drop a)
          rw [List.length_drop, tb_len] at hle
          have HWL := Lib.hid (wordN_let HKN.out)
          rw [← hn] at hle HWL ⊢
          clear hn
          dsimp only
          by_cases hz0 : n = 0
          · subst hz0
            have HAN := Lib.hid (show lexG 0 (tb s) = (ws, some a) by
              rw [HLX.out, lexG_bad (l1 := (tb s).drop a) (by rw [HZ.out, List.drop_zero]) HNE.out (by rw [HWL.out]; rfl), HZ.out]
              simp)
            repeat (first | go_skip | go_guarded | go_step)
            go_ret3
            exact ⟨none, 0, 0, [], a, 5, rfl, World.ownsRow_nil _ _ _ _, HBV.out, (wordsL_bad HA.out HAN.out).symm⟩
          · have dz : ((n : Int) == 0) = false := by rw [beq_eq_false_iff_ne]; omega
            by_cases h32 : 32 < n
            · have d32 : decide ((32 : Int) < (n : Int)) = true := by simp; omega
              have HAN := Lib.hid (show lexG 0 (tb s) = (ws, some a) by
                rw [HLX.out, lexG_bad (l1 := (tb s).drop a) (by rw [HZ.out, List.drop_zero]) HNE.out (by rw [HWL.out, if_pos (Or.inr h32)]), HZ.out]
                simp)
              repeat (first | go_skip | go_guarded | go_step)
              go_ret3
              exact ⟨none, 0, 0, [], a, 5, rfl, World.ownsRow_nil _ _ _ _, HBV.out, (wordsL_bad HA.out HAN.out).symm⟩
            · have d32 : decide ((32 : Int) < (n : Int)) = false := by simp; omega
              obtain ⟨kk, hkk⟩ : ∃ kk, kk = kindL (((tb s).drop a).take n) := ⟨_, rfl⟩
              have HW := Lib.hid (show wordN ((tb s).drop a) = (kk, n) by rw [HWL.out, if_neg (by omega), hkk])
              have hsl0 := run_part s a (a + n) (a : Int) ((a : Int) + (n : Int)) rfl (by omega) (by omega) (by omega) wv
              have hkc := rKind_any (s.extract a (a + n)) wv (by simp; omega)
              rw [tb_extract, show a + n - a = n by omega, ← hkk] at hkc
              have HKC := Lib.hid hkc
              have hn0 := hz0
              clear hkk hkc
              repeat (first | go_skip | go_guarded | go_step)
              refine HKC.out.mono ?_
              rintro e wv3 ⟨rfl, rfl⟩
              clear hsl0
              dsimp only
              have hwl := wordN_le ((tb s).drop a)
              rw [HW.out, List.length_drop, tb_len] at hwl
              dsimp only at hwl
              obtain ⟨t, ht⟩ : ∃ t, t = ((tb s).drop a).take n := ⟨_, rfl⟩
              have hsp : sv (s.extract a (a + n)) = strV t := by rw [ht]; exact sv_part s a n
              have hsl := run_part s a (a + n) (a : Int) ((a : Int) + (n : Int)) rfl (by omega) (by omega) (by omega) wv
              rw [hsp] at hsl
              have HTX := Lib.hid ht
              have hl7 := run_litRV kk t a wv
              have hrd : RdV (wv.alloc (.cells #[.int .u8 (kk : Int), strV t, .int .i64 (a : Int)] 127)) (wv.heap.size + 1) (some ⟨wv.heap.size, 0, none⟩) 1 [(kk, t, a)] := bk_rdV (Bk.new wv _ (wdC (kk, t, a)))
              have HRD := Lib.hid hrd
              have HOA := Lib.hid (World.ownsRow.alloc HOV.out (.cells #[.int .u8 (kk : Int), strV t, .int .i64 (a : Int)] 127))
              have hsz : w.heap.size ≤ wv.heap.size := HBV.out.size
              have HSP := Lib.hid hsp
              have hnn : (0 : Int) < (n : Int) := by omega
              clear ht hrd hsp
              repeat (first
                | (at_builtin; refine appRV _ rfl (.tmp 43) (.tmp 53) rfl w.heap.size A c m ws rfl HOA.out _ _ 1 1 [(kk, t, a)] rfl HRD.out (by omega) (by simp; omega) ?_
                   intro A6 c6 V6 ho6 hb6
                   have HO6 := Lib.hid ho6
                   have HB6 := Lib.hid (HBV.out.trans (((Below.refl w.heap.size wv).alloc hsz (.cells #[.int .u8 (kk : Int), strV t, .int .i64 (a : Int)] 127)).trans hb6))
                   clear hl7 hsl ho6 hb6)
                | go_skip | go_guarded | go_step)
              have hc := rBlanks_any s (a + n) V6 (by omega) (by omega)
              rw [show ((a + n : Nat) : Int) = (a : Int) + (n : Int) by omega] at hc
              refine hc.mono ?_
              clear hc
              rintro e w7 ⟨rfl, rfl⟩
              have hb7 := blN_le false ((tb s).drop (a + n))
              rw [List.length_drop, tb_len] at hb7
              have HL7 := Lib.hid (lexG_skip (a + n) ((tb s).drop (a + n)))
              have H07 := Lib.hid (blN_after ((tb s).drop (a + n)))
              obtain ⟨b, hb⟩ : ∃ b, b = blN false ((tb s).drop (a + n)) := ⟨_, rfl⟩
              rw [← hb] at hb7 HL7 H07 ⊢
              rw [List.drop_drop] at HL7 H07
              have HW2 := Lib.hid (lexG_word (a := a) (l := (tb s).drop a) (by rw [HZ.out, List.drop_zero]) HW.out hn0)
              clear hb
              dsimp only
              repeat (first | go_skip | go_guarded | go_step)
              go_roundw
              case rel => exact ⟨a + n + b, A6, c6, m + 1, ws ++ [(kk, t, a)], by omega, by go_num, rfl, HO6.out, HB6.out, by omega, H07.out, by rw [HLX.out, HW2.out, HZ.out, Nat.add_zero, List.drop_drop, HL7.out, ← HTX.out]; simp [List.append_assoc]⟩
              case measure => simp [intOf] <;> omega
        · have HW := Lib.hid (wordN_mark HKN.out hn0)
          have dz : ((n : Int) == 0) = false := by rw [beq_eq_false_iff_ne]; omega
          have hwl := wordN_le ((tb s).drop a)
          rw [HW.out, List.length_drop, tb_len] at hwl
          dsimp only at hwl
          obtain ⟨t, ht⟩ : ∃ t, t = ((tb s).drop a).take n := ⟨_, rfl⟩
          have hsp : sv (s.extract a (a + n)) = strV t := by rw [ht]; exact sv_part s a n
          have hsl := run_part s a (a + n) (a : Int) ((a : Int) + (n : Int)) rfl (by omega) (by omega) (by omega) wv
          rw [hsp] at hsl
          have HTX := Lib.hid ht
          have hl7 := run_litRV k t a wv
          have hrd : RdV (wv.alloc (.cells #[.int .u8 (k : Int), strV t, .int .i64 (a : Int)] 127)) (wv.heap.size + 1) (some ⟨wv.heap.size, 0, none⟩) 1 [(k, t, a)] := bk_rdV (Bk.new wv _ (wdC (k, t, a)))
          have HRD := Lib.hid hrd
          have HOA := Lib.hid (World.ownsRow.alloc HOV.out (.cells #[.int .u8 (k : Int), strV t, .int .i64 (a : Int)] 127))
          have hsz : w.heap.size ≤ wv.heap.size := HBV.out.size
          have HSP := Lib.hid hsp
          have hnn : (0 : Int) < (n : Int) := by omega
          clear ht hrd hsp
          repeat (first
            | (at_builtin; refine appRV _ rfl (.tmp 43) (.tmp 53) rfl w.heap.size A c m ws rfl HOA.out _ _ 1 1 [(k, t, a)] rfl HRD.out (by omega) (by simp; omega) ?_
               intro A6 c6 V6 ho6 hb6
               have HO6 := Lib.hid ho6
               have HB6 := Lib.hid (HBV.out.trans (((Below.refl w.heap.size wv).alloc hsz (.cells #[.int .u8 (k : Int), strV t, .int .i64 (a : Int)] 127)).trans hb6))
               clear hl7 hsl ho6 hb6)
            | go_skip | go_guarded | go_step)
          have hc := rBlanks_any s (a + n) V6 (by omega) (by omega)
          rw [show ((a + n : Nat) : Int) = (a : Int) + (n : Int) by omega] at hc
          refine hc.mono ?_
          clear hc
          rintro e w7 ⟨rfl, rfl⟩
          have hb7 := blN_le false ((tb s).drop (a + n))
          rw [List.length_drop, tb_len] at hb7
          have HL7 := Lib.hid (lexG_skip (a + n) ((tb s).drop (a + n)))
          have H07 := Lib.hid (blN_after ((tb s).drop (a + n)))
          obtain ⟨b, hb⟩ : ∃ b, b = blN false ((tb s).drop (a + n)) := ⟨_, rfl⟩
          rw [← hb] at hb7 HL7 H07 ⊢
          rw [List.drop_drop] at HL7 H07
          have HW2 := Lib.hid (lexG_word (a := a) (l := (tb s).drop a) (by rw [HZ.out, List.drop_zero]) HW.out hn0)
          clear hb
          dsimp only
          repeat (first | go_skip | go_guarded | go_step)
          go_roundw
          case rel => exact ⟨a + n + b, A6, c6, m + 1, ws ++ [(k, t, a)], by omega, by go_num, rfl, HO6.out, HB6.out, by omega, H07.out, by rw [HLX.out, HW2.out, HZ.out, Nat.add_zero, List.drop_drop, HL7.out, ← HTX.out]; simp [List.append_assoc]⟩
          case measure => simp [intOf] <;> omega
      · obtain rfl : a = s.size := by omega
        have HAN := Lib.hid (show lexG 0 (tb s) = (ws, none) by
          have hnil : (tb s).drop s.size = [] := List.drop_of_length_le (by rw [tb_len]; omega)
          rw [HLX.out, hnil, lexG_end (by rfl)]
          simp)
        repeat (first | go_skip | go_guarded | go_step)
        go_ret3
        exact ⟨A, m, c, ws, 0, 0, rfl, HO.out, HB.out, (wordsL_ok HA.out HAN.out).symm⟩
end Go.Proofs.YtoigpbajefkpoaaGreatDoor

set_option linter.unusedVariables false
set_option linter.unusedSimpArgs false
namespace Go.Proofs.YtoigpbajefkpoaaGreatDoor
open Go Go.RowKit

theorem strInfo : (Tryz.prog.info? 9).map (fun i => (i.zero, i.size, i.bytes)) = some (some (.string ⟨#[]⟩), 1, 16) := by kernel_rfl
theorem sv_one (l : List ByteArray) : ∀ u ∈ l.map sv, u.oneCell' = true := by
 intro u hu
 obtain ⟨_, _, rfl⟩ := List.mem_map.1 hu
 rfl
/-- The slice value of n names l lies in a row of one's own. -/
abbrev OwS (w : World) (base : Nat) (A : Option Addr) (c n : Nat) (l : List ByteArray) : Prop := w.ownsRow base 9 1 (.slice A n c) n (l.map sv)
theorem rdS1 (w : World) (s : ByteArray) : Rd (w.alloc (.cells #[sv s] 9)) (w.heap.size + 1) 1 (some ⟨w.heap.size, 0, none⟩) 1 ([s].map sv) :=
 ⟨by simp, fun _ => ⟨_, _, rfl, by omega, fun j u hu => by
  rw [Nat.zero_add, cell_of_row _ _ j #[sv s] 9 (0, 0) (heap_alloc_new w _)]
  simpa using hu⟩⟩
/-- 'out = append(out, x...)' over strings, in this program. -/
theorem appS {ops : Array Oper} {rest : List Oper} {o : Oper} {a : Act} {Q : Exit → Act → World → Prop} (w : World) (hgd : o.guard = none) (p x : Operand)
  (ho : o.op = .call { callee := .builtin .append, args := #[p, x], argTypes := #[22, 22] })
  (base : Nat) (A0 : Option Addr) (c0 n : Nat) (l : List ByteArray) (hv : a.eval p = .slice A0 n c0) (hown : OwS w base A0 c0 n l)
  (B : Nat) (A : Option Addr) (m c : Nat) (news : List ByteArray) (hx : a.eval x = .slice A m c) (hr : Rd w B 1 A m (news.map sv)) (hb : n + m ≤ 1000000000) (hbase : base ≤ w.heap.size)
  (h : ∀ A' c' w', OwS w' base A' c' (n + m) (l ++ news) → w.grownBy w' (Value.slice A0 n c0).ownBlock → ((Value.slice A' (n + m) c').ownBlock = (Value.slice A0 n c0).ownBlock ∨ (Value.slice A' (n + m) c').ownBlock = some w.heap.size) → wpList Tryz.prog ops Q rest (a.put o.dst (.slice A' (n + m) c')) w') : wpList Tryz.prog ops Q (o :: rest) a w := by
 obtain ⟨i0, hi, hz0, hz1, hz2⟩ := info_parts strInfo
 refine wpList_app w hgd p x 22 ho base 9 i0 _ 1 16 Tryz.underlying22 hi hz0 hz1 hz2 rfl (by decide) _ n _ hv hown B A m c _ hx hr (sv_one news) (by simp only [maxLen]; omega) (by omega) hbase ?_
 intro A' c' w' h1 h2 h3
 exact h A' c' w' (by show World.ownsRow _ _ _ _ _ _ _; rw [List.map_append]; exact h1) h2 h3

theorem neS {x s : ByteArray} (h : x ≠ s) : (x.toList == s.toList) = false := by
 rw [ByteArray.toList_eq, ByteArray.toList_eq]
 refine beq_false_of_ne fun e => h ?_
 cases x
 cases s
 congr 1
 exact Array.toList_inj.1 e

/-! ### The mathematics of a table -/
def findO (l : List ByteArray) (s : ByteArray) : Option Nat := l.findIdx? (fun x => decide (x = s))
def findZ (l : List ByteArray) (s : ByteArray) : Int := match findO l s with | some k => (k : Int) | none => -1
/-- What is put: the names behind it, the number, the error. -/
def putL (l : List ByteArray) (s : ByteArray) : List ByteArray × Nat × Nat :=
 if mayB s = false then (l, 0, 8) else match findO l s with
  | some k => (l, k, 0)
  | none => if 4096 ≤ l.length then (l, 0, 6) else (l ++ [s], l.length, 0)
theorem findO_none {l : List ByteArray} {s : ByteArray} (h : ∀ (j : Nat) (x : ByteArray), l[j]? = some x → x ≠ s) : findO l s = none := by
 unfold findO
 rw [List.findIdx?_eq_none_iff]
 intro x hx
 obtain ⟨j, hj⟩ := List.mem_iff_getElem?.1 hx
 exact decide_eq_false (h j x hj)
theorem findO_some {l : List ByteArray} {s : ByteArray} {i : Nat} (hi : l[i]? = some s) (h : ∀ (j : Nat) (x : ByteArray), j < i → l[j]? = some x → x ≠ s) : findO l s = some i := by
 unfold findO
 have hl : i < l.length := (List.getElem?_eq_some_iff.1 hi).1
 rw [List.findIdx?_eq_some_iff_getElem]
 refine ⟨hl, ?_, fun j hj => ?_⟩
 ·
  have := (List.getElem?_eq_some_iff.1 hi).2
  simp [this]
 ·
  have := h j (l[j]'(by omega)) hj (List.getElem?_eq_getElem _)
  simpa using this
theorem findO_lt {l : List ByteArray} {s : ByteArray} {k : Nat} (h : findO l s = some k) : k < l.length := by
 unfold findO at h
 rw [List.findIdx?_eq_some_iff_getElem] at h
 exact h.1

/-- The document's table at block g: names l, in a row of its own in block X. -/
def RT (w : World) (g : Nat) (X : Option Nat) (l : List ByteArray) : Prop :=
 ∃ A c, Bk w g 113 [.slice A l.length c] ∧ OwS w 0 A c l.length l ∧ X = (Value.slice A l.length c).ownBlock ∧ X ≠ some g
/-- The blocks that a table is made of. -/
def Fp1 (g : Nat) (X : Option Nat) (k : Nat) : Prop := k = g ∨ X = some k
theorem RT.turn {G : Nat → Prop} {w w' : World} {g : Nat} {X : Option Nat} {l : List ByteArray} (h : RT w g X l) (ht : Turn G w w') (hn : ∀ k, Fp1 g X k → ¬ G k) : RT w' g X l := by
 obtain ⟨A, c, h1, h2, h3, h4⟩ := h
 exact ⟨A, c, ht.bk h1 (hn g (.inl rfl)), ht.own h2 (fun k hk => hn k (.inr (h3.trans hk))), h3, h4⟩
theorem RT.lt {w : World} {g : Nat} {X : Option Nat} {l : List ByteArray} (h : RT w g X l) : ∀ k, Fp1 g X k → k < w.heap.size := by
 obtain ⟨A, c, h1, h2, h3, h4⟩ := h
 rintro k (rfl | hk)
 ·
  exact h1.lt
 ·
  exact (World.ownsRow.lt h2 k (h3.symm.trans hk)).2

set_option maxRecDepth 100000 in
set_option maxHeartbeats 1000000 in
theorem rFind_any (g : Nat) (X : Option Nat) (l : List ByteArray) (s : ByteArray) (w : World) (h : RT w g X l) (hl : l.length ≤ 1000000) :
  Calls Tryz.prog 93 #[.pointer (some ⟨g, 0, none⟩), sv s] w fun e w' => e = .returned (.int .i64 (findZ l s)) ∧ w = w' := by
 obtain ⟨A, c, hb, ho, hX, hg⟩ := h
 have cg := hb.cell 0
 rw [show [Value.slice A l.length c][0]? = some (Value.slice A l.length c) from rfl] at cg
 have hr : Rd w w.heap.size 1 A l.length (l.map sv) := Rd.ofOwn ho
 have HR := Lib.hid hr
 clear hb ho hX hg hr
 go_enter Tryz.func93, Tryz.ntmps93
 repeat go_step
 go_loop [5] (fun p => ∃ i : Nat, i ≤ l.length ∧ p = .int .i64 (i : Int) ∧ ∀ (j : Nat) (x : ByteArray), j < i → l[j]? = some x → x ≠ s) (fun p => l.length - (intOf p).toNat)
 case atStart => exact ⟨0, by omega, rfl, fun j x hj => absurd hj (by omega)⟩
 case round =>
  obtain ⟨i, hi, rfl, hne⟩ := hrel
  by_cases hlt : i < l.length
  ·
   have hci : (i : Int) < (l.length : Int) := by omega
   obtain ⟨b, o, u, hA, hbb, hu, hc⟩ := HR.out.at1 hlt
   subst hA
   obtain ⟨x, hx⟩ : ∃ x, l[i]? = some x := ⟨_, List.getElem?_eq_getElem hlt⟩
   rw [List.getElem?_map, hx] at hu
   simp only [Option.map_some, Option.some.injEq] at hu
   subst hu
   have HX := Lib.hid hx
   have HNE := Lib.hid hne
   clear hx hne
   by_cases he : x = s
   ·
    subst he
    have hz : findZ l x = (i : Int) := by unfold findZ; rw [findO_some HX.out HNE.out]
    go_wp2
    go_ret
    exact ⟨rfl, rfl⟩
   ·
    have hq := neS he
    have HE := Lib.hid he
    clear he
    go_wp2
    go_round
    case rel => exact ⟨i + 1, by omega, by go_num, fun j y hj hy => by
     rcases Nat.lt_succ_iff_lt_or_eq.1 hj with h1 | rfl
     ·
      exact HNE.out j y h1 hy
     ·
      rw [HX.out] at hy
      cases hy
      exact HE.out⟩
    case measure => simp [intOf]; omega
  ·
   obtain rfl : i = l.length := by omega
   have hz : findZ l s = -1 := by unfold findZ; rw [findO_none fun j x hj => hne j x (List.getElem?_eq_some_iff.1 hj).1 hj]
   clear hne
   go_wp2
   go_ret
   exact ⟨rfl, rfl⟩
end Go.Proofs.YtoigpbajefkpoaaGreatDoor

