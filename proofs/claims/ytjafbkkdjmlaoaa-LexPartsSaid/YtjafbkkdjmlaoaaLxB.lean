/- Layer 7 (lex), the document's: blanks, a mark, the kind of a word. -/
import Derived.Test.YtjafbkkdjmlaoaaLxA
set_option linter.unusedVariables false
set_option linter.unusedSimpArgs false
namespace Go.Proofs.Ytjafbkkdjmlaoaa
open Go Go.RowKit

theorem u8n {x : UInt8} {n : Nat} (hn : n < 256) : x.toNat = n ↔ x = UInt8.ofNat n := by
  constructor
  · intro h
    apply UInt8.toNat_inj.1
    rw [h, UInt8.toNat_ofNat_of_lt' (by show n < 256; exact hn)]
  · rintro rfl
    exact UInt8.toNat_ofNat_of_lt' (by show n < 256; exact hn)
theorem ieq {x n : Nat} (h : x = n) : ((x : Int) == (n : Int)) = true := by rw [h]; simp
theorem ine {x n : Nat} (h : x ≠ n) : ((x : Int) == (n : Int)) = false := by rw [beq_eq_false_iff_ne]; omega
theorem bne1 {x n : Nat} (h : x = n) : ((x : Int) != (n : Int)) = false := by rw [h]; simp
theorem bne2 {x n : Nat} (h : x ≠ n) : ((x : Int) != (n : Int)) = true := by rw [bne_iff_ne]; omega

set_option maxRecDepth 100000 in
set_option maxHeartbeats 4000000 in
theorem rBlanks_any (s : ByteArray) (a : Nat) (w : World) (hs : s.size ≤ 1099511627776) (ha : a ≤ s.size) :
    Calls Try.prog 17 #[sv s, .int .i64 (a : Int)] w fun e w' => e = .returned (.int .i64 (blN false ((tb s).drop a) : Int)) ∧ w = w' := by
  go_enter Try.func17, Try.ntmps17
  repeat (first | go_skip | go_guarded | go_step)
  go_loop [5] (fun q => ∃ k : Nat, a ≤ k ∧ k ≤ s.size ∧ q = .int .i64 (k : Int) ∧ blN false ((tb s).drop a) = (k - a) + blN false ((tb s).drop k)) (fun q => s.size - (intOf q).toNat)
  case atStart => exact ⟨a, by omega, ha, rfl, by omega⟩
  case round =>
    obtain ⟨k, h1, h2, rfl, hl⟩ := hrel
    have HL := Lib.hid hl
    clear hl
    by_cases hlt : k < s.size
    · have hci : (k : Int) < (s.size : Int) := by omega
      obtain ⟨x, hx⟩ : ∃ x, s[k]'hlt = x := ⟨_, rfl⟩
      have ht := tb_at hlt
      rw [hx] at ht
      have HT := Lib.hid ht
      clear ht
      rcases (by omega : x.toNat = 37 ∨ x.toNat = 32 ∨ x.toNat = 9 ∨ x.toNat = 10 ∨ x.toNat = 13 ∨ (x.toNat ≠ 37 ∧ x.toNat ≠ 32 ∧ x.toNat ≠ 9 ∧ x.toNat ≠ 10 ∧ x.toNat ≠ 13)) with hc | hc | hc | hc | hc | hc
      · have d37 : ((x.toNat : Int) == 37) = true := ieq (n := 37) hc
        have HX := Lib.hid ((u8n (n := 37) (by omega)).1 hc)
        have HST := Lib.hid (show blN true ((tb s).drop k) = blN false ((tb s).drop k) by
          rw [HT.out, blN, blN, if_neg (by rw [HX.out]; decide), if_pos (by rw [HX.out]; rfl)])
        clear hc
        repeat (first | go_skip | go_guarded | go_step)
        go_loop [5] (fun q => ∃ j : Nat, k ≤ j ∧ j ≤ s.size ∧ q = .int .i64 (j : Int) ∧ blN false ((tb s).drop a) = (j - a) + blN true ((tb s).drop j)) (fun q => s.size - (intOf q).toNat)
        case atStart => exact ⟨k, by omega, h2, rfl, by rw [HST.out, HL.out]⟩
        case round =>
          obtain ⟨j, g1, g2, rfl, gl⟩ := hrel
          have GL := Lib.hid gl
          clear gl
          by_cases glt : j < s.size
          · have gci : (j : Int) < (s.size : Int) := by omega
            obtain ⟨y, hy⟩ : ∃ y, s[j]'glt = y := ⟨_, rfl⟩
            have gt := tb_at glt
            rw [hy] at gt
            have GT := Lib.hid gt
            clear gt
            by_cases g10 : y.toNat = 10
            · have HY := Lib.hid ((u8n (n := 10) (by omega)).1 g10)
              have hjk : j ≠ k := by
                rintro rfl
                have : y = x := by rw [← hy, ← hx]
                rw [HY.out, HX.out] at this
                exact absurd this (by decide)
              have d10 : ((y.toNat : Int) != 10) = false := bne1 (n := 10) g10
              have HE := Lib.hid (show blN true ((tb s).drop j) = blN false ((tb s).drop j) by
                rw [GT.out, blN, blN, if_pos (by rw [HY.out]; rfl), if_neg (by rw [HY.out]; decide), HY.out]
                simp [isBl])
              clear g10
              repeat (first | go_skip | go_guarded | go_step)
              go_round
              case rel => exact ⟨j, by omega, by omega, rfl, by rw [GL.out, HE.out]⟩
              case measure => simp [intOf] <;> omega
            · have d10 : ((y.toNat : Int) != 10) = true := bne2 (n := 10) g10
              have HE := Lib.hid (show blN true ((tb s).drop j) = 1 + blN true ((tb s).drop (j + 1)) by
                rw [GT.out, blN, if_neg (fun h : y = 10 => g10 ((u8n (n := 10) (by omega)).2 h))])
              clear g10
              repeat (first | go_skip | go_guarded | go_step)
              go_round
              case rel => exact ⟨j + 1, by omega, by omega, by go_num, by rw [GL.out, HE.out]; omega⟩
              case measure => simp [intOf] <;> omega
          · obtain rfl : j = s.size := by omega
            have HE := Lib.hid (show blN false ((tb s).drop a) = (s.size - a) + blN false ((tb s).drop s.size) by
              rw [GL.out, List.drop_of_length_le (by rw [tb_len]; omega)]
              simp [blN])
            repeat (first | go_skip | go_guarded | go_step)
            go_round
            case rel => exact ⟨s.size, by omega, by omega, rfl, HE.out⟩
            case measure => simp [intOf] <;> omega
      · have HX := Lib.hid ((u8n (n := 32) (by omega)).1 hc)
        have d37 : ((x.toNat : Int) == 37) = false := ine (n := 37) (by omega)
        have d32 : ((x.toNat : Int) != 32) = false := bne1 (n := 32) (by omega)
        have d9 : ((x.toNat : Int) != 9) = true := bne2 (n := 9) (by omega)
        have d10 : ((x.toNat : Int) != 10) = true := bne2 (n := 10) (by omega)
        have d13 : ((x.toNat : Int) != 13) = true := bne2 (n := 13) (by omega)
        have HB := Lib.hid (show blN false ((tb s).drop k) = 1 + blN false ((tb s).drop (k + 1)) by
          rw [HT.out, blN, if_neg (by rw [HX.out]; decide), HX.out]
          simp [isBl])
        clear hc
        repeat (first | go_skip | go_guarded | go_step)
        go_round
        case rel => exact ⟨k + 1, by omega, by omega, by go_num, by rw [HL.out, HB.out]; omega⟩
        case measure => simp [intOf] <;> omega
      · have HX := Lib.hid ((u8n (n := 9) (by omega)).1 hc)
        have d37 : ((x.toNat : Int) == 37) = false := ine (n := 37) (by omega)
        have d32 : ((x.toNat : Int) != 32) = true := bne2 (n := 32) (by omega)
        have d9 : ((x.toNat : Int) != 9) = false := bne1 (n := 9) (by omega)
        have d10 : ((x.toNat : Int) != 10) = true := bne2 (n := 10) (by omega)
        have d13 : ((x.toNat : Int) != 13) = true := bne2 (n := 13) (by omega)
        have HB := Lib.hid (show blN false ((tb s).drop k) = 1 + blN false ((tb s).drop (k + 1)) by
          rw [HT.out, blN, if_neg (by rw [HX.out]; decide), HX.out]
          simp [isBl])
        clear hc
        repeat (first | go_skip | go_guarded | go_step)
        go_round
        case rel => exact ⟨k + 1, by omega, by omega, by go_num, by rw [HL.out, HB.out]; omega⟩
        case measure => simp [intOf] <;> omega
      · have HX := Lib.hid ((u8n (n := 10) (by omega)).1 hc)
        have d37 : ((x.toNat : Int) == 37) = false := ine (n := 37) (by omega)
        have d32 : ((x.toNat : Int) != 32) = true := bne2 (n := 32) (by omega)
        have d9 : ((x.toNat : Int) != 9) = true := bne2 (n := 9) (by omega)
        have d10 : ((x.toNat : Int) != 10) = false := bne1 (n := 10) (by omega)
        have d13 : ((x.toNat : Int) != 13) = true := bne2 (n := 13) (by omega)
        have HB := Lib.hid (show blN false ((tb s).drop k) = 1 + blN false ((tb s).drop (k + 1)) by
          rw [HT.out, blN, if_neg (by rw [HX.out]; decide), HX.out]
          simp [isBl])
        clear hc
        repeat (first | go_skip | go_guarded | go_step)
        go_round
        case rel => exact ⟨k + 1, by omega, by omega, by go_num, by rw [HL.out, HB.out]; omega⟩
        case measure => simp [intOf] <;> omega
      · have HX := Lib.hid ((u8n (n := 13) (by omega)).1 hc)
        have d37 : ((x.toNat : Int) == 37) = false := ine (n := 37) (by omega)
        have d32 : ((x.toNat : Int) != 32) = true := bne2 (n := 32) (by omega)
        have d9 : ((x.toNat : Int) != 9) = true := bne2 (n := 9) (by omega)
        have d10 : ((x.toNat : Int) != 10) = true := bne2 (n := 10) (by omega)
        have d13 : ((x.toNat : Int) != 13) = false := bne1 (n := 13) (by omega)
        have HB := Lib.hid (show blN false ((tb s).drop k) = 1 + blN false ((tb s).drop (k + 1)) by
          rw [HT.out, blN, if_neg (by rw [HX.out]; decide), HX.out]
          simp [isBl])
        clear hc
        repeat (first | go_skip | go_guarded | go_step)
        go_round
        case rel => exact ⟨k + 1, by omega, by omega, by go_num, by rw [HL.out, HB.out]; omega⟩
        case measure => simp [intOf] <;> omega
      · have d37 : ((x.toNat : Int) == 37) = false := ine (n := 37) (by omega)
        have d32 : ((x.toNat : Int) != 32) = true := bne2 (n := 32) (by omega)
        have d9 : ((x.toNat : Int) != 9) = true := bne2 (n := 9) (by omega)
        have d10 : ((x.toNat : Int) != 10) = true := bne2 (n := 10) (by omega)
        have d13 : ((x.toNat : Int) != 13) = true := bne2 (n := 13) (by omega)
        have HB := Lib.hid (show blN false ((tb s).drop k) = 0 by
          rw [HT.out, blN, if_neg (fun h : x = 37 => hc.1 ((u8n (n := 37) (by omega)).2 h))]
          have : isBl x = false := by
            unfold isBl
            simp only [Bool.or_eq_false_iff, beq_eq_false_iff_ne]
            exact ⟨⟨⟨fun h : x = 32 => hc.2.1 ((u8n (n := 32) (by omega)).2 h), fun h : x = 9 => hc.2.2.1 ((u8n (n := 9) (by omega)).2 h)⟩, fun h : x = 10 => hc.2.2.2.1 ((u8n (n := 10) (by omega)).2 h)⟩, fun h : x = 13 => hc.2.2.2.2 ((u8n (n := 13) (by omega)).2 h)⟩
          rw [this]; rfl)
        clear hc
        repeat (first | go_skip | go_guarded | go_step)
        go_ret
        exact ⟨by rw [HL.out, HB.out]; simp; omega, rfl⟩
    · obtain rfl : k = s.size := by omega
      have HZ := Lib.hid (show blN false ((tb s).drop a) = s.size - a by rw [HL.out, List.drop_of_length_le (by rw [tb_len]; omega)]; simp [blN])
      repeat (first | go_skip | go_guarded | go_step)
      go_ret
      exact ⟨by rw [HZ.out]; simp; omega, rfl⟩

set_option maxRecDepth 100000 in
set_option maxHeartbeats 4000000 in
theorem rMark_any (s : ByteArray) (a : Nat) (w : World) (hs : s.size ≤ 1099511627776) (ha : a < s.size) :
    Calls Try.prog 18 #[sv s, .int .i64 (a : Int)] w fun e w' => e = .returned (.tuple #[.int .u8 ((markN ((tb s).drop a)).1 : Int), .int .i64 ((markN ((tb s).drop a)).2 : Int)]) ∧ ∃ q, w' = w.drewN q := by
  obtain ⟨x, hx⟩ : ∃ x, s[a]'ha = x := ⟨_, rfl⟩
  have ht := tb_at ha
  rw [hx] at ht
  have HT := Lib.hid ht
  clear ht
  have hci : (a : Int) < (s.size : Int) := by omega
  have m0 : ((⟨#[40, 41, 44, 46]⟩ : ByteArray)[0]'(by decide)).toNat = 40 := by decide
  have m1 : ((⟨#[40, 41, 44, 46]⟩ : ByteArray)[1]'(by decide)).toNat = 41 := by decide
  have m2 : ((⟨#[40, 41, 44, 46]⟩ : ByteArray)[2]'(by decide)).toNat = 44 := by decide
  have m3 : ((⟨#[40, 41, 44, 46]⟩ : ByteArray)[3]'(by decide)).toNat = 46 := by decide
  go_enter Try.func18, Try.ntmps18
  repeat (first | go_skip | go_guarded | go_step)
  go_loopw [7] (fun q wr => ∃ i : Nat, i ≤ 4 ∧ q = .int .i64 (i : Int) ∧ (1 ≤ i → x.toNat ≠ 40) ∧ (2 ≤ i → x.toNat ≠ 41) ∧ (3 ≤ i → x.toNat ≠ 44) ∧ (4 ≤ i → x.toNat ≠ 46) ∧ ∃ m, wr = w.drewN m) (fun q _ => 4 - (intOf q).toNat)
  case atStart => exact ⟨0, by omega, rfl, by omega, by omega, by omega, by omega, 0, rfl⟩
  case round =>
    obtain ⟨i, hi, rfl, h1, h2, h3, h4, m, rfl⟩ := hrel
    rcases (show i = 0 ∨ i = 1 ∨ i = 2 ∨ i = 3 ∨ i = 4 by omega) with rfl | rfl | rfl | rfl | rfl
    · clear h1 h2 h3 h4
      by_cases hc : x.toNat = 40
      · have hd : ((x.toNat : Int) == 40) = true := ieq (n := 40) hc
        have HM := Lib.hid (show markN ((tb s).drop a) = (5, 1) by
          rw [HT.out]
          unfold markN
          dsimp only
          rw [if_pos (show x = 40 from (u8n (n := 40) (by omega)).1 hc)])
        clear hc
        repeat (first | go_skip | go_guarded | go_step)
        go_quiet (fail)
        repeat (first | go_skip | go_guarded | go_step)
        go_ret2
        exact ⟨by rw [HM.out]; rfl, _, rfl⟩
      · have hd : ((x.toNat : Int) == 40) = false := ine (n := 40) hc
        have HC := Lib.hid hc
        clear hc
        repeat (first | go_skip | go_guarded | go_step)
        go_quiet (fail)
        repeat (first | go_skip | go_guarded | go_step)
        go_roundw
        case rel => exact ⟨1, by omega, by rfl, fun _ => HC.out, by omega, by omega, by omega, _, rfl⟩
        case measure => simp [intOf]
    · have p0 : x.toNat ≠ 40 := h1 (by omega)
      clear h1 h2 h3 h4
      by_cases hc : x.toNat = 41
      · have hd : ((x.toNat : Int) == 41) = true := ieq (n := 41) hc
        have HM := Lib.hid (show markN ((tb s).drop a) = (6, 1) by
          rw [HT.out]
          unfold markN
          dsimp only
          rw [if_neg (fun h : x = 40 => p0 ((u8n (n := 40) (by omega)).2 h))]
          rw [if_pos (show x = 41 from (u8n (n := 41) (by omega)).1 hc)])
        clear hc p0
        repeat (first | go_skip | go_guarded | go_step)
        go_quiet (fail)
        repeat (first | go_skip | go_guarded | go_step)
        go_ret2
        exact ⟨by rw [HM.out]; rfl, _, rfl⟩
      · have hd : ((x.toNat : Int) == 41) = false := ine (n := 41) hc
        have HC := Lib.hid hc
        have P0 := Lib.hid p0
        clear hc p0
        repeat (first | go_skip | go_guarded | go_step)
        go_quiet (fail)
        repeat (first | go_skip | go_guarded | go_step)
        go_roundw
        case rel => exact ⟨2, by omega, by rfl, fun _ => P0.out, fun _ => HC.out, by omega, by omega, _, rfl⟩
        case measure => simp [intOf]
    · have p0 : x.toNat ≠ 40 := h1 (by omega)
      have p1 : x.toNat ≠ 41 := h2 (by omega)
      clear h1 h2 h3 h4
      by_cases hc : x.toNat = 44
      · have hd : ((x.toNat : Int) == 44) = true := ieq (n := 44) hc
        have HM := Lib.hid (show markN ((tb s).drop a) = (7, 1) by
          rw [HT.out]
          unfold markN
          dsimp only
          rw [if_neg (fun h : x = 40 => p0 ((u8n (n := 40) (by omega)).2 h))]
          rw [if_neg (fun h : x = 41 => p1 ((u8n (n := 41) (by omega)).2 h))]
          rw [if_pos (show x = 44 from (u8n (n := 44) (by omega)).1 hc)])
        clear hc p0 p1
        repeat (first | go_skip | go_guarded | go_step)
        go_quiet (fail)
        repeat (first | go_skip | go_guarded | go_step)
        go_ret2
        exact ⟨by rw [HM.out]; rfl, _, rfl⟩
      · have hd : ((x.toNat : Int) == 44) = false := ine (n := 44) hc
        have HC := Lib.hid hc
        have P0 := Lib.hid p0
        have P1 := Lib.hid p1
        clear hc p0 p1
        repeat (first | go_skip | go_guarded | go_step)
        go_quiet (fail)
        repeat (first | go_skip | go_guarded | go_step)
        go_roundw
        case rel => exact ⟨3, by omega, by rfl, fun _ => P0.out, fun _ => P1.out, fun _ => HC.out, by omega, _, rfl⟩
        case measure => simp [intOf]
    · have p0 : x.toNat ≠ 40 := h1 (by omega)
      have p1 : x.toNat ≠ 41 := h2 (by omega)
      have p2 : x.toNat ≠ 44 := h3 (by omega)
      clear h1 h2 h3 h4
      by_cases hc : x.toNat = 46
      · have hd : ((x.toNat : Int) == 46) = true := ieq (n := 46) hc
        have HM := Lib.hid (show markN ((tb s).drop a) = (8, 1) by
          rw [HT.out]
          unfold markN
          dsimp only
          rw [if_neg (fun h : x = 40 => p0 ((u8n (n := 40) (by omega)).2 h))]
          rw [if_neg (fun h : x = 41 => p1 ((u8n (n := 41) (by omega)).2 h))]
          rw [if_neg (fun h : x = 44 => p2 ((u8n (n := 44) (by omega)).2 h))]
          rw [if_pos (show x = 46 from (u8n (n := 46) (by omega)).1 hc)])
        clear hc p0 p1 p2
        repeat (first | go_skip | go_guarded | go_step)
        go_quiet (fail)
        repeat (first | go_skip | go_guarded | go_step)
        go_ret2
        exact ⟨by rw [HM.out]; rfl, _, rfl⟩
      · have hd : ((x.toNat : Int) == 46) = false := ine (n := 46) hc
        have HC := Lib.hid hc
        have P0 := Lib.hid p0
        have P1 := Lib.hid p1
        have P2 := Lib.hid p2
        clear hc p0 p1 p2
        repeat (first | go_skip | go_guarded | go_step)
        go_quiet (fail)
        repeat (first | go_skip | go_guarded | go_step)
        go_roundw
        case rel => exact ⟨4, by omega, by rfl, fun _ => P0.out, fun _ => P1.out, fun _ => P2.out, fun _ => HC.out, _, rfl⟩
        case measure => simp [intOf]
    · have p0 : x.toNat ≠ 40 := h1 (by omega)
      have p1 : x.toNat ≠ 41 := h2 (by omega)
      have p2 : x.toNat ≠ 44 := h3 (by omega)
      have p3 : x.toNat ≠ 46 := h4 (by omega)
      have HM := Lib.hid (show markN ((tb s).drop a) = if x = 58 ∧ ((tb s).drop (a + 1)).head? = some 45 then (9, 2) else (0, 0) by
        rw [HT.out]
        unfold markN
        dsimp only
        rw [if_neg (fun h : x = 40 => p0 ((u8n (n := 40) (by omega)).2 h)), if_neg (fun h : x = 41 => p1 ((u8n (n := 41) (by omega)).2 h)), if_neg (fun h : x = 44 => p2 ((u8n (n := 44) (by omega)).2 h)), if_neg (fun h : x = 46 => p3 ((u8n (n := 46) (by omega)).2 h))])
      clear h1 h2 h3 h4 p0 p1 p2 p3
      by_cases hlt : a + 1 < s.size
      · have hl2 : (a : Int) + 1 < (s.size : Int) := by omega
        have hsl : ∀ w, _ := fun w => run_part s a (a + 2) (a : Int) ((a : Int) + 2) rfl (by omega) (by omega) (by omega) w
        obtain ⟨y, hy⟩ : ∃ y, s[a + 1]'hlt = y := ⟨_, rfl⟩
        have ht2 := tb_at hlt
        rw [hy] at ht2
        have hex : (tb (s.extract a (a + 2))) = [x, y] := by
          rw [tb_extract, HT.out, ht2, show a + 2 - a = 2 by omega]
          rfl
        have he : (s.extract a (a + 2)).toList = [x, y] := by rw [ByteArray.toList_eq]; exact hex
        have HT2 := Lib.hid ht2
        clear hex ht2
        by_cases h58 : x = 58 ∧ y = 45
        · have hd : ((s.extract a (a + 2)).toList == [58, 45]) = true := by rw [he, h58.1, h58.2]; rfl
          have HM2 := Lib.hid (show markN ((tb s).drop a) = (9, 2) by
            rw [HM.out, HT2.out, if_pos ⟨h58.1, by rw [h58.2]; rfl⟩])
          clear he h58
          repeat (first | go_skip | go_guarded | go_step)
          go_ret2
          exact ⟨by rw [HM2.out]; rfl, _, rfl⟩
        · have hd : ((s.extract a (a + 2)).toList == [58, 45]) = false := by
            rw [he, beq_eq_false_iff_ne]
            intro e
            simp only [List.cons.injEq, and_true] at e
            exact h58 e
          have HM2 := Lib.hid (show markN ((tb s).drop a) = (0, 0) by
            rw [HM.out, HT2.out, if_neg (fun h => h58 ⟨h.1, Option.some.inj h.2⟩)])
          clear he h58
          repeat (first | go_skip | go_guarded | go_step)
          go_ret2
          exact ⟨by rw [HM2.out]; rfl, _, rfl⟩
      · have hl2 : ¬ ((a : Int) + 1 < (s.size : Int)) := by omega
        have HM2 := Lib.hid (show markN ((tb s).drop a) = (0, 0) by
          rw [HM.out, List.drop_of_length_le (by rw [tb_len]; omega)]
          simp)
        repeat (first | go_skip | go_guarded | go_step)
        go_ret2
        exact ⟨by rw [HM2.out]; rfl, _, rfl⟩
end Go.Proofs.Ytjafbkkdjmlaoaa
