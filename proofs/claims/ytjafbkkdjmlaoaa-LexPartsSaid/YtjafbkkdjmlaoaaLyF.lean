/- Layer 7 (lex), the program's: what a text begins with. -/
import Derived.Test.YtjafbkkdjmlaoaaLyC
set_option linter.unusedVariables false
set_option linter.unusedSimpArgs false
namespace Go.Proofs.Ytjafbkkdjmlaoaa
open Go Go.RowKit

theorem run_pre (s : ByteArray) (b : Nat) (hb : b ≤ s.size) (w : World) :
    (Instr.slice 9 (sv s) none (some (.int .i64 (b : Int))) none).run Try.prog w = .ok (sv (s.extract 0 b)) w := by
  have d1 : decide ((b : Int) ≤ (s.size : Int)) = true := by simp; omega
  go_simp
theorem front_not {x : UInt8} {r : List UInt8} (hb : isBl x = false) (h1 : x ≠ 37) (hm : markN (x :: r) = (0, 0)) (ho : okB x = false) : frontN (x :: r) = (0, 0) := by
  have hl : letN (x :: r) = 0 := by unfold letN; rw [List.takeWhile_cons, ho]; simp
  unfold frontN
  dsimp only
  rw [hb, if_neg Bool.false_ne_true, if_neg h1, wordN_let hm, if_pos (Or.inl hl)]
theorem markN_none {x : UInt8} {r : List UInt8} (h1 : x ≠ 40) (h2 : x ≠ 41) (h3 : x ≠ 44) (h4 : x ≠ 46) (h5 : ¬ (x = 58 ∧ r.head? = some 45)) : markN (x :: r) = (0, 0) := by
  unfold markN
  dsimp only
  rw [if_neg h1, if_neg h2, if_neg h3, if_neg h4, if_neg h5]
theorem pfB_cons {s : ByteArray} {x : UInt8} {r : List UInt8} (h : tb s = x :: r) : pfB s = decide (x = 58 ∧ r.head? = some 45) := by
  unfold pfB
  rw [h]
  cases r with
  | nil => simp
  | cons y q => simp
theorem ofK_kind {s : ByteArray} {n k : Nat} {x : UInt8} {r : List UInt8} (h : tb s = x :: r) (hn : 1 ≤ n) (hk : k = if 65 ≤ x.toNat ∧ x.toNat ≤ 90 then 2 else 1) : ofK k (s.extract 0 n) = kindL ((tb s).take n) := by
  have ht : tb (s.extract 0 n) = (tb s).take n := by rw [tb_extract, List.drop_zero, Nat.sub_zero]
  have hc : ∀ t : ByteArray, s.extract 0 n = t ↔ (tb s).take n = tb t := fun t => by
    rw [← ht]
    exact ⟨fun e => by rw [e], fun e => ByteArray.ext (Array.toList_inj.1 e)⟩
  unfold ofK kindL
  by_cases e1 : s.extract 0 n = notT
  · rw [if_pos e1, if_pos ((hc notT).1 e1)]
  · by_cases e2 : s.extract 0 n = saysT
    · rw [if_neg e1, if_neg (fun e => e1 ((hc notT).2 e)), if_pos e2, if_pos ((hc saysT).1 e2)]
    · rw [if_neg e1, if_neg (fun e => e1 ((hc notT).2 e)), if_neg e2, if_neg (fun e => e2 ((hc saysT).2 e)), h]
      obtain ⟨m, rfl⟩ : ∃ m, n = m + 1 := ⟨n - 1, by omega⟩
      rw [List.take_succ_cons]
      exact hk
theorem all_letN (l : List UInt8) : (l.take (letN l)).all okB = true := by
  unfold letN
  rw [List.prefix_iff_eq_take.1 (List.takeWhile_prefix okB) |>.symm]
  exact List.all_takeWhile

set_option maxRecDepth 100000 in
set_option maxHeartbeats 4000000 in
theorem first_any (s : ByteArray) (b : Nat) (w : World) (hm : MeanIs w b) (h1 : 1 ≤ s.size) (hs : s.size ≤ 1099511627776) :
    Calls Try.prog 15 #[sv s, .map (some b)] w fun e w' => e = .returned (.tuple #[.int .u8 ((frontN (tb s)).1 : Int), .int .i64 ((frontN (tb s)).2 : Int)]) ∧ w = w' := by
  have HM := Lib.hid hm
  clear hm
  have h0 : 0 < s.size := by omega
  obtain ⟨x, hx⟩ : ∃ x, s[0]'h0 = x := ⟨_, rfl⟩
  have ht := tb_at h0
  rw [hx, List.drop_zero] at ht
  obtain ⟨r, hr⟩ : ∃ r, r = (tb s).drop (0 + 1) := ⟨_, rfl⟩
  rw [← hr] at ht
  clear hr
  have HT := Lib.hid ht
  have HP := Lib.hid (pfB_cons ht)
  have hci : (0 : Int) < (s.size : Int) := by omega
  have hx256 := u8_lt x
  clear ht
  have hcs : x.toNat = 32 ∨ x.toNat = 9 ∨ x.toNat = 10 ∨ x.toNat = 13 ∨ x.toNat = 37 ∨ x.toNat = 40 ∨ x.toNat = 41 ∨ x.toNat = 44 ∨ x.toNat = 46 ∨ x.toNat = 58 ∨ (65 ≤ x.toNat ∧ x.toNat ≤ 90) ∨
      ((¬ (65 ≤ x.toNat ∧ x.toNat ≤ 90)) ∧ x.toNat ≠ 32 ∧ x.toNat ≠ 9 ∧ x.toNat ≠ 10 ∧ x.toNat ≠ 13 ∧ x.toNat ≠ 37 ∧ x.toNat ≠ 40 ∧ x.toNat ≠ 41 ∧ x.toNat ≠ 44 ∧ x.toNat ≠ 46 ∧ x.toNat ≠ 58) := by omega
  rcases hcs with h | h | h | h | h | h | h | h | h | h | h | h
  · have HF := Lib.hid (show frontN (tb s) = (10, 1) by rw [HT.out, show x = 32 from UInt8.toNat_inj.1 h]; rfl)
    have d32 : ((x.toNat : Int) == 32) = true := by simp; omega
    have d9 : ((x.toNat : Int) == 9) = false := by simp; omega
    have d10 : ((x.toNat : Int) == 10) = false := by simp; omega
    have d13 : ((x.toNat : Int) == 13) = false := by simp; omega
    have d37 : ((x.toNat : Int) == 37) = false := by simp; omega
    have d40 : ((x.toNat : Int) == 40) = false := by simp; omega
    have d41 : ((x.toNat : Int) == 41) = false := by simp; omega
    have d44 : ((x.toNat : Int) == 44) = false := by simp; omega
    have d46 : ((x.toNat : Int) == 46) = false := by simp; omega
    clear h
    go_enter Try.func15, Try.ntmps15
    repeat (first | go_skip | go_guarded | go_step)
    go_ret2
    exact ⟨by rw [HF.out]; rfl, rfl⟩
  · have HF := Lib.hid (show frontN (tb s) = (10, 1) by rw [HT.out, show x = 9 from UInt8.toNat_inj.1 h]; rfl)
    have d32 : ((x.toNat : Int) == 32) = false := by simp; omega
    have d9 : ((x.toNat : Int) == 9) = true := by simp; omega
    have d10 : ((x.toNat : Int) == 10) = false := by simp; omega
    have d13 : ((x.toNat : Int) == 13) = false := by simp; omega
    have d37 : ((x.toNat : Int) == 37) = false := by simp; omega
    have d40 : ((x.toNat : Int) == 40) = false := by simp; omega
    have d41 : ((x.toNat : Int) == 41) = false := by simp; omega
    have d44 : ((x.toNat : Int) == 44) = false := by simp; omega
    have d46 : ((x.toNat : Int) == 46) = false := by simp; omega
    clear h
    go_enter Try.func15, Try.ntmps15
    repeat (first | go_skip | go_guarded | go_step)
    go_ret2
    exact ⟨by rw [HF.out]; rfl, rfl⟩
  · have HF := Lib.hid (show frontN (tb s) = (10, 1) by rw [HT.out, show x = 10 from UInt8.toNat_inj.1 h]; rfl)
    have d32 : ((x.toNat : Int) == 32) = false := by simp; omega
    have d9 : ((x.toNat : Int) == 9) = false := by simp; omega
    have d10 : ((x.toNat : Int) == 10) = true := by simp; omega
    have d13 : ((x.toNat : Int) == 13) = false := by simp; omega
    have d37 : ((x.toNat : Int) == 37) = false := by simp; omega
    have d40 : ((x.toNat : Int) == 40) = false := by simp; omega
    have d41 : ((x.toNat : Int) == 41) = false := by simp; omega
    have d44 : ((x.toNat : Int) == 44) = false := by simp; omega
    have d46 : ((x.toNat : Int) == 46) = false := by simp; omega
    clear h
    go_enter Try.func15, Try.ntmps15
    repeat (first | go_skip | go_guarded | go_step)
    go_ret2
    exact ⟨by rw [HF.out]; rfl, rfl⟩
  · have HF := Lib.hid (show frontN (tb s) = (10, 1) by rw [HT.out, show x = 13 from UInt8.toNat_inj.1 h]; rfl)
    have d32 : ((x.toNat : Int) == 32) = false := by simp; omega
    have d9 : ((x.toNat : Int) == 9) = false := by simp; omega
    have d10 : ((x.toNat : Int) == 10) = false := by simp; omega
    have d13 : ((x.toNat : Int) == 13) = true := by simp; omega
    have d37 : ((x.toNat : Int) == 37) = false := by simp; omega
    have d40 : ((x.toNat : Int) == 40) = false := by simp; omega
    have d41 : ((x.toNat : Int) == 41) = false := by simp; omega
    have d44 : ((x.toNat : Int) == 44) = false := by simp; omega
    have d46 : ((x.toNat : Int) == 46) = false := by simp; omega
    clear h
    go_enter Try.func15, Try.ntmps15
    repeat (first | go_skip | go_guarded | go_step)
    go_ret2
    exact ⟨by rw [HF.out]; rfl, rfl⟩
  · have HF := Lib.hid (show frontN (tb s) = (10, lineN (tb s)) by rw [HT.out, show x = 37 from UInt8.toNat_inj.1 h]; rfl)
    have d32 : ((x.toNat : Int) == 32) = false := by simp; omega
    have d9 : ((x.toNat : Int) == 9) = false := by simp; omega
    have d10 : ((x.toNat : Int) == 10) = false := by simp; omega
    have d13 : ((x.toNat : Int) == 13) = false := by simp; omega
    have d37 : ((x.toNat : Int) == 37) = true := by simp; omega
    have d40 : ((x.toNat : Int) == 40) = false := by simp; omega
    have d41 : ((x.toNat : Int) == 41) = false := by simp; omega
    have d44 : ((x.toNat : Int) == 44) = false := by simp; omega
    have d46 : ((x.toNat : Int) == 46) = false := by simp; omega
    clear h
    go_enter Try.func15, Try.ntmps15
    repeat (first | go_skip | go_guarded | go_step)
    refine (lineSize_any s w hs).mono ?_
    rintro e w1 ⟨rfl, rfl⟩
    dsimp only
    repeat (first | go_skip | go_guarded | go_step)
    go_ret2
    exact ⟨by rw [HF.out]; rfl, rfl⟩
  · have HF := Lib.hid (show frontN (tb s) = (5, 1) by rw [HT.out, show x = 40 from UInt8.toNat_inj.1 h]; simp [frontN, isBl, wordN, markN])
    have d32 : ((x.toNat : Int) == 32) = false := by simp; omega
    have d9 : ((x.toNat : Int) == 9) = false := by simp; omega
    have d10 : ((x.toNat : Int) == 10) = false := by simp; omega
    have d13 : ((x.toNat : Int) == 13) = false := by simp; omega
    have d37 : ((x.toNat : Int) == 37) = false := by simp; omega
    have d40 : ((x.toNat : Int) == 40) = true := by simp; omega
    have d41 : ((x.toNat : Int) == 41) = false := by simp; omega
    have d44 : ((x.toNat : Int) == 44) = false := by simp; omega
    have d46 : ((x.toNat : Int) == 46) = false := by simp; omega
    clear h
    go_enter Try.func15, Try.ntmps15
    repeat (first | go_skip | go_guarded | go_step)
    go_ret2
    exact ⟨by rw [HF.out]; rfl, rfl⟩
  · have HF := Lib.hid (show frontN (tb s) = (6, 1) by rw [HT.out, show x = 41 from UInt8.toNat_inj.1 h]; simp [frontN, isBl, wordN, markN])
    have d32 : ((x.toNat : Int) == 32) = false := by simp; omega
    have d9 : ((x.toNat : Int) == 9) = false := by simp; omega
    have d10 : ((x.toNat : Int) == 10) = false := by simp; omega
    have d13 : ((x.toNat : Int) == 13) = false := by simp; omega
    have d37 : ((x.toNat : Int) == 37) = false := by simp; omega
    have d40 : ((x.toNat : Int) == 40) = false := by simp; omega
    have d41 : ((x.toNat : Int) == 41) = true := by simp; omega
    have d44 : ((x.toNat : Int) == 44) = false := by simp; omega
    have d46 : ((x.toNat : Int) == 46) = false := by simp; omega
    clear h
    go_enter Try.func15, Try.ntmps15
    repeat (first | go_skip | go_guarded | go_step)
    go_ret2
    exact ⟨by rw [HF.out]; rfl, rfl⟩
  · have HF := Lib.hid (show frontN (tb s) = (7, 1) by rw [HT.out, show x = 44 from UInt8.toNat_inj.1 h]; simp [frontN, isBl, wordN, markN])
    have d32 : ((x.toNat : Int) == 32) = false := by simp; omega
    have d9 : ((x.toNat : Int) == 9) = false := by simp; omega
    have d10 : ((x.toNat : Int) == 10) = false := by simp; omega
    have d13 : ((x.toNat : Int) == 13) = false := by simp; omega
    have d37 : ((x.toNat : Int) == 37) = false := by simp; omega
    have d40 : ((x.toNat : Int) == 40) = false := by simp; omega
    have d41 : ((x.toNat : Int) == 41) = false := by simp; omega
    have d44 : ((x.toNat : Int) == 44) = true := by simp; omega
    have d46 : ((x.toNat : Int) == 46) = false := by simp; omega
    clear h
    go_enter Try.func15, Try.ntmps15
    repeat (first | go_skip | go_guarded | go_step)
    go_ret2
    exact ⟨by rw [HF.out]; rfl, rfl⟩
  · have HF := Lib.hid (show frontN (tb s) = (8, 1) by rw [HT.out, show x = 46 from UInt8.toNat_inj.1 h]; simp [frontN, isBl, wordN, markN])
    have d32 : ((x.toNat : Int) == 32) = false := by simp; omega
    have d9 : ((x.toNat : Int) == 9) = false := by simp; omega
    have d10 : ((x.toNat : Int) == 10) = false := by simp; omega
    have d13 : ((x.toNat : Int) == 13) = false := by simp; omega
    have d37 : ((x.toNat : Int) == 37) = false := by simp; omega
    have d40 : ((x.toNat : Int) == 40) = false := by simp; omega
    have d41 : ((x.toNat : Int) == 41) = false := by simp; omega
    have d44 : ((x.toNat : Int) == 44) = false := by simp; omega
    have d46 : ((x.toNat : Int) == 46) = true := by simp; omega
    clear h
    go_enter Try.func15, Try.ntmps15
    repeat (first | go_skip | go_guarded | go_step)
    go_ret2
    exact ⟨by rw [HF.out]; rfl, rfl⟩
  · have hx58 : x = 58 := UInt8.toNat_inj.1 h
    have d32 : ((x.toNat : Int) == 32) = false := by simp; omega
    have d9 : ((x.toNat : Int) == 9) = false := by simp; omega
    have d10 : ((x.toNat : Int) == 10) = false := by simp; omega
    have d13 : ((x.toNat : Int) == 13) = false := by simp; omega
    have d37 : ((x.toNat : Int) == 37) = false := by simp; omega
    have d40 : ((x.toNat : Int) == 40) = false := by simp; omega
    have d41 : ((x.toNat : Int) == 41) = false := by simp; omega
    have d44 : ((x.toNat : Int) == 44) = false := by simp; omega
    have d46 : ((x.toNat : Int) == 46) = false := by simp; omega
    have l65 : decide ((65 : Int) ≤ (x.toNat : Int)) = false := by simp; omega
    have l90 : decide ((x.toNat : Int) ≤ 90) = true := by simp; omega
    by_cases hq : r.head? = some 45
    · have HF := Lib.hid (show frontN (tb s) = (9, 2) by rw [HT.out, hx58]; simp [frontN, isBl, wordN, markN, hq])
      have HPP := Lib.hid (show pfB s = true by rw [HP.out]; exact decide_eq_true ⟨hx58, hq⟩)
      clear h hx58 hq
      go_enter Try.func15, Try.ntmps15
      repeat (first | go_skip | go_guarded | go_step)
      refine (spre_any s w hs).mono ?_
      rintro e w1 ⟨rfl, rfl⟩
      rw [HPP.out]
      dsimp only
      repeat (first | go_skip | go_guarded | go_step)
      go_ret2
      exact ⟨by rw [HF.out]; rfl, rfl⟩
    · have ho : okB x = false := by rw [hx58]; decide
      have HF := Lib.hid (show frontN (tb s) = (0, 0) by
        rw [HT.out]
        exact front_not (by rw [hx58]; decide) (by rw [hx58]; decide) (markN_none (by rw [hx58]; decide) (by rw [hx58]; decide) (by rw [hx58]; decide) (by rw [hx58]; decide) (fun e => hq e.2)) ho)
      have HPP := Lib.hid (show pfB s = false by rw [HP.out]; exact decide_eq_false (fun e => hq e.2))
      have HO := Lib.hid (show okB (s[0]'h0) = false by rw [hx]; exact ho)
      clear h hx58 hq ho
      go_enter Try.func15, Try.ntmps15
      repeat (first | go_skip | go_guarded | go_step)
      refine (spre_any s w hs).mono ?_
      rintro e w1 ⟨rfl, rfl⟩
      rw [HPP.out]
      dsimp only
      repeat (first | go_skip | go_guarded | go_step)
      refine (isLetter_any s 0 w hs h0).mono ?_
      rintro e w1 ⟨rfl, rfl⟩
      rw [HO.out]
      dsimp only
      repeat (first | go_skip | go_guarded | go_step)
      go_ret2
      exact ⟨by rw [HF.out]; rfl, rfl⟩
  · have ho : okB x = true := by unfold okB; simp; omega
    have hx58 : x ≠ 58 := by rintro rfl; exact absurd h (by decide)
    have d32 : ((x.toNat : Int) == 32) = false := by simp; omega
    have d9 : ((x.toNat : Int) == 9) = false := by simp; omega
    have d10 : ((x.toNat : Int) == 10) = false := by simp; omega
    have d13 : ((x.toNat : Int) == 13) = false := by simp; omega
    have d37 : ((x.toNat : Int) == 37) = false := by simp; omega
    have d40 : ((x.toNat : Int) == 40) = false := by simp; omega
    have d41 : ((x.toNat : Int) == 41) = false := by simp; omega
    have d44 : ((x.toNat : Int) == 44) = false := by simp; omega
    have d46 : ((x.toNat : Int) == 46) = false := by simp; omega
    have l65 : decide ((65 : Int) ≤ (x.toNat : Int)) = true := by simp; omega
    have l90 : decide ((x.toNat : Int) ≤ 90) = true := by simp; omega
    have HPP := Lib.hid (show pfB s = false by rw [HP.out]; exact decide_eq_false (fun e => hx58 e.1))
    obtain ⟨n, hn⟩ : ∃ n, n = letN (tb s) := ⟨_, rfl⟩
    have hnl := letN_le (tb s)
    rw [tb_len, ← hn] at hnl
    have hn1 : 1 ≤ n := by rw [hn, HT.out]; unfold letN; rw [List.takeWhile_cons, ho]; simp
    have HF := Lib.hid (show frontN (tb s) = ((if 32 < n then 0 else ofK 2 (s.extract 0 n)), (if 32 < n then 0 else n)) by
      rw [ofK_kind HT.out hn1 (k := 2) (by rw [if_pos h])]
      have hh := frontN_let ho (r := r)
      rw [← HT.out, ← hn] at hh
      rw [hh]
      by_cases h32 : 32 < n
      · rw [if_pos h32, if_pos h32, if_pos h32]
      · rw [if_neg h32, if_neg h32, if_neg h32])
    have hez : (s.extract 0 n).size = n := by simp; omega
    have hof := ofLetters_any (s.extract 0 n) 2 b w HM.out (by omega) (by omega) (by
      rw [tb_extract, List.drop_zero, Nat.sub_zero, hn]
      exact all_letN _)
    rw [hez] at hof
    have hls := lettersSize_any s w hs
    rw [← hn] at hls
    have hrp := run_pre s n hnl w
    have HOF := Lib.hid hof
    have HLS := Lib.hid hls
    clear hof hls hn hez
    clear h hx58 ho
    go_enter Try.func15, Try.ntmps15
    repeat (first | go_skip | go_guarded | go_step)
    refine (spre_any s w hs).mono ?_
    rintro e w1 ⟨rfl, rfl⟩
    rw [HPP.out]
    dsimp only
    repeat (first | go_skip | go_guarded | go_step)
    refine (HLS.out).mono ?_
    rintro e w1 ⟨rfl, rfl⟩
    dsimp only
    repeat (first | go_skip | go_guarded | go_step)
    refine (HOF.out).mono ?_
    rintro e w1 ⟨rfl, rfl⟩
    dsimp only
    repeat (first | go_skip | go_guarded | go_step)
    go_ret2
    exact ⟨by rw [HF.out]; rfl, rfl⟩
  · obtain ⟨hnc, n32, n9, n10, n13, n37, n40, n41, n44, n46, n58⟩ := h
    have hx58 : x ≠ 58 := by rintro rfl; exact n58 rfl
    have d32 : ((x.toNat : Int) == 32) = false := by simp; omega
    have d9 : ((x.toNat : Int) == 9) = false := by simp; omega
    have d10 : ((x.toNat : Int) == 10) = false := by simp; omega
    have d13 : ((x.toNat : Int) == 13) = false := by simp; omega
    have d37 : ((x.toNat : Int) == 37) = false := by simp; omega
    have d40 : ((x.toNat : Int) == 40) = false := by simp; omega
    have d41 : ((x.toNat : Int) == 41) = false := by simp; omega
    have d44 : ((x.toNat : Int) == 44) = false := by simp; omega
    have d46 : ((x.toNat : Int) == 46) = false := by simp; omega
    have HPP := Lib.hid (show pfB s = false by rw [HP.out]; exact decide_eq_false (fun e => hx58 e.1))
    cases ho : okB x with
    | true =>
      have HO := Lib.hid (show okB (s[0]'h0) = true by rw [hx]; exact ho)
      obtain ⟨n, hn⟩ : ∃ n, n = letN (tb s) := ⟨_, rfl⟩
      have hnl := letN_le (tb s)
      rw [tb_len, ← hn] at hnl
      have hn1 : 1 ≤ n := by rw [hn, HT.out]; unfold letN; rw [List.takeWhile_cons, ho]; simp
      have HF := Lib.hid (show frontN (tb s) = ((if 32 < n then 0 else ofK 1 (s.extract 0 n)), (if 32 < n then 0 else n)) by
        rw [ofK_kind HT.out hn1 (k := 1) (by rw [if_neg hnc])]
        have hh := frontN_let ho (r := r)
        rw [← HT.out, ← hn] at hh
        rw [hh]
        by_cases h32 : 32 < n
        · rw [if_pos h32, if_pos h32, if_pos h32]
        · rw [if_neg h32, if_neg h32, if_neg h32])
      have hez : (s.extract 0 n).size = n := by simp; omega
      have hof := ofLetters_any (s.extract 0 n) 1 b w HM.out (by omega) (by omega) (by
        rw [tb_extract, List.drop_zero, Nat.sub_zero, hn]
        exact all_letN _)
      rw [hez] at hof
      have hls := lettersSize_any s w hs
      rw [← hn] at hls
      have hrp := run_pre s n hnl w
      have HOF := Lib.hid hof
      have HLS := Lib.hid hls
      clear hof hls hn hez
      rcases (by omega : x.toNat < 65 ∨ 90 < x.toNat) with hc | hc
      · have l65 : decide ((65 : Int) ≤ (x.toNat : Int)) = false := by simp; omega
        clear hnc n32 n9 n10 n13 n37 n40 n41 n44 n46 n58 hx58 ho hc
        go_enter Try.func15, Try.ntmps15
        repeat (first | go_skip | go_guarded | go_step)
        refine (spre_any s w hs).mono ?_
        rintro e w1 ⟨rfl, rfl⟩
        rw [HPP.out]
        dsimp only
        repeat (first | go_skip | go_guarded | go_step)
        refine (isLetter_any s 0 w hs h0).mono ?_
        rintro e w1 ⟨rfl, rfl⟩
        rw [HO.out]
        dsimp only
        repeat (first | go_skip | go_guarded | go_step)
        refine (HLS.out).mono ?_
        rintro e w1 ⟨rfl, rfl⟩
        dsimp only
        repeat (first | go_skip | go_guarded | go_step)
        refine (HOF.out).mono ?_
        rintro e w1 ⟨rfl, rfl⟩
        dsimp only
        repeat (first | go_skip | go_guarded | go_step)
        go_ret2
        exact ⟨by rw [HF.out]; rfl, rfl⟩
      · have l65 : decide ((65 : Int) ≤ (x.toNat : Int)) = true := by simp; omega
        have l90 : decide ((x.toNat : Int) ≤ 90) = false := by simp; omega
        clear hnc n32 n9 n10 n13 n37 n40 n41 n44 n46 n58 hx58 ho hc
        go_enter Try.func15, Try.ntmps15
        repeat (first | go_skip | go_guarded | go_step)
        refine (spre_any s w hs).mono ?_
        rintro e w1 ⟨rfl, rfl⟩
        rw [HPP.out]
        dsimp only
        repeat (first | go_skip | go_guarded | go_step)
        refine (isLetter_any s 0 w hs h0).mono ?_
        rintro e w1 ⟨rfl, rfl⟩
        rw [HO.out]
        dsimp only
        repeat (first | go_skip | go_guarded | go_step)
        refine (HLS.out).mono ?_
        rintro e w1 ⟨rfl, rfl⟩
        dsimp only
        repeat (first | go_skip | go_guarded | go_step)
        refine (HOF.out).mono ?_
        rintro e w1 ⟨rfl, rfl⟩
        dsimp only
        repeat (first | go_skip | go_guarded | go_step)
        go_ret2
        exact ⟨by rw [HF.out]; rfl, rfl⟩
    | false =>
      have HO := Lib.hid (show okB (s[0]'h0) = false by rw [hx]; exact ho)
      have HF := Lib.hid (show frontN (tb s) = (0, 0) by
        rw [HT.out]
        have nn : ∀ c : UInt8, x.toNat ≠ c.toNat → x ≠ c := fun c h e => h (by rw [e])
        refine front_not ?_ (nn 37 n37) (markN_none (nn 40 n40) (nn 41 n41) (nn 44 n44) (nn 46 n46) (fun e => hx58 e.1)) ho
        unfold isBl
        rw [beq_false_of_ne (nn 32 n32), beq_false_of_ne (nn 9 n9), beq_false_of_ne (nn 10 n10), beq_false_of_ne (nn 13 n13)]
        rfl)
      rcases (by omega : x.toNat < 65 ∨ 90 < x.toNat) with hc | hc
      · have l65 : decide ((65 : Int) ≤ (x.toNat : Int)) = false := by simp; omega
        clear hnc n32 n9 n10 n13 n37 n40 n41 n44 n46 n58 hx58 ho hc
        go_enter Try.func15, Try.ntmps15
        repeat (first | go_skip | go_guarded | go_step)
        refine (spre_any s w hs).mono ?_
        rintro e w1 ⟨rfl, rfl⟩
        rw [HPP.out]
        dsimp only
        repeat (first | go_skip | go_guarded | go_step)
        refine (isLetter_any s 0 w hs h0).mono ?_
        rintro e w1 ⟨rfl, rfl⟩
        rw [HO.out]
        dsimp only
        repeat (first | go_skip | go_guarded | go_step)
        go_ret2
        exact ⟨by rw [HF.out]; rfl, rfl⟩
      · have l65 : decide ((65 : Int) ≤ (x.toNat : Int)) = true := by simp; omega
        have l90 : decide ((x.toNat : Int) ≤ 90) = false := by simp; omega
        clear hnc n32 n9 n10 n13 n37 n40 n41 n44 n46 n58 hx58 ho hc
        go_enter Try.func15, Try.ntmps15
        repeat (first | go_skip | go_guarded | go_step)
        refine (spre_any s w hs).mono ?_
        rintro e w1 ⟨rfl, rfl⟩
        rw [HPP.out]
        dsimp only
        repeat (first | go_skip | go_guarded | go_step)
        refine (isLetter_any s 0 w hs h0).mono ?_
        rintro e w1 ⟨rfl, rfl⟩
        rw [HO.out]
        dsimp only
        repeat (first | go_skip | go_guarded | go_step)
        go_ret2
        exact ⟨by rw [HF.out]; rfl, rfl⟩
end Go.Proofs.Ytjafbkkdjmlaoaa
