/- Layer 7 (lex), the document's: letters, blanks. -/
import Derived.Test.YtjafbkkdjmlaoaaLxN
import Derived.RegionTactic
import Derived.Deep.QuietTactic
import Derived.BigQuiet
import Derived.Laws.DeepStrings4
set_option linter.unusedVariables false
set_option linter.unusedSimpArgs false
namespace Go.Proofs.Ytjafbkkdjmlaoaa
open Go Go.RowKit

/-- A text's bytes. -/
abbrev tb (s : ByteArray) : List UInt8 := s.data.toList
theorem tb_len (s : ByteArray) : (tb s).length = s.size := by simp [tb]
theorem tb_at {s : ByteArray} {k : Nat} (hk : k < s.size) : (tb s).drop k = s[k] :: (tb s).drop (k + 1) := by
  have h : k < (tb s).length := by rw [tb_len]; exact hk
  rw [List.drop_eq_getElem_cons h]
  simp [tb, ByteArray.getElem_eq_getElem_data]
theorem tb_extract (s : ByteArray) (a b : Nat) : tb (s.extract a b) = ((tb s).drop a).take (b - a) := by
  simp [tb, ByteArray.data_extract, List.drop_take]
/-- A part of a text. -/
theorem run_part (s : ByteArray) (a b : Nat) (i j : Int) (hi : i = (a : Int)) (hj : j = (b : Int)) (h : a ≤ b) (hb : b ≤ s.size) (w : World) :
    (Instr.slice 9 (sv s) (some (.int .i64 i)) (some (.int .i64 j)) none).run Try.prog w = .ok (sv (s.extract a b)) w := by
  subst hi hj
  rw [run_slice_string_if w _ _ _ _ _ _ Try.underlying9]
  rw [if_pos (by omega), if_pos (by omega), Int.toNat_natCast, Int.toNat_natCast]
theorem mayB_one {s : ByteArray} {k : Nat} (hk : k < s.size) : mayB (s.extract k (k + 1)) = okB s[k] := by
  have h1 := tb_extract s k (k + 1)
  rw [tb_at hk, show k + 1 - k = 1 by omega] at h1
  simp only [List.take_succ_cons, List.take_zero] at h1
  have h2 := tb_len (s.extract k (k + 1))
  rw [h1] at h2
  unfold mayB
  rw [show (s.extract k (k + 1)).data.toList = [s[k]] from h1, ← h2]
  simp

set_option maxRecDepth 100000 in
set_option maxHeartbeats 4000000 in
theorem rLetters_any (s : ByteArray) (a : Nat) (w : World) (hs : s.size ≤ 1099511627776) (ha : a ≤ s.size) :
    Calls Try.prog 19 #[sv s, .int .i64 (a : Int)] w fun e w' => e = .returned (.int .i64 (letN ((tb s).drop a) : Int)) ∧ w = w' := by
  go_enter Try.func19, Try.ntmps19
  repeat (first | go_skip | go_guarded | go_step)
  go_loop [5] (fun q => ∃ k : Nat, a ≤ k ∧ k ≤ s.size ∧ q = .int .i64 (k : Int) ∧ letN ((tb s).drop a) = (k - a) + letN ((tb s).drop k)) (fun q => s.size - (intOf q).toNat)
  case atStart => exact ⟨a, by omega, ha, rfl, by omega⟩
  case round =>
    obtain ⟨k, h1, h2, rfl, hl⟩ := hrel
    have HL := Lib.hid hl
    clear hl
    by_cases hlt : k < s.size
    · have hci : (k : Int) < (s.size : Int) := by omega
      have HM := Lib.hid (mayB_one hlt)
      have HT := Lib.hid (tb_at hlt)
      have hsl := run_part s k (k + 1) (k : Int) ((k : Int) + 1) rfl (by omega) (by omega) (by omega) w
      repeat (first | go_skip | go_guarded | go_step)
      refine (rMay_any (s.extract k (k + 1)) w (by simp; omega)).mono ?_
      rintro e w1 ⟨rfl, rfl⟩
      rw [HM.out]
      dsimp only
      cases ho : okB s[k] with
      | true =>
        have HO := Lib.hid ho
        clear ho
        repeat (first | go_skip | go_guarded | go_step)
        go_round
        case rel => exact ⟨k + 1, by omega, by omega, by go_num, by rw [HL.out, HT.out]; unfold letN; rw [List.takeWhile_cons, HO.out]; simp; omega⟩
        case measure => simp [intOf] <;> omega
      | false =>
        have HZ := Lib.hid (show letN ((tb s).drop a) = k - a by rw [HL.out, HT.out]; unfold letN; rw [List.takeWhile_cons, ho]; simp)
        clear ho
        repeat (first | go_skip | go_guarded | go_step)
        go_ret
        exact ⟨by rw [HZ.out]; simp; omega, rfl⟩
    · obtain rfl : k = s.size := by omega
      repeat (first | go_skip | go_guarded | go_step)
      have HZ := Lib.hid (show letN ((tb s).drop a) = s.size - a by rw [HL.out, List.drop_of_length_le (by rw [tb_len]; omega)]; simp [letN])
      go_ret
      exact ⟨by rw [HZ.out]; simp; omega, rfl⟩
end Go.Proofs.Ytjafbkkdjmlaoaa
