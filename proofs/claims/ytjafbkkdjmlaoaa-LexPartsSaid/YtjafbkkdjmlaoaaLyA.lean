/- Layer 7 (lex), the program's: letters, lines, and the map of the words that mean something. -/
import Derived.Test.YtjafbkkdjmlaoaaLyM
import Derived.Test.YtjafbkkdjmlaoaaSyX
import Derived.Test.YtjafbkkdjmlaoaaSyV
import Derived.Maps.OwnSet
import Derived.Maps.OwnOps
import Derived.StringKeys
import Derived.Laws.Externs
set_option linter.unusedVariables false
set_option linter.unusedSimpArgs false
namespace Go.Proofs.Ytjafbkkdjmlaoaa
open Go Go.RowKit

set_option maxRecDepth 100000 in
set_option maxHeartbeats 2000000 in
theorem isLetter_any (s : ByteArray) (k : Nat) (w : World) (hs : s.size ≤ 1099511627776) (hk : k < s.size) :
    Calls Try.prog 26 #[sv s, .int .i64 (k : Int)] w fun e w' => e = .returned (.bool (okB s[k])) ∧ w = w' := by
  have HM := Lib.hid (mayB_one hk)
  have hsl := run_part s k (k + 1) (k : Int) ((k : Int) + 1) rfl (by omega) (by omega) (by omega) w
  have hci : (k : Int) < (s.size : Int) := by omega
  go_enter Try.func26, Try.ntmps26
  repeat (first | go_skip | go_guarded | go_step)
  refine (may_any (s.extract k (k + 1)) w (by simp; omega)).mono ?_
  rintro e w1 ⟨rfl, rfl⟩
  dsimp only
  repeat (first | go_skip | go_guarded | go_step)
  go_ret
  exact ⟨by rw [HM.out]; rfl, rfl⟩

set_option maxRecDepth 100000 in
set_option maxHeartbeats 4000000 in
theorem lettersSize_any (s : ByteArray) (w : World) (hs : s.size ≤ 1099511627776) :
    Calls Try.prog 28 #[sv s] w fun e w' => e = .returned (.int .i64 (letN (tb s) : Int)) ∧ w = w' := by
  go_enter Try.func28, Try.ntmps28
  repeat (first | go_skip | go_guarded | go_step)
  go_loop [3] (fun q => ∃ k : Nat, k ≤ s.size ∧ q = .int .i64 (k : Int) ∧ letN (tb s) = k + letN ((tb s).drop k)) (fun q => s.size - (intOf q).toNat)
  case atStart => exact ⟨0, by omega, rfl, by rw [List.drop_zero, Nat.zero_add]⟩
  case round =>
    obtain ⟨k, h2, rfl, hl⟩ := hrel
    have HL := Lib.hid hl
    clear hl
    by_cases hlt : k < s.size
    · have hci : (k : Int) < (s.size : Int) := by omega
      have HT := Lib.hid (tb_at hlt)
      repeat (first | go_skip | go_guarded | go_step)
      refine (isLetter_any s k w hs hlt).mono ?_
      rintro e w1 ⟨rfl, rfl⟩
      dsimp only
      cases ho : okB s[k] with
      | true =>
        have HO := Lib.hid ho
        clear ho
        repeat (first | go_skip | go_guarded | go_step)
        go_round
        case rel => exact ⟨k + 1, by omega, by go_num, by rw [HL.out, HT.out]; unfold letN; rw [List.takeWhile_cons, HO.out]; simp; omega⟩
        case measure => simp [intOf] <;> omega
      | false =>
        have HZ := Lib.hid (show letN (tb s) = k by rw [HL.out, HT.out]; unfold letN; rw [List.takeWhile_cons, ho]; simp)
        clear ho
        repeat (first | go_skip | go_guarded | go_step)
        go_ret
        exact ⟨by rw [HZ.out]; rfl, rfl⟩
    · obtain rfl : k = s.size := by omega
      have HZ := Lib.hid (show letN (tb s) = s.size by rw [HL.out, List.drop_of_length_le (by rw [tb_len]; omega)]; simp [letN])
      repeat (first | go_skip | go_guarded | go_step)
      go_ret
      exact ⟨by rw [HZ.out]; rfl, rfl⟩

theorem run_idxB (s : ByteArray) (c : Int) (w : World) : (callFunc 38 #[sv s, .int .u8 c]).run Try.prog w = .ok (.value (.int .i64 (Lib.indexByte (tb s) c.toNat.toUInt8))) w := by
  rw [run_callFunc_extern Try.func38 (by kernel_rfl) (by kernel_rfl) (by kernel_rfl) (e := Extern.BytealgIndexByte.indexByte) (by kernel_rfl), Lib.run_indexByteString]
  rfl

set_option maxRecDepth 100000 in
set_option maxHeartbeats 2000000 in
theorem lidx_any (s : ByteArray) (w : World) :
    Calls Try.prog 36 #[sv s, .int .u8 10] w fun e w' => e = .returned (.int .i64 (Lib.indexByte (tb s) 10)) ∧ w = w' := by
  have hx := run_idxB s 10 w
  go_enter Try.func36, Try.ntmps36
  repeat (first | go_skip | go_guarded | go_step)
  go_ret
  exact ⟨rfl, rfl⟩
set_option maxRecDepth 100000 in
set_option maxHeartbeats 2000000 in
theorem sidx_any (s : ByteArray) (w : World) :
    Calls Try.prog 32 #[sv s, .int .u8 10] w fun e w' => e = .returned (.int .i64 (Lib.indexByte (tb s) 10)) ∧ w = w' := by
  go_enter Try.func32, Try.ntmps32
  repeat (first | go_skip | go_guarded | go_step)
  refine (lidx_any s w).mono ?_
  rintro e w1 ⟨rfl, rfl⟩
  dsimp only
  repeat (first | go_skip | go_guarded | go_step)
  go_ret
  exact ⟨rfl, rfl⟩

set_option maxRecDepth 100000 in
set_option maxHeartbeats 2000000 in
theorem lineSize_any (s : ByteArray) (w : World) (hs : s.size ≤ 1099511627776) :
    Calls Try.prog 24 #[sv s] w fun e w' => e = .returned (.int .i64 (lineN (tb s) : Int)) ∧ w = w' := by
  have h1 := indexByte_line (tb s)
  rw [tb_len] at h1
  have h2 := lineN_le (tb s)
  rw [tb_len] at h2
  obtain ⟨n, hn⟩ : ∃ n, n = lineN (tb s) := ⟨_, rfl⟩
  rw [← hn] at h1 h2 ⊢
  clear hn
  by_cases hb : n = s.size
  · rw [if_pos hb] at h1
    have H1 := Lib.hid h1
    have HB := Lib.hid hb
    clear h1 hb h2
    go_enter Try.func24, Try.ntmps24
    repeat (first | go_skip | go_guarded | go_step)
    refine (sidx_any s w).mono ?_
    rintro e w1 ⟨rfl, rfl⟩
    rw [H1.out]
    dsimp only
    repeat (first | go_skip | go_guarded | go_step)
    go_ret
    exact ⟨by rw [HB.out]; rfl, rfl⟩
  · rw [if_neg hb] at h1
    have H1 := Lib.hid h1
    have d1 : decide ((0 : Int) ≤ (n : Int)) = true := by simp
    clear h1 hb
    go_enter Try.func24, Try.ntmps24
    repeat (first | go_skip | go_guarded | go_step)
    refine (sidx_any s w).mono ?_
    rintro e w1 ⟨rfl, rfl⟩
    rw [H1.out]
    dsimp only
    repeat (first | go_skip | go_guarded | go_step)
    go_ret
    exact ⟨rfl, rfl⟩

/-- Does a text begin with ':-'? -/
def pfB (s : ByteArray) : Bool := decide ((tb s).take 2 = [58, 45])
set_option maxRecDepth 100000 in
set_option maxHeartbeats 2000000 in
theorem lpre_any (s : ByteArray) (w : World) (hs : s.size ≤ 1099511627776) :
    Calls Try.prog 33 #[sv s, sv ⟨#[58, 45]⟩] w fun e w' => e = .returned (.bool (pfB s)) ∧ w = w' := by
  by_cases h2 : 2 ≤ s.size
  · have d1 : decide ((2 : Int) ≤ (s.size : Int)) = true := by simp; omega
    have hcmp : ((s.extract 0 2).toList == [58, 45]) = pfB s := by
      rw [ByteArray.toList_eq]
      have h := tb_extract s 0 2
      rw [List.drop_zero] at h
      unfold pfB
      rw [show (s.extract 0 2).data.toList = (tb s).take 2 from h]
      by_cases he : (tb s).take 2 = [58, 45]
      · rw [he]; rfl
      · rw [beq_false_of_ne he, decide_eq_false he]
    generalize pfB s = p at hcmp ⊢
    have d2 : (2 : Int) ≤ (s.size : Int) := by omega
    go_enter Try.func33, Try.ntmps33
    repeat (first | go_skip | go_guarded | go_step)
    go_ret
    exact ⟨rfl, rfl⟩
  · have d1 : decide ((2 : Int) ≤ (s.size : Int)) = false := by simp; omega
    have HP := Lib.hid (show pfB s = false by
      unfold pfB
      rw [decide_eq_false_iff_not]
      intro he
      have := congrArg List.length he
      rw [List.length_take, tb_len] at this
      simp at this
      omega)
    go_enter Try.func33, Try.ntmps33
    repeat (first | go_skip | go_guarded | go_step)
    go_ret
    exact ⟨by rw [HP.out]; rfl, rfl⟩
set_option maxRecDepth 100000 in
set_option maxHeartbeats 2000000 in
theorem spre_any (s : ByteArray) (w : World) (hs : s.size ≤ 1099511627776) :
    Calls Try.prog 25 #[sv s, sv ⟨#[58, 45]⟩] w fun e w' => e = .returned (.bool (pfB s)) ∧ w = w' := by
  go_enter Try.func25, Try.ntmps25
  repeat (first | go_skip | go_guarded | go_step)
  refine (lpre_any s w hs).mono ?_
  rintro e w1 ⟨rfl, rfl⟩
  dsimp only
  repeat (first | go_skip | go_guarded | go_step)
  go_ret
  exact ⟨rfl, rfl⟩
end Go.Proofs.Ytjafbkkdjmlaoaa
