/- Layer 4 (syms): the program's May: which names may be. -/
import Derived.Test.YtjafbkkdjmlaoaaSyM
set_option linter.unusedVariables false
set_option linter.unusedSimpArgs false
namespace Go.Proofs.Ytjafbkkdjmlaoaa
open Go Go.RowKit

set_option maxRecDepth 100000 in
set_option maxHeartbeats 1000000 in
theorem stand_any (x : UInt8) (w : World) :
    Calls Try.prog 37 #[.int .u8 (x.toNat : Int)] w fun e w' => e = .returned (.bool (okB x)) ∧ w = w' := by
  have hx256 := u8_lt x
  rcases (by omega : (0 ≤ x.toNat ∧ x.toNat ≤ 47) ∨ (48 ≤ x.toNat ∧ x.toNat ≤ 57) ∨ (58 ≤ x.toNat ∧ x.toNat ≤ 64) ∨ (65 ≤ x.toNat ∧ x.toNat ≤ 90) ∨ (91 ≤ x.toNat ∧ x.toNat ≤ 94) ∨ (95 ≤ x.toNat ∧ x.toNat ≤ 95) ∨ (96 ≤ x.toNat ∧ x.toNat ≤ 96) ∨ (97 ≤ x.toNat ∧ x.toNat ≤ 122) ∨ (123 ≤ x.toNat ∧ x.toNat ≤ 255)) with hc | hc | hc | hc | hc | hc | hc | hc | hc
  · have d1 : decide ((97 : Int) ≤ (x.toNat : Int)) = false := by simp; omega
    have d2 : decide ((x.toNat : Int) ≤ 122) = true := by simp; omega
    have d3 : decide ((65 : Int) ≤ (x.toNat : Int)) = false := by simp; omega
    have d4 : decide ((x.toNat : Int) ≤ 90) = true := by simp; omega
    have d5 : decide ((48 : Int) ≤ (x.toNat : Int)) = false := by simp; omega
    have d6 : decide ((x.toNat : Int) ≤ 57) = true := by simp; omega
    have d7 : ((x.toNat : Int) == 95) = false := by simp; omega
    have ho : okB x = false := by unfold okB; simp; omega
    have HO := Lib.hid ho
    clear ho hc
    go_enter Try.func37, Try.ntmps37
    go_wp2
    go_ret
    exact ⟨by rw [HO.out]; rfl, rfl⟩
  · have d1 : decide ((97 : Int) ≤ (x.toNat : Int)) = false := by simp; omega
    have d2 : decide ((x.toNat : Int) ≤ 122) = true := by simp; omega
    have d3 : decide ((65 : Int) ≤ (x.toNat : Int)) = false := by simp; omega
    have d4 : decide ((x.toNat : Int) ≤ 90) = true := by simp; omega
    have d5 : decide ((48 : Int) ≤ (x.toNat : Int)) = true := by simp; omega
    have d6 : decide ((x.toNat : Int) ≤ 57) = true := by simp; omega
    have d7 : ((x.toNat : Int) == 95) = false := by simp; omega
    have ho : okB x = true := by unfold okB; simp; omega
    have HO := Lib.hid ho
    clear ho hc
    go_enter Try.func37, Try.ntmps37
    go_wp2
    go_ret
    exact ⟨by rw [HO.out]; rfl, rfl⟩
  · have d1 : decide ((97 : Int) ≤ (x.toNat : Int)) = false := by simp; omega
    have d2 : decide ((x.toNat : Int) ≤ 122) = true := by simp; omega
    have d3 : decide ((65 : Int) ≤ (x.toNat : Int)) = false := by simp; omega
    have d4 : decide ((x.toNat : Int) ≤ 90) = true := by simp; omega
    have d5 : decide ((48 : Int) ≤ (x.toNat : Int)) = true := by simp; omega
    have d6 : decide ((x.toNat : Int) ≤ 57) = false := by simp; omega
    have d7 : ((x.toNat : Int) == 95) = false := by simp; omega
    have ho : okB x = false := by unfold okB; simp; omega
    have HO := Lib.hid ho
    clear ho hc
    go_enter Try.func37, Try.ntmps37
    go_wp2
    go_ret
    exact ⟨by rw [HO.out]; rfl, rfl⟩
  · have d1 : decide ((97 : Int) ≤ (x.toNat : Int)) = false := by simp; omega
    have d2 : decide ((x.toNat : Int) ≤ 122) = true := by simp; omega
    have d3 : decide ((65 : Int) ≤ (x.toNat : Int)) = true := by simp; omega
    have d4 : decide ((x.toNat : Int) ≤ 90) = true := by simp; omega
    have d5 : decide ((48 : Int) ≤ (x.toNat : Int)) = true := by simp; omega
    have d6 : decide ((x.toNat : Int) ≤ 57) = false := by simp; omega
    have d7 : ((x.toNat : Int) == 95) = false := by simp; omega
    have ho : okB x = true := by unfold okB; simp; omega
    have HO := Lib.hid ho
    clear ho hc
    go_enter Try.func37, Try.ntmps37
    go_wp2
    go_ret
    exact ⟨by rw [HO.out]; rfl, rfl⟩
  · have d1 : decide ((97 : Int) ≤ (x.toNat : Int)) = false := by simp; omega
    have d2 : decide ((x.toNat : Int) ≤ 122) = true := by simp; omega
    have d3 : decide ((65 : Int) ≤ (x.toNat : Int)) = true := by simp; omega
    have d4 : decide ((x.toNat : Int) ≤ 90) = false := by simp; omega
    have d5 : decide ((48 : Int) ≤ (x.toNat : Int)) = true := by simp; omega
    have d6 : decide ((x.toNat : Int) ≤ 57) = false := by simp; omega
    have d7 : ((x.toNat : Int) == 95) = false := by simp; omega
    have ho : okB x = false := by unfold okB; simp; omega
    have HO := Lib.hid ho
    clear ho hc
    go_enter Try.func37, Try.ntmps37
    go_wp2
    go_ret
    exact ⟨by rw [HO.out]; rfl, rfl⟩
  · have d1 : decide ((97 : Int) ≤ (x.toNat : Int)) = false := by simp; omega
    have d2 : decide ((x.toNat : Int) ≤ 122) = true := by simp; omega
    have d3 : decide ((65 : Int) ≤ (x.toNat : Int)) = true := by simp; omega
    have d4 : decide ((x.toNat : Int) ≤ 90) = false := by simp; omega
    have d5 : decide ((48 : Int) ≤ (x.toNat : Int)) = true := by simp; omega
    have d6 : decide ((x.toNat : Int) ≤ 57) = false := by simp; omega
    have d7 : ((x.toNat : Int) == 95) = true := by simp; omega
    have ho : okB x = true := by unfold okB; simp; omega
    have HO := Lib.hid ho
    clear ho hc
    go_enter Try.func37, Try.ntmps37
    go_wp2
    go_ret
    exact ⟨by rw [HO.out]; rfl, rfl⟩
  · have d1 : decide ((97 : Int) ≤ (x.toNat : Int)) = false := by simp; omega
    have d2 : decide ((x.toNat : Int) ≤ 122) = true := by simp; omega
    have d3 : decide ((65 : Int) ≤ (x.toNat : Int)) = true := by simp; omega
    have d4 : decide ((x.toNat : Int) ≤ 90) = false := by simp; omega
    have d5 : decide ((48 : Int) ≤ (x.toNat : Int)) = true := by simp; omega
    have d6 : decide ((x.toNat : Int) ≤ 57) = false := by simp; omega
    have d7 : ((x.toNat : Int) == 95) = false := by simp; omega
    have ho : okB x = false := by unfold okB; simp; omega
    have HO := Lib.hid ho
    clear ho hc
    go_enter Try.func37, Try.ntmps37
    go_wp2
    go_ret
    exact ⟨by rw [HO.out]; rfl, rfl⟩
  · have d1 : decide ((97 : Int) ≤ (x.toNat : Int)) = true := by simp; omega
    have d2 : decide ((x.toNat : Int) ≤ 122) = true := by simp; omega
    have d3 : decide ((65 : Int) ≤ (x.toNat : Int)) = true := by simp; omega
    have d4 : decide ((x.toNat : Int) ≤ 90) = false := by simp; omega
    have d5 : decide ((48 : Int) ≤ (x.toNat : Int)) = true := by simp; omega
    have d6 : decide ((x.toNat : Int) ≤ 57) = false := by simp; omega
    have d7 : ((x.toNat : Int) == 95) = false := by simp; omega
    have ho : okB x = true := by unfold okB; simp; omega
    have HO := Lib.hid ho
    clear ho hc
    go_enter Try.func37, Try.ntmps37
    go_wp2
    go_ret
    exact ⟨by rw [HO.out]; rfl, rfl⟩
  · have d1 : decide ((97 : Int) ≤ (x.toNat : Int)) = true := by simp; omega
    have d2 : decide ((x.toNat : Int) ≤ 122) = false := by simp; omega
    have d3 : decide ((65 : Int) ≤ (x.toNat : Int)) = true := by simp; omega
    have d4 : decide ((x.toNat : Int) ≤ 90) = false := by simp; omega
    have d5 : decide ((48 : Int) ≤ (x.toNat : Int)) = true := by simp; omega
    have d6 : decide ((x.toNat : Int) ≤ 57) = false := by simp; omega
    have d7 : ((x.toNat : Int) == 95) = false := by simp; omega
    have ho : okB x = false := by unfold okB; simp; omega
    have HO := Lib.hid ho
    clear ho hc
    go_enter Try.func37, Try.ntmps37
    go_wp2
    go_ret
    exact ⟨by rw [HO.out]; rfl, rfl⟩

set_option maxRecDepth 100000 in
set_option maxHeartbeats 1000000 in
theorem may_any (s : ByteArray) (w : World) (hs : s.size ≤ 1099511627776) :
    Calls Try.prog 34 #[sv s] w fun e w' => e = .returned (.bool (mayB s)) ∧ w = w' := by
  by_cases h1 : 1 ≤ s.size
  · have e1 : decide ((s.size : Int) < 1) = false := by simp; omega
    by_cases h2 : s.size ≤ 32
    · have e2 : decide ((s.size : Int) > 32) = false := by simp; omega
      have e3 : decide ((32 : Int) < (s.size : Int)) = false := by simp; omega
      go_enter Try.func34, Try.ntmps34
      repeat go_step
      go_loop [14] (fun p => ∃ i : Nat, i ≤ s.size ∧ p = .int .i64 (i : Int) ∧ (s.data.toList.take i).all okB = true) (fun p => s.size - (intOf p).toNat)
      case atStart => exact ⟨0, by omega, rfl, by simp⟩
      case round =>
        obtain ⟨i, hi, rfl, hal⟩ := hrel
        by_cases hlt : i < s.size
        · have hci : (i : Int) < (s.size : Int) := by omega
          obtain ⟨x, hx⟩ : ∃ x, s[i]'hlt = x := ⟨_, rfl⟩
          have hxi : s.data.toList[i]? = some x := by
            rw [← hx]
            have hl : i < s.data.toList.length := by simpa using hlt
            rw [List.getElem?_eq_getElem hl]
            simp [ByteArray.getElem_eq_getElem_data]
          have HX := Lib.hid hxi
          have HAL := Lib.hid hal
          clear hxi hal
          repeat go_step
          refine (stand_any x _).mono ?_
          rintro e w1 ⟨rfl, rfl⟩
          dsimp only
          cases ho : okB x with
          | false =>
            have HO := Lib.hid ho
            clear ho
            go_wp2
            go_ret
            exact ⟨by unfold mayB; rw [all_not _ _ _ HX.out HO.out]; rfl, rfl⟩
          | true =>
            have HO := Lib.hid ho
            clear ho
            go_wp2
            go_round
            case rel => exact ⟨i + 1, by omega, by go_num, by rw [all_take _ _ _ HX.out, HAL.out, HO.out]; rfl⟩
            case measure => simp [intOf]; omega
        · obtain rfl : i = s.size := by omega
          have ha : s.data.toList.all okB = true := by rwa [List.take_of_length_le (by simp)] at hal
          have HA := Lib.hid ha
          clear hal ha hlt
          go_wp2
          go_ret
          exact ⟨by unfold mayB; rw [HA.out, decide_eq_true h1, decide_eq_true h2]; rfl, rfl⟩
    · have e2 : decide ((s.size : Int) > 32) = true := by simp; omega
      have e3 : decide ((32 : Int) < (s.size : Int)) = true := by simp; omega
      have hm : mayB s = false := by unfold mayB; rw [decide_eq_false h2]; simp
      have HM := Lib.hid hm
      clear hm
      go_enter Try.func34, Try.ntmps34
      go_wp2
      go_ret
      exact ⟨by rw [HM.out]; rfl, rfl⟩
  · have e1 : decide ((s.size : Int) < 1) = true := by simp; omega
    have hm : mayB s = false := by unfold mayB; rw [decide_eq_false h1]; simp
    have HM := Lib.hid hm
    clear hm
    go_enter Try.func34, Try.ntmps34
    go_wp2
    go_ret
    exact ⟨by rw [HM.out]; rfl, rfl⟩
end Go.Proofs.Ytjafbkkdjmlaoaa
