/- Layer 4 (syms): names; own rows of strings; the document's May. -/
import Derived.Test.YtjafbkkdjmlaoaaAid
import Derived.Test.YtjafbkkdjmlaoaaBlk
import Derived.Test.YtjafbkkdjmlaoaaChecked
import Derived.Maps.StringElems
set_option linter.unusedVariables false
set_option linter.unusedSimpArgs false
namespace Go.Proofs.Ytjafbkkdjmlaoaa
open Go Go.RowKit

/-- A name, as a value. -/
abbrev sv (s : ByteArray) : Value := .string s
def okB (c : UInt8) : Bool := (97 ≤ c.toNat && c.toNat ≤ 122) || (65 ≤ c.toNat && c.toNat ≤ 90) || (48 ≤ c.toNat && c.toNat ≤ 57) || c.toNat == 95
def mayB (s : ByteArray) : Bool := s.data.toList.all okB && (1 ≤ s.size && s.size ≤ 32)
theorem all_take (l : List UInt8) (i : Nat) (x : UInt8) (h : l[i]? = some x) : (l.take (i + 1)).all okB = ((l.take i).all okB && okB x) := by
  rw [List.take_add_one, h]
  simp
theorem all_not (l : List UInt8) (i : Nat) (x : UInt8) (h : l[i]? = some x) (hx : okB x = false) : l.all okB = false := by
  rw [List.all_eq_false]
  exact ⟨x, List.mem_of_getElem? h, by simp [hx]⟩

set_option maxRecDepth 100000 in
set_option maxHeartbeats 1000000 in
theorem rMay_any (s : ByteArray) (w : World) (hs : s.size ≤ 1099511627776) :
    Calls Try.prog 30 #[sv s] w fun e w' => e = .returned (.bool (mayB s)) ∧ w = w' := by
  go_enter Try.func30, Try.ntmps30
  repeat go_step
  go_loop [3] (fun p => ∃ i : Nat, i ≤ s.size ∧ p = .int .i64 (i : Int) ∧ (s.data.toList.take i).all okB = true) (fun p => s.size - (intOf p).toNat)
  case atStart => exact ⟨0, by omega, rfl, by simp⟩
  case round =>
    obtain ⟨i, hi, rfl, hal⟩ := hrel
    by_cases hlt : i < s.size
    · have hci : (i : Int) < (s.size : Int) := by omega
      obtain ⟨x, hx⟩ : ∃ x, s[i]'hlt = x := ⟨_, rfl⟩
      have hxi : s.data.toList[i]? = some x := by
        rw [← hx]
        have hl : i < s.data.toList.length := by simpa using hlt
        rw [List.getElem?_eq_getElem hl]
        simp [ByteArray.getElem_eq_getElem_data]
      have HX := Lib.hid hxi
      have HAL := Lib.hid hal
      clear hxi hal
      rcases (by omega : (x.toNat < 48) ∨ (48 ≤ x.toNat ∧ x.toNat ≤ 57) ∨ (58 ≤ x.toNat ∧ x.toNat ≤ 64) ∨ (65 ≤ x.toNat ∧ x.toNat ≤ 90) ∨ (91 ≤ x.toNat ∧ x.toNat ≤ 94) ∨ (x.toNat = 95) ∨ (x.toNat = 96) ∨ (97 ≤ x.toNat ∧ x.toNat ≤ 122) ∨ (123 ≤ x.toNat)) with hc | hc | hc | hc | hc | hc | hc | hc | hc
      · have d1 : decide ((97 : Int) ≤ (x.toNat : Int)) = false := by simp; omega
        have d2 : decide ((x.toNat : Int) ≤ 122) = true := by simp; omega
        have d3 : decide ((65 : Int) ≤ (x.toNat : Int)) = false := by simp; omega
        have d4 : decide ((x.toNat : Int) ≤ 90) = true := by simp; omega
        have d5 : decide ((48 : Int) ≤ (x.toNat : Int)) = false := by simp; omega
        have d6 : decide ((x.toNat : Int) ≤ 57) = true := by simp; omega
        have d7 : ((x.toNat : Int) != 95) = true := by simp; omega
        have ho : okB x = false := by unfold okB; simp; omega
        have HO := Lib.hid ho
        clear ho hc
        go_wp2
        go_ret
        exact ⟨by unfold mayB; rw [all_not _ _ _ HX.out HO.out]; rfl, rfl⟩
      · have d1 : decide ((97 : Int) ≤ (x.toNat : Int)) = false := by simp; omega
        have d2 : decide ((x.toNat : Int) ≤ 122) = true := by simp; omega
        have d3 : decide ((65 : Int) ≤ (x.toNat : Int)) = false := by simp; omega
        have d4 : decide ((x.toNat : Int) ≤ 90) = true := by simp; omega
        have d5 : decide ((48 : Int) ≤ (x.toNat : Int)) = true := by simp; omega
        have d6 : decide ((x.toNat : Int) ≤ 57) = true := by simp; omega
        have d7 : ((x.toNat : Int) != 95) = true := by simp; omega
        have ho : okB x = true := by unfold okB; simp; omega
        have HO := Lib.hid ho
        clear ho hc
        go_wp2
        go_round
        case rel => exact ⟨i + 1, by omega, by go_num, by rw [all_take _ _ _ HX.out, HAL.out, HO.out]; rfl⟩
        case measure => simp [intOf]; omega
      · have d1 : decide ((97 : Int) ≤ (x.toNat : Int)) = false := by simp; omega
        have d2 : decide ((x.toNat : Int) ≤ 122) = true := by simp; omega
        have d3 : decide ((65 : Int) ≤ (x.toNat : Int)) = false := by simp; omega
        have d4 : decide ((x.toNat : Int) ≤ 90) = true := by simp; omega
        have d5 : decide ((48 : Int) ≤ (x.toNat : Int)) = true := by simp; omega
        have d6 : decide ((x.toNat : Int) ≤ 57) = false := by simp; omega
        have d7 : ((x.toNat : Int) != 95) = true := by simp; omega
        have ho : okB x = false := by unfold okB; simp; omega
        have HO := Lib.hid ho
        clear ho hc
        go_wp2
        go_ret
        exact ⟨by unfold mayB; rw [all_not _ _ _ HX.out HO.out]; rfl, rfl⟩
      · have d1 : decide ((97 : Int) ≤ (x.toNat : Int)) = false := by simp; omega
        have d2 : decide ((x.toNat : Int) ≤ 122) = true := by simp; omega
        have d3 : decide ((65 : Int) ≤ (x.toNat : Int)) = true := by simp; omega
        have d4 : decide ((x.toNat : Int) ≤ 90) = true := by simp; omega
        have d5 : decide ((48 : Int) ≤ (x.toNat : Int)) = true := by simp; omega
        have d6 : decide ((x.toNat : Int) ≤ 57) = false := by simp; omega
        have d7 : ((x.toNat : Int) != 95) = true := by simp; omega
        have ho : okB x = true := by unfold okB; simp; omega
        have HO := Lib.hid ho
        clear ho hc
        go_wp2
        go_round
        case rel => exact ⟨i + 1, by omega, by go_num, by rw [all_take _ _ _ HX.out, HAL.out, HO.out]; rfl⟩
        case measure => simp [intOf]; omega
      · have d1 : decide ((97 : Int) ≤ (x.toNat : Int)) = false := by simp; omega
        have d2 : decide ((x.toNat : Int) ≤ 122) = true := by simp; omega
        have d3 : decide ((65 : Int) ≤ (x.toNat : Int)) = true := by simp; omega
        have d4 : decide ((x.toNat : Int) ≤ 90) = false := by simp; omega
        have d5 : decide ((48 : Int) ≤ (x.toNat : Int)) = true := by simp; omega
        have d6 : decide ((x.toNat : Int) ≤ 57) = false := by simp; omega
        have d7 : ((x.toNat : Int) != 95) = true := by simp; omega
        have ho : okB x = false := by unfold okB; simp; omega
        have HO := Lib.hid ho
        clear ho hc
        go_wp2
        go_ret
        exact ⟨by unfold mayB; rw [all_not _ _ _ HX.out HO.out]; rfl, rfl⟩
      · have d1 : decide ((97 : Int) ≤ (x.toNat : Int)) = false := by simp; omega
        have d2 : decide ((x.toNat : Int) ≤ 122) = true := by simp; omega
        have d3 : decide ((65 : Int) ≤ (x.toNat : Int)) = true := by simp; omega
        have d4 : decide ((x.toNat : Int) ≤ 90) = false := by simp; omega
        have d5 : decide ((48 : Int) ≤ (x.toNat : Int)) = true := by simp; omega
        have d6 : decide ((x.toNat : Int) ≤ 57) = false := by simp; omega
        have d7 : ((x.toNat : Int) != 95) = false := by simp; omega
        have ho : okB x = true := by unfold okB; simp; omega
        have HO := Lib.hid ho
        clear ho hc
        go_wp2
        go_round
        case rel => exact ⟨i + 1, by omega, by go_num, by rw [all_take _ _ _ HX.out, HAL.out, HO.out]; rfl⟩
        case measure => simp [intOf]; omega
      · have d1 : decide ((97 : Int) ≤ (x.toNat : Int)) = false := by simp; omega
        have d2 : decide ((x.toNat : Int) ≤ 122) = true := by simp; omega
        have d3 : decide ((65 : Int) ≤ (x.toNat : Int)) = true := by simp; omega
        have d4 : decide ((x.toNat : Int) ≤ 90) = false := by simp; omega
        have d5 : decide ((48 : Int) ≤ (x.toNat : Int)) = true := by simp; omega
        have d6 : decide ((x.toNat : Int) ≤ 57) = false := by simp; omega
        have d7 : ((x.toNat : Int) != 95) = true := by simp; omega
        have ho : okB x = false := by unfold okB; simp; omega
        have HO := Lib.hid ho
        clear ho hc
        go_wp2
        go_ret
        exact ⟨by unfold mayB; rw [all_not _ _ _ HX.out HO.out]; rfl, rfl⟩
      · have d1 : decide ((97 : Int) ≤ (x.toNat : Int)) = true := by simp; omega
        have d2 : decide ((x.toNat : Int) ≤ 122) = true := by simp; omega
        have d3 : decide ((65 : Int) ≤ (x.toNat : Int)) = true := by simp; omega
        have d4 : decide ((x.toNat : Int) ≤ 90) = false := by simp; omega
        have d5 : decide ((48 : Int) ≤ (x.toNat : Int)) = true := by simp; omega
        have d6 : decide ((x.toNat : Int) ≤ 57) = false := by simp; omega
        have d7 : ((x.toNat : Int) != 95) = true := by simp; omega
        have ho : okB x = true := by unfold okB; simp; omega
        have HO := Lib.hid ho
        clear ho hc
        go_wp2
        go_round
        case rel => exact ⟨i + 1, by omega, by go_num, by rw [all_take _ _ _ HX.out, HAL.out, HO.out]; rfl⟩
        case measure => simp [intOf]; omega
      · have d1 : decide ((97 : Int) ≤ (x.toNat : Int)) = true := by simp; omega
        have d2 : decide ((x.toNat : Int) ≤ 122) = false := by simp; omega
        have d3 : decide ((65 : Int) ≤ (x.toNat : Int)) = true := by simp; omega
        have d4 : decide ((x.toNat : Int) ≤ 90) = false := by simp; omega
        have d5 : decide ((48 : Int) ≤ (x.toNat : Int)) = true := by simp; omega
        have d6 : decide ((x.toNat : Int) ≤ 57) = false := by simp; omega
        have d7 : ((x.toNat : Int) != 95) = true := by simp; omega
        have ho : okB x = false := by unfold okB; simp; omega
        have HO := Lib.hid ho
        clear ho hc
        go_wp2
        go_ret
        exact ⟨by unfold mayB; rw [all_not _ _ _ HX.out HO.out]; rfl, rfl⟩
    · obtain rfl : i = s.size := by omega
      have ha : s.data.toList.all okB = true := by rwa [List.take_of_length_le (by simp)] at hal
      have HA := Lib.hid ha
      clear hal ha hlt
      by_cases h1 : 1 ≤ s.size
      · have e1 : decide ((1 : Int) ≤ (s.size : Int)) = true := by simp; omega
        by_cases h2 : s.size ≤ 32
        · have e2 : decide ((s.size : Int) ≤ 32) = true := by simp; omega
          go_wp2
          go_ret
          exact ⟨by unfold mayB; rw [HA.out, decide_eq_true h1, decide_eq_true h2]; rfl, rfl⟩
        · have e2 : decide ((s.size : Int) ≤ 32) = false := by simp; omega
          go_wp2
          go_ret
          exact ⟨by unfold mayB; rw [HA.out, decide_eq_true h1, decide_eq_false h2]; rfl, rfl⟩
      · have e1 : decide ((1 : Int) ≤ (s.size : Int)) = false := by simp; omega
        go_wp2
        go_ret
        exact ⟨by unfold mayB; rw [HA.out, decide_eq_false h1]; rfl, rfl⟩
end Go.Proofs.Ytjafbkkdjmlaoaa
