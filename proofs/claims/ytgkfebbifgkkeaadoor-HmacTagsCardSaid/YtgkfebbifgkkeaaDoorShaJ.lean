/- Layer 2 (sha): bytes as letters, by the reference. -/
import Derived.Test.YtgkfebbifgkkeaaDoorShaI
set_option linter.unusedVariables false
namespace Go.Proofs.YtgkfebbifgkkeaaDoor
open Go Go.RowKit

def dig (n : Nat) : UInt8 := if n < 10 then UInt8.ofNat (48 + n) else UInt8.ofNat (87 + n)
def hex1 (x : UInt8) : List UInt8 := [dig (x.toNat / 16), dig (x.toNat % 16)]
def hexL (bs : List UInt8) : List UInt8 := bs.flatMap hex1
theorem dig_cut (h : Nat) (hh : h < 16) : (⟨#[48, 49, 50, 51, 52, 53, 54, 55, 56, 57, 97, 98, 99, 100, 101, 102]⟩ : ByteArray).extract h (h + 1) = ⟨[dig h].toArray⟩ := by
  have c : h = 0 ∨ h = 1 ∨ h = 2 ∨ h = 3 ∨ h = 4 ∨ h = 5 ∨ h = 6 ∨ h = 7 ∨ h = 8 ∨ h = 9 ∨ h = 10 ∨ h = 11 ∨ h = 12 ∨ h = 13 ∨ h = 14 ∨ h = 15 := by omega
  rcases c with rfl | rfl | rfl | rfl | rfl | rfl | rfl | rfl | rfl | rfl | rfl | rfl | rfl | rfl | rfl | rfl <;> decide +kernel
theorem hexL_len (bs : List UInt8) : (hexL bs).length = 2 * bs.length := by
  unfold hexL
  induction bs with
  | nil => rfl
  | cons x r ih => simp [hex1] at ih ⊢; omega
theorem strApp (a b : List UInt8) : (⟨a.toArray⟩ : ByteArray) ++ (⟨b.toArray⟩ : ByteArray) = ⟨(a ++ b).toArray⟩ := by
  apply ByteArray.ext
  simp
theorem hex_step (bs : List UInt8) (i : Nat) (x : UInt8) (h : bs[i]? = some x) : hexL (bs.take (i + 1)) = hexL (bs.take i) ++ hex1 x := by
  unfold hexL
  rw [List.take_add_one, h]
  simp

set_option maxRecDepth 100000 in
set_option maxHeartbeats 1000000 in
theorem hex_any (A : Option Addr) (n c : Nat) (bs : List UInt8) (w : World) (hr : Rd w w.heap.size 1 A n (bs.map bv)) (hn : n ≤ 1099511627776) :
    Calls Tryd.prog 16 #[.slice A n c] w fun e w' => e = .returned (strV (hexL bs)) ∧ ∃ m, w' = w.drewN m := by
  have hl : bs.length = n := by simpa using hr.len1
  have HL := Lib.hid hl
  have HR := Lib.hid hr
  clear hl hr
  go_enter Tryd.func16, Tryd.ntmps16
  go_wp2
  go_loopw [4, 5] (fun q p wr => ∃ (i m : Nat), i ≤ n ∧ p = .int .i64 (i : Int) ∧ q = strV (hexL (bs.take i)) ∧ wr = w.drewN m)
    (fun _ p _ => n - (intOf p).toNat)
  case atStart => exact ⟨0, 0, by omega, rfl, rfl, rfl⟩
  case round =>
    obtain ⟨i, m, hi, rfl, rfl, rfl⟩ := hrel
    by_cases hlt : i < n
    · obtain ⟨b, o, u, rfl, hb, hu, hc⟩ := HR.out.at1 hlt
      rw [List.getElem?_map, List.getElem?_eq_getElem (by have := HL.out; omega)] at hu
      simp only [Option.map_some, Option.some.injEq] at hu
      subst hu
      have HSX := Lib.hid (hex_step bs i _ (List.getElem?_eq_getElem (by have := HL.out; omega)))
      generalize bs[i]'(by have := HL.out; omega) = x at *
      unfold bv at hc
      have hx := u8_lt x
      have hci : (i : Int) < (n : Int) := by omega
      obtain ⟨h, hh⟩ : ∃ h, h = x.toNat / 16 := ⟨_, rfl⟩
      obtain ⟨l, hl⟩ : ∃ l, l = x.toNat % 16 := ⟨_, rfl⟩
      have q1 : IntKind.u8.wrap ((x.toNat : Int) / 16) = (h : Int) := by rw [IntKind.wrap_u8]; omega
      have q2 : IntKind.u8.wrap ((h : Int) + 1) = (h : Int) + 1 := by rw [IntKind.wrap_u8]; omega
      have q3 : (x.toNat : Int) % 16 = (l : Int) := by omega
      have q4 : IntKind.u8.wrap ((l : Int) + 1) = (l : Int) + 1 := by rw [IntKind.wrap_u8]; omega
      have q5 : (x.toNat : Int).tmod 16 = (l : Int) := by rw [Int.tmod_eq_emod_of_nonneg (by omega)]; omega
      have q6 : IntKind.u8.wrap (l : Int) = (l : Int) := by rw [IntKind.wrap_u8]; omega
      have h0 : h < 16 := by omega
      have l0 : l < 16 := by omega
      have h1 : (h : Int) < 16 := by omega
      have l1 : (l : Int) < 16 := by omega
      have h2 : (h : Int) + 1 ≤ 16 := by omega
      have l2 : (l : Int) + 1 ≤ 16 := by omega
      have HH := Lib.hid hh
      have HHL := Lib.hid hl
      clear hh hl
      go_wp2
      have t1 : ((h : Int) + 1).toNat = h + 1 := by omega
      have t2 : (h : Int) ≤ (h : Int) + 1 := by omega
      have t3 : ((l : Int) + 1).toNat = l + 1 := by omega
      have t4 : (l : Int) ≤ (l : Int) + 1 := by omega
      have ex1 := dig_cut h h0
      have ex2 := dig_cut l l0
      have hpl := hexL_len (bs.take i)
      rw [List.length_take] at hpl
      generalize hexL (bs.take i) = pre at *
      have hp1 : pre.length + 1 ≤ 9223372036854775807 := by omega
      have hp2 : pre.length + 1 + 1 ≤ 9223372036854775807 := by omega
      clear hpl
      go_quiet (fail)
      clear ex1 ex2
      go_wp2
      go_roundw
      case rel =>
        refine ⟨i + 1, m + nq, by omega, by go_num, ?_, rfl⟩
        rw [HSX.out]
        have e := strApp (pre ++ [dig h]) [dig l]
        rw [← strApp pre [dig h]] at e
        unfold hex1
        rw [← HH.out, ← HHL.out]
        have e2 : pre ++ [dig h, dig l] = pre ++ [dig h] ++ [dig l] := by simp
        rw [e2]
        exact congrArg Value.string e
      case measure => simp [intOf]; omega
    · obtain rfl : i = n := by omega
      clear hlt hi
      go_wp2
      go_ret
      exact ⟨by rw [List.take_of_length_le (by have := HL.out; omega)]; rfl, m, rfl⟩
end Go.Proofs.YtgkfebbifgkkeaaDoor
