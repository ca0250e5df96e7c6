/- Layer 3 (hmac): what the statements look at. -/
import Derived.Test.YtgkfebbifgkkeaaDoorRow
import Derived.Test.YtgkfebbifgkkeaaDoorShaI
set_option linter.unusedVariables false
namespace Go.Proofs.YtgkfebbifgkkeaaDoor
open Go Go.RowKit

theorem flat_bd (sl : List (List UInt8)) (m : Nat) (h : ∀ l ∈ sl, l.length ≤ m) : sl.flatten.length ≤ sl.length * m := by
  induction sl with
  | nil => simp
  | cons x r ih =>
    have h1 := ih (fun l hl => h l (List.mem_cons_of_mem _ hl))
    have h2 := h x (List.mem_cons_self ..)
    rw [List.flatten_cons, List.length_append, List.length_cons, Nat.succ_mul]
    omega

set_option maxRecDepth 100000 in
set_option maxHeartbeats 400000 in
theorem vast_key (A0 : Option Addr) (n0 c0 : Nat) (A : Option Addr) (n c : Nat) (w : World) (h : 2000 < n0) :
    Calls Tryd.prog 6 #[.slice A0 n0 c0, .slice A n c] w fun e w' => e = .returned (.bool true) ∧ w = w' := by
  have hd : decide ((2000 : Int) < (n0 : Int)) = true := by simp; omega
  go_enter Tryd.func6, Tryd.ntmps6
  go_wp2
  go_ret
  exact ⟨rfl, rfl⟩

set_option maxRecDepth 100000 in
set_option maxHeartbeats 400000 in
theorem vast_long (A0 : Option Addr) (n0 c0 : Nat) (A : Option Addr) (n c : Nat) (w : World) (h0 : n0 ≤ 2000) (h : 60 < n) :
    Calls Tryd.prog 6 #[.slice A0 n0 c0, .slice A n c] w fun e w' => e = .returned (.bool true) ∧ w = w' := by
  have hd0 : decide ((2000 : Int) < (n0 : Int)) = false := by simp; omega
  have hd : decide ((60 : Int) < (n : Int)) = true := by simp; omega
  go_enter Tryd.func6, Tryd.ntmps6
  go_wp2
  go_ret
  exact ⟨rfl, rfl⟩

set_option maxRecDepth 100000 in
set_option maxHeartbeats 400000 in
theorem vast_any (A0 : Option Addr) (n0 c0 : Nat) (A : Option Addr) (n c : Nat) (R : List RowA) (sl : List (List UInt8)) (w : World) (hr : Rws w w.heap.size A n R sl) (hb : ∀ l ∈ sl, l.length ≤ 140737488351232) (h0 : n0 ≤ 2000) (h : n ≤ 60) (big : Bool) (hbig : decide (8192 < sl.flatten.length) = big) :
    Calls Tryd.prog 6 #[.slice A0 n0 c0, .slice A n c] w fun e w' => e = .returned (.bool big) ∧ w = w' := by
  have HBIG := Lib.hid hbig
  clear hbig
  have hd0 : decide ((2000 : Int) < (n0 : Int)) = false := by simp; omega
  have hd : decide ((60 : Int) < (n : Int)) = false := by simp; omega
  have HR := Lib.hid hr
  have hsl := hr.lenS
  have hall := flat_bd sl _ hb
  rw [hsl] at hall
  have hmax : n * 140737488351232 ≤ 60 * 140737488351232 := Nat.mul_le_mul_right _ h
  have HSL := Lib.hid hsl
  clear hr hb hsl
  go_enter Tryd.func6, Tryd.ntmps6
  go_wp2
  go_loop [5, 6] (fun q p => ∃ i : Nat, i ≤ n ∧ p = .int .i64 (i : Int) ∧ q = .int .i64 ((sl.take i).flatten.length : Int)) (fun _ p => n - (intOf p).toNat)
  case atStart => exact ⟨0, by omega, rfl, rfl⟩
  case round =>
    obtain ⟨i, hi, rfl, rfl⟩ := hrel
    by_cases hlt : i < n
    · have hci : (i : Int) < (n : Int) := by omega
      obtain ⟨b, o, Ai, ni, ci, l, rfl, hbb, hc, hl, hri, hnc⟩ := HR.out.at_ hlt
      have hll : l.length = ni := by simpa using hri.len1
      have hfl := flat_step sl i l hl
      have hle := flat_le sl (i + 1)
      have hsum : (sl.take (i + 1)).flatten.length = (sl.take i).flatten.length + ni := by rw [hfl, List.length_append, hll]
      have HS := Lib.hid hsum
      generalize hg : (sl.take i).flatten.length = m at *
      have hm : (m : Int) + (ni : Int) ≤ 9223372036854775807 := by omega
      clear hl hri hll hfl hle hg hsum
      go_wp2
      go_round
      case rel => exact ⟨i + 1, by omega, by go_num, by rw [HS.out]; go_num⟩
      case measure => simp [intOf]; omega
    · obtain rfl : i = n := by omega
      rw [List.take_of_length_le (by have := HSL.out; omega)]
      generalize sl.flatten.length = m at *
      clear hlt hi
      by_cases hq : 8192 < m
      · have h1 : decide ((8192 : Int) < (m : Int)) = true := by simp; omega
        go_wp2
        go_ret
        exact ⟨by rw [← HBIG.out, decide_eq_true hq]; rfl, rfl⟩
      · have h1 : decide ((8192 : Int) < (m : Int)) = false := by simp; omega
        go_wp2
        go_ret
        exact ⟨by rw [← HBIG.out, decide_eq_false hq]; rfl, rfl⟩
end Go.Proofs.YtgkfebbifgkkeaaDoor
