/- Layer 1 (octet): the anchor and the small helpers of the statements. -/
import Derived.Test.YtdoonjldnehbdaaOctF
import Derived.Test.YtdoonjldnehbdaaArg
import Derived.Lib.SlBytesConst
set_option linter.unusedVariables false
namespace Go.Proofs.Ytdoonjldnehbdaa
open Go Go.RowKit

theorem litA (w : World) (H : Nat) (h : w.heap.size = H) : Rd (w.alloc (.cells #[.int .u8 128, .int .u8 1] 5)) (H + 1) 1 (some ⟨H, 0, none⟩) 2 (List.map bv [128, 1]) := h ▸ rdLit w _ (List.map bv [128, 1])
theorem litB (w : World) (H : Nat) (h : w.heap.size = H) : Rd (w.alloc (.cells #[.int .u8 128, .int .u8 0] 5)) (H + 1) 1 (some ⟨H, 0, none⟩) 2 (List.map bv [128, 0]) := h ▸ rdLit w _ (List.map bv [128, 0])
theorem litC (w : World) (H : Nat) (h : w.heap.size = H) : Rd (w.alloc (.cells #[.int .u8 2, .int .u8 97, .int .u8 98, .int .u8 99] 5 (4, 5))) (w.alloc (.cells #[.int .u8 2, .int .u8 97, .int .u8 98, .int .u8 99] 5 (4, 5))).heap.size 1 (some ⟨H, 0, none⟩) 4 (List.map bv [2, 97, 98, 99]) := by
  rw [World.size_alloc]
  exact h ▸ rdLitM w _ (List.map bv [2, 97, 98, 99]) (4, 5)
theorem run_const8 (W : World) (H : Nat) (C : Array Value) (n c : Nat) (h : W.heap.size = H) :
    (convert 22 22 (.slice (some ⟨H, 0, none⟩) n c)).run Try.prog (W.alloc (.cells C 5)) = .ok (.slice (some ⟨H, 0, none⟩) n c) (W.alloc (.cells C 5 (C.size, C.size + 1))) := by
  subst h
  exact Lib.run_convert_bytes_const (P := Try.prog) W 22 5 C n c Try.underlying22 Try.underlying5

set_option maxRecDepth 100000 in
set_option maxHeartbeats 600000 in
theorem works_any (w : World) : Calls Try.prog 9 #[] w fun e w' => e = .returned (.bool true) ∧ Below w.heap.size w w' := by
  have a1 : tvAns [128, 1] 0 = (128, 2, 0) := by decide
  have a2 : tvAns [128, 0] 0 = (0, 0, 5) := by decide
  have a3 : tbAns [2, 97, 98, 99] 0 2 = ([97, 98], 3, 0) := by decide
  have a4 : tbAns [2, 97, 98, 99] 0 1 = ([], 0, 6) := by decide
  have A1 := Lib.hid a1
  have A2 := Lib.hid a2
  have A3 := Lib.hid a3
  have A4 := Lib.hid a4
  clear a1 a2 a3 a4
  have kc := run_const8
  go_enter Try.func9, Try.ntmps9
  go_wp2_with fail
  refine (takeVar_any _ 2 2 (w.heap.size + 1) 0 [128, 1] _ (litA w _ rfl) (by omega) (by omega) 128 2 0 A1.out).mono ?_
  rintro e w1 ⟨rfl, rfl⟩
  go_wp2_with fail
  refine (takeVar_any _ 2 2 _ 0 [128, 0] _ (litB _ (w.heap.size + 1) ?h1) (by omega) (by omega) 0 0 5 A2.out).mono ?_
  case h1 => simp
  rintro e w1 ⟨rfl, rfl⟩
  go_wp2_with fail
  refine (takeBytes_any _ 4 4 0 2 [2, 97, 98, 99] _ (litC _ (w.heap.size + 1 + 1) ?h2) (by omega) (by omega) (by omega) (by omega) [97, 98] 3 0 A3.out).mono ?_
  case h2 => simp
  rintro e w3 ⟨Ar, cr, mr, rfl, ho3, hb3⟩
  go_wp2_with fail
  refine (takeBytes_any _ 4 4 0 1 [2, 97, 98, 99] _ (litC w3 w3.heap.size rfl) (by omega) (by omega) (by omega) (by omega) [] 0 6 A4.out).mono ?_
  rintro e w4 ⟨As, cs, ms, rfl, ho4, hb4⟩
  clear kc
  have hr4 := ((ho3.rd.alloc (Nat.le_refl _) _).below (hb4.mono (by simp)))
  have k1 := run_conv_str (P := Try.prog) w4 22 9 5 Try.underlying22 Try.underlying5 Try.underlying9 _ Ar mr cr _ hr4
  go_wp2_with fail
  refine (putVar_any none 0 0 [] 300 _ Rd.nil (by omega) (by omega) (by omega)).mono ?_
  rintro e w5 ⟨A5, m5, c5, rfl, ho5, hb5⟩
  have k2 := run_conv_str (P := Try.prog) w5 22 9 5 Try.underlying22 Try.underlying5 Try.underlying9 _ A5 m5 c5 _ ho5.rd
  have v1 : ([] ++ var (300 : Int).toNat) = [172, 2] := by decide
  rw [v1] at k2
  clear v1
  go_wp2_with fail
  refine (put_any none 0 0 [] 513 2 _ Rd.nil (by omega) (by omega) (by omega) (by omega)).mono ?_
  rintro e w6 ⟨A6, m6, c6, rfl, ho6, hb6⟩
  have k3 := run_conv_str (P := Try.prog) w6 22 9 5 Try.underlying22 Try.underlying5 Try.underlying9 _ A6 m6 c6 _ ho6.rd
  have v2 : ([] ++ beB (513 : Int).toNat (2 : Int).toNat) = [2, 1] := by decide
  rw [v2] at k3
  clear v2
  go_wp2
  go_ret
  have c3 : Below w.heap.size w w3 := ((((Below.refl _ _).alloc (Nat.le_refl _) _).alloc (by simp) _).alloc (by simp; omega) _).trans (hb3.mono (by simp; omega))
  have c4 : Below w.heap.size w w4 := (c3.alloc c3.size _).trans (hb4.mono (by have := c3.size; simp; omega))
  have c5 := c4.trans (hb5.mono c4.size)
  exact ⟨rfl, c5.trans (hb6.mono c5.size)⟩

set_option maxRecDepth 100000 in
theorem vast_no (A : Option Addr) (n c : Nat) (w : World) (h : n ≤ 8192) : Calls Try.prog 8 #[.slice A n c] w fun e w' => e = .returned (.bool false) ∧ w = w' := by
  have hd : decide (8192 < (n : Int)) = false := by simp; omega
  go_enter Try.func8, Try.ntmps8
  go_wp2
  go_ret
  exact ⟨rfl, rfl⟩
set_option maxRecDepth 100000 in
theorem vast_yes (A : Option Addr) (n c : Nat) (w : World) (h : 8192 < n) : Calls Try.prog 8 #[.slice A n c] w fun e w' => e = .returned (.bool true) ∧ w = w' := by
  have hd : decide (8192 < (n : Int)) = true := by simp; omega
  go_enter Try.func8, Try.ntmps8
  go_wp2
  go_ret
  exact ⟨rfl, rfl⟩

end Go.Proofs.Ytdoonjldnehbdaa
