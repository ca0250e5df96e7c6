/- Layer 1 (octet): bytes with room behind them, and that they stay. -/
import Derived.Test.YtdoonjldnehbdaaOctL
import Derived.Test.YtdoonjldnehbdaaBlk
set_option linter.unusedVariables false
namespace Go.Proofs.Ytdoonjldnehbdaa
open Go Go.RowKit

/-- What 'roomy' leaves: the bytes, and thirty zeros. -/
def roomB (bs : List UInt8) : List Value := bs.map bv ++ List.replicate 30 (.int .u8 0)
theorem roomB_len (bs : List UInt8) : (roomB bs).length = bs.length + 30 := by simp [roomB]

set_option maxRecDepth 100000 in
set_option maxHeartbeats 400000 in
theorem roomy_any (A : Option Addr) (n c : Nat) (bs : List UInt8) (w : World) (hr : Rd w w.heap.size 1 A n (bs.map bv)) (hb : n ≤ 8192) :
    Calls Try.prog 10 #[.slice A n c] w fun e w' => e = .returned (.slice (some ⟨w.heap.size, 0, none⟩) n (n + 30)) ∧ Bk w' w.heap.size 5 (roomB bs) ∧ Below w.heap.size w w' := by
  obtain ⟨i0, hi, hz0, hz1, hz2⟩ := info_parts u8info
  have hl : bs.length = n := by simpa using hr.len1
  have HL := Lib.hid hl
  clear hl
  go_enter Try.func10, Try.ntmps10
  go_wp2_with (first
    | (at_make; refine wpList_make_bk _ rfl _ _ 22 rfl 5 i0 (.int .u8 0) Try.underlying22 hi hz0 hz1 rfl _ _ _ _ 0 (n + 30) rfl rfl rfl (by omega) (by omega) (by rw [hz2]; omega) (by simp only [maxLen]; omega) ?_; intro w1 hB1 hb1 hs1)
    | (at_builtin; refine wpList_app_bk _ rfl _ _ 22 rfl 5 i0 Try.underlying22 hi hz1 w.heap.size 0 (n + 30) _ rfl hB1 (by simp) w.heap.size A n c (bs.map bv) rfl (hr.below hb1) (bv_one bs) (by omega) ?_; intro w2 hB2 hg2 hs2))
  go_ret
  refine ⟨by simp, ?_, hb1.grown hg2 (by omega) (fun k hk => by cases hk; exact Nat.le_refl _)⟩
  have e : List.take 0 (List.replicate (n + 30) (Value.int .u8 0)) ++ bs.map bv ++ List.drop (0 + n) (List.replicate (n + 30) (.int .u8 0)) = roomB bs := by
    simp [roomB]
  rw [← e]
  exact hB2

set_option maxRecDepth 100000 in
set_option maxHeartbeats 1000000 in
theorem kept_any (g : Nat) (A : Option Addr) (n c B : Nat) (bs : List UInt8) (w : World) (hg : Bk w g 5 (roomB bs)) (hr : Rd w B 1 A n (bs.map bv)) (hb : n ≤ 8192) :
    Calls Try.prog 12 #[.slice (some ⟨g, 0, none⟩) n (n + 30), .slice A n c] w fun e w' => e = .returned (.bool true) ∧ w = w' := by
  have hl : bs.length = n := by simpa using hr.len1
  have hro : Rd w w.heap.size 1 (some ⟨g, 0, none⟩) n (bs.map bv) := by
    have := hg.rd n (by rw [roomB_len]; omega)
    have e : (roomB bs).take n = bs.map bv := by
      unfold roomB
      rw [List.take_append_of_le_length (by simp; omega), List.take_of_length_le (by simp; omega)]
    rwa [e] at this
  have hcell : ∀ i, n ≤ i → i < n + 30 → w.cell? ⟨g, i, none⟩ = some (.int .u8 0) := by
    intro i h1 h2
    rw [hg.cell]
    unfold roomB
    rw [List.getElem?_append_right (by simp; omega), List.getElem?_replicate, if_pos (by simp; omega)]
  have k1 := run_conv_str (P := Try.prog) w 22 9 5 Try.underlying22 Try.underlying5 Try.underlying9 _ _ n (n + 30) bs hro
  have k2 := run_conv_str (P := Try.prog) w 22 9 5 Try.underlying22 Try.underlying5 Try.underlying9 B A n c bs hr
  have HC := Lib.hid hcell
  have HL := Lib.hid hl
  clear hcell hl
  go_enter Try.func12, Try.ntmps12
  go_wp2
  go_loop [6] (fun q => ∃ (i : Nat), q = .int .i64 (i : Int) ∧ n ≤ i ∧ i ≤ n + 30) (fun q => n + 30 - (intOf q).toNat)
  case atStart => exact ⟨n, rfl, by omega, by omega⟩
  case round =>
    obtain ⟨i, rfl, h1, h2⟩ := hrel
    by_cases hlt : i < n + 30
    · have hc := HC.out i h1 hlt
      go_wp2
      exact ⟨⟨i + 1, by go_num, by omega, by omega⟩, by simp [intOf]; omega⟩
    · obtain rfl : i = n + 30 := by omega
      go_wp2
      go_ret
      exact ⟨rfl, rfl⟩

theorem u64_bd {a : Int} (w : (Lit.int .u64 a).wf = true) : 0 ≤ a ∧ a < 18446744073709551616 := by
  have h1 : IntKind.u64.min = 0 := rfl
  have h2 : IntKind.u64.max = 18446744073709551615 := rfl
  simp only [Lit.wf, Bool.and_eq_true, decide_eq_true_eq] at w
  omega
theorem i64_bd {a : Int} (w : (Lit.int .i64 a).wf = true) : -9223372036854775808 ≤ a ∧ a ≤ 9223372036854775807 := by
  have h1 : IntKind.i64.min = -9223372036854775808 := rfl
  have h2 : IntKind.i64.max = 9223372036854775807 := rfl
  simp only [Lit.wf, Bool.and_eq_true, decide_eq_true_eq] at w
  omega
theorem u16_bd {a : Int} (w : (Lit.int .u16 a).wf = true) : 0 ≤ a ∧ a < 65536 := by
  have h1 : IntKind.u16.min = 0 := rfl
  have h2 : IntKind.u16.max = 65535 := rfl
  simp only [Lit.wf, Bool.and_eq_true, decide_eq_true_eq] at w
  omega
theorem u8_bd {a : Int} (w : (Lit.int .u8 a).wf = true) : 0 ≤ a ∧ a < 256 := by
  have h1 : IntKind.u8.min = 0 := rfl
  have h2 : IntKind.u8.max = 255 := rfl
  simp only [Lit.wf, Bool.and_eq_true, decide_eq_true_eq] at w
  omega
end Go.Proofs.Ytdoonjldnehbdaa
