/- Layer 7 (lex): the anchor holds. -/
import Derived.Test.YtjafbkkdjmlaoaaLxI
import Derived.Deep.Cut
set_option linter.unusedVariables false
set_option linter.unusedSimpArgs false
namespace Go.Proofs.Ytjafbkkdjmlaoaa
open Go Go.RowKit

set_option maxRecDepth 100000 in
set_option maxHeartbeats 4000000 in
theorem lWorks_any (ok : LexOk) (w : World) : Calls Try.prog 8 #[] w fun e w' => e = .returned (.bool true) ∧ Below w.heap.size w w' := by
  go_enter Try.func8, Try.ntmps8
  repeat (first | go_skip | go_guarded | go_step)
  refine (ok.words ⟨#[112, 40, 88, 41, 58, 45, 110, 111, 116, 32, 113, 46, 37, 114]⟩ w (by decide)).mono ?_
  rintro e w1 ⟨A1, m1, c1, ws1, y1, z1, rfl, ho1, hb1, ha1⟩
  rw [show tb ⟨#[112, 40, 88, 41, 58, 45, 110, 111, 116, 32, 113, 46, 37, 114]⟩ = [112, 40, 88, 41, 58, 45, 110, 111, 116, 32, 113, 46, 37, 114] from rfl, words1] at ha1
  simp only [Prod.mk.injEq] at ha1
  obtain ⟨rfl, rfl, rfl⟩ := ha1
  obtain rfl : 8 = m1 := rdV_len (OwV.rd ho1)
  have HO1 := Lib.hid ho1
  have HB1 := Lib.hid hb1
  clear ho1 hb1
  dsimp only
  repeat (first | go_skip | go_guarded | go_step)
  refine (ok.words ⟨#[97, 32, 58, 32, 98]⟩ w1 (by decide)).mono ?_
  rintro e w2 ⟨A2, m2, c2, ws2, y2, z2, rfl, ho2, hb2, ha2⟩
  rw [show tb ⟨#[97, 32, 58, 32, 98]⟩ = [97, 32, 58, 32, 98] from rfl, words2] at ha2
  simp only [Prod.mk.injEq] at ha2
  obtain ⟨rfl, rfl, rfl⟩ := ha2
  have HO2 := Lib.hid (ownBelow HO1.out hb2 (Nat.le_refl _))
  have HB2 := Lib.hid (HB1.out.trans (hb2.mono HB1.out.size))
  clear ho2 hb2
  dsimp only
  repeat (first | go_skip | go_guarded | go_step)
  refine (ok.words ⟨#[97, 63]⟩ w2 (by decide)).mono ?_
  rintro e w3 ⟨A3, m3, c3, ws3, y3, z3, rfl, ho3, hb3, ha3⟩
  rw [show tb ⟨#[97, 63]⟩ = [97, 63] from rfl, words3] at ha3
  simp only [Prod.mk.injEq] at ha3
  obtain ⟨rfl, rfl, rfl⟩ := ha3
  have HO3 := Lib.hid (ownBelow HO2.out hb3 (Nat.le_refl _))
  have HB3 := Lib.hid (HB2.out.trans (hb3.mono HB2.out.size))
  clear ho3 hb3
  dsimp only
  go_upto_region 7 with (fail)
  obtain ⟨U, hU, hk, hbu⟩ : ∃ U, U = w3.alloc (.cells #[.int .u8 1, .int .u8 5, .int .u8 2, .int .u8 6, .int .u8 9, .int .u8 3, .int .u8 1, .int .u8 8] 5) ∧ Bk U w3.heap.size 5 (wksL.map fun x => Value.int .u8 (x.1 : Int)) ∧ Below w3.heap.size w3 U := ⟨_, rfl, (show (wksL.map fun x => Value.int .u8 (x.1 : Int)) = [.int .u8 1, .int .u8 5, .int .u8 2, .int .u8 6, .int .u8 9, .int .u8 3, .int .u8 1, .int .u8 8] from rfl) ▸ Bk.new w3 5 [.int .u8 1, .int .u8 5, .int .u8 2, .int .u8 6, .int .u8 9, .int .u8 3, .int .u8 1, .int .u8 8], (Below.refl _ _).alloc (Nat.le_refl _) _⟩
  rw [← hU]
  clear hU
  have HK := Lib.hid hk
  have HOU := Lib.hid (OwV.rd (ownBelow HO3.out hbu (Nat.le_refl _)))
  have HBU := Lib.hid (HB3.out.trans (hbu.mono HB3.out.size))
  clear hk hbu
  generalize w3.heap.size = g at HK ⊢
  repeat (first | go_skip | go_guarded | go_step)
  go_loopw [11] (fun p' wr => ∃ (i q : Nat), i ≤ 8 ∧ p' = .int .i64 (i : Int) ∧ wr = U.drewN q) (fun p _ => 8 - (intOf p).toNat)
  case atStart => exact ⟨0, 0, by omega, rfl, rfl⟩
  case round =>
    obtain ⟨i, q, hi, rfl, rfl⟩ := hrel
    by_cases hlt : i < 8
    · have hci : (i : Int) < 8 := by omega
      obtain ⟨b, o, ⟨k, t, a⟩, hA, hbb, hx, hc0, hc1, hc2⟩ := rdV_at HOU.out hlt
      subst hA
      dsimp only at hc0
      have r0 : ∀ q, (U.drewN q).cell? ⟨b, o + i * 3, none⟩ = some (.int .u8 (k : Int)) := fun _ => hc0
      have s0 : ∀ q, (U.drewN q).cell? ⟨g, i, none⟩ = some (.int .u8 (k : Int)) := fun q => by
        have h := HK.out.cell i
        rw [List.getElem?_map, hx] at h
        exact h
      clear hx hc0 hc1 hc2
      repeat (first | go_skip | go_guarded | go_step)
      go_quiet (fail)
      repeat (first | go_skip | go_guarded | go_step)
      go_roundw
      case rel => exact ⟨i + 1, _, by omega, by go_num, rfl⟩
      case measure => simp [intOf] <;> omega
    · obtain rfl : i = 8 := by omega
      have HBQ := Lib.hid (show Below w.heap.size w (U.drewN q) from ⟨HBU.out.os, HBU.out.tape, HBU.out.output, HBU.out.size, HBU.out.block⟩)
      have HRQ := Lib.hid (show RdV (U.drewN q) (U.drewN q).heap.size A1 8 wksL from HOU.out)
      have hcap := OwV.cap HO1.out
      repeat (first | go_skip | go_guarded | go_step)
      refine (ok.join A1 8 c1 wksL (U.drewN q) HRQ.out hcap (by omega) (by decide)).mono ?_
      rintro e w5 ⟨rfl, hb5⟩
      have HB5 := Lib.hid (HBQ.out.trans (hb5.mono HBQ.out.size))
      clear hb5
      rw [join1]
      dsimp only
      repeat (first | go_skip | go_guarded | go_step)
      go_ret
      exact ⟨rfl, HB5.out⟩
end Go.Proofs.Ytjafbkkdjmlaoaa
