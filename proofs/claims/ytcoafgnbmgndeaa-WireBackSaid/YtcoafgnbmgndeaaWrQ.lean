/- Layer 6 (wire): the anchor of the statements. -/
import Derived.Test.YtcoafgnbmgndeaaWrP
set_option linter.unusedVariables false
set_option linter.unusedSimpArgs false
namespace Go.Proofs.Ytcoafgnbmgndeaa
open Go Go.RowKit

theorem litT_rdW (w : World) (l : List Tm) (n : Nat) (hn : l.length = n) : RdT (w.alloc (.cells (tmCs l).toArray 54)) (w.heap.size + 1) (some ⟨w.heap.size, 0, none⟩) n l := by
  have hb := Bk.new w 54 (tmCs l)
  refine ⟨by rw [tmCs_len, hn], fun _ => ⟨w.heap.size, 0, rfl, by omega, fun j u hu => ?_⟩⟩
  rw [Nat.zero_add, hb.cell]
  exact hu
abbrev bs1 : List UInt8 := [1, 2, 2, 172, 2]
abbrev bs2 : List UInt8 := [1, 1, 1, 1, 0, 2, 2, 1, 10]
set_option maxRecDepth 100000 in
set_option maxHeartbeats 4000000 in
theorem wWorks_any (ok : WireOk) (w : World) : Calls Try.prog 9 #[] w fun e w' => e = .returned (.bool true) ∧ Below w.heap.size w w' := by
  go_enter Try.func9, Try.ntmps9
  go_upto_region 2 with (fail)
  obtain ⟨U, hU, hX, hbU⟩ : ∃ U, U = w.alloc (.cells #[.bool true, .int .u32 0] 54) ∧ Bk U w.heap.size 54 [.bool true, .int .u32 0] ∧ Below w.heap.size w U := ⟨_, rfl, Bk.new w _ _, (Below.refl _ _).alloc (Nat.le_refl _) _⟩
  rw [← hU]
  clear hU
  have HB0 := Lib.hid hbU
  generalize w.heap.size = gx at hX ⊢
  have HX := Lib.hid hX
  clear hbU hX
  have hl := run_litU2 2 300 U
  repeat (first | go_skip | go_guarded | go_step)
  refine (ok.putFact none 0 0 [] 1 (some ⟨U.heap.size, 0, none⟩) 2 2 [2, 300] _ Rd.nil (by omega) (by omega) ((litN_rd U [2, 300] 2 rfl).more (by simp)) (by omega) (by omega)).mono ?_
  rintro e W1 ⟨A1, m1, c1, z1, b1, rfl, ho1, hb1, hz⟩
  rcases hz with ⟨_, rfl, rfl⟩ | ⟨h, _, _⟩
  case inr => exact absurd h (by decide)
  rw [show ([] ++ factB (1, [2, 300]) : List UInt8) = bs1 from by decide +kernel] at ho1
  have hb1 : Below U.heap.size U W1 := ((Below.refl _ _).alloc (Nat.le_refl _) _).trans (hb1.mono (by simp))
  obtain rfl : m1 = 5 := (Ow.len ho1).symm
  have HO1 := Lib.hid (Ow.rd ho1)
  have HV1 := Lib.hid hb1
  clear hl ho1 hb1
  dsimp only
  go_upto_region 3 with (fail)
  have q0 := HX.out.readT HV1.out 0 rfl
  have q1 := HX.out.readT HV1.out 1 rfl
  have qb0 := HX.out.readT (HV1.out.alloc HV1.out.size (.cells #[.bool true, .int .u32 0] 54)) 0 rfl
  have qb1 := HX.out.readT (HV1.out.alloc HV1.out.size (.cells #[.bool true, .int .u32 0] 54)) 1 rfl
  have hw : ∃ W, W = ((W1.alloc (.cells #[.bool true, .int .u32 0] 54)).alloc (.cells #[.bool true, .int .u32 0, .bool false, .int .u32 5] 54)).alloc (.cells #[.bool false, .int .u32 2, .slice (some ⟨W1.heap.size + 1, 0, none⟩) 2 2] 71) ∧
      RdT W W.heap.size (some ⟨W1.heap.size, 0, none⟩) 1 [X0] ∧ RdL W W.heap.size (some ⟨W1.heap.size + 1 + 1, 0, none⟩) 1 [(some ⟨W1.heap.size + 1, 0, none⟩, 2, 2)] [(false, (2, [X0, S5]))] ∧ Below W1.heap.size W1 W := by
    have hb3 : Below W1.heap.size W1 (((W1.alloc (.cells #[.bool true, .int .u32 0] 54)).alloc (.cells #[.bool true, .int .u32 0, .bool false, .int .u32 5] 54)).alloc (.cells #[.bool false, .int .u32 2, .slice (some ⟨W1.heap.size + 1, 0, none⟩) 2 2] 71)) :=
      (((Below.refl _ _).alloc (Nat.le_refl _) _).alloc (by simp) _).alloc (by simp; omega) _
    refine ⟨_, rfl, ?_, ?_, hb3⟩
    · have h := litT_rdW W1 [X0] 1 rfl
      refine Rd.more (Rd.below h (((Below.refl _ _).alloc ?_ _).alloc ?_ _)) ?_ <;> simp <;> omega
    · have h := litT_rdW (W1.alloc (.cells #[.bool true, .int .u32 0] 54)) [X0, S5] 2 rfl
      have e : (W1.alloc (.cells #[.bool true, .int .u32 0] 54)).heap.size = W1.heap.size + 1 := by simp
      rw [e] at h
      have h2 := bk_rdS (Bk.new ((W1.alloc (.cells #[.bool true, .int .u32 0] 54)).alloc (.cells #[.bool true, .int .u32 0, .bool false, .int .u32 5] 54)) 71 [.bool false, .int .u32 2, .slice (some ⟨W1.heap.size + 1, 0, none⟩) 2 2]) 3 rfl
      have e2 : ((W1.alloc (.cells #[.bool true, .int .u32 0] 54)).alloc (.cells #[.bool true, .int .u32 0, .bool false, .int .u32 5] 54)).heap.size = W1.heap.size + 1 + 1 := by simp
      rw [e2] at h2
      refine ⟨rfl, rfl, ?_, ?_⟩
      · exact Rd.more h2 (by simp)
      · intro i r x h1 h3
        match i with
        | 0 =>
          simp only [List.getElem?_cons_zero, Option.some.injEq] at h1 h3
          subst h1 h3
          refine Rd.more (Rd.below h ((Below.refl _ _).alloc ?_ _)) ?_ <;> simp <;> omega
        | i + 1 => simp at h1
  obtain ⟨Wc, hWc, hra, hrl, hbac⟩ := hw
  have HRA := Lib.hid hra
  have HRL := Lib.hid hrl
  have HWC := Lib.hid hWc
  have HBC := Lib.hid (HV1.out.trans (hbac.mono HV1.out.size))
  have HO1 := Lib.hid ((HO1.out.below hbac).more hbac.size)
  clear hWc hra hrl hbac HV1
  repeat (first | go_skip | go_guarded | go_step)
  rw [← HWC.out]
  refine (ok.putClause none 0 0 [] 1 (some ⟨W1.heap.size, 0, none⟩) 1 1 [X0] (some ⟨W1.heap.size + 1 + 1, 0, none⟩) 1 1 _ _ _ Rd.nil (by omega) (by omega) HRA.out HRL.out (by omega) (by omega) (by omega) (by omega) (by simp)).mono ?_
  rintro e W2 ⟨A2, m2, c2, z2, b2, rfl, ho2, hb2, hz⟩
  rcases hz with ⟨_, rfl, rfl⟩ | ⟨h, _, _⟩
  case inr => exact absurd h (by decide +kernel)
  rw [show ([] ++ clauseB ((1, [X0]), [(false, (2, [X0, S5]))]) : List UInt8) = bs2 from by decide +kernel] at ho2
  obtain rfl : m2 = 9 := (Ow.len ho2).symm
  have HO2 := Lib.hid (Ow.rd ho2)
  have HO1 := Lib.hid ((HO1.out.below hb2).more hb2.size)
  have HBC := Lib.hid (HBC.out.trans (hb2.mono HBC.out.size))
  clear q0 q1 qb0 qb1 ho2 hb2
  dsimp only
  go_upto_region 4 with (fail)
  have hl := run_litB2 1 7 W2
  repeat (first | go_skip | go_guarded | go_step)
  refine (ok.takeFact _ 2 2 0 [1, 7] _ ((litB_rd W2 [1, 7] 2 rfl).more (by simp)) (by omega) (by omega) (by omega) (by omega)).mono ?_
  rintro e W3 ⟨p3, A3, n3, c3, l3, y3, z3, rfl, _, _, _, hb3, ha⟩
  rw [show takeAns rFact zF [1, 7] 0 = (zF, 0, 5) from by decide +kernel] at ha
  simp only [Prod.mk.injEq] at ha
  obtain ⟨⟨rfl, rfl⟩, rfl, rfl⟩ := ha
  have hb3 : Below W2.heap.size W2 W3 := ((Below.refl _ _).alloc (Nat.le_refl _) _).trans (hb3.mono (by simp))
  have HO1 := Lib.hid ((HO1.out.below hb3).more hb3.size)
  have HO2 := Lib.hid ((HO2.out.below hb3).more hb3.size)
  have HBC := Lib.hid (HBC.out.trans (hb3.mono HBC.out.size))
  clear hl hb3
  dsimp only
  go_upto_region 5 with (fail)
  obtain ⟨W4, hW4, hb4⟩ : ∃ W4, W4 = W3.alloc (.cells #[.int .u32 0, .slice A3 n3 c3] 26) ∧ Below W3.heap.size W3 W4 := ⟨_, rfl, (Below.refl _ _).alloc (Nat.le_refl _) _⟩
  try rw [← hW4]
  clear hW4
  have HO1 := Lib.hid ((HO1.out.below hb4).more hb4.size)
  have HO2 := Lib.hid ((HO2.out.below hb4).more hb4.size)
  have HBC := Lib.hid (HBC.out.trans (hb4.mono HBC.out.size))
  clear hb4
  obtain ⟨Wd, hWd, hrd, hbd⟩ : ∃ W, W = W4.alloc (.cells #[.int .u8 129, .int .u8 0, .int .u8 0] 5) ∧ Rd W W.heap.size 1 (some ⟨W4.heap.size, 0, none⟩) 3 ([129, 0, 0].map bv) ∧ Below W4.heap.size W4 W := by
    refine ⟨_, rfl, ?_, (Below.refl _ _).alloc (Nat.le_refl _) _⟩
    have h := litB_rd W4 [129, 0, 0] 3 rfl
    rw [show ([129, 0, 0] : List UInt8).map bv = [.int .u8 129, .int .u8 0, .int .u8 0] by kernel_rfl] at h ⊢
    exact h.more (by simp)
  have HWD := Lib.hid hWd
  clear hWd
  repeat (first | go_skip | go_guarded | go_step)
  rw [← HWD.out]
  refine (ok.takeFact _ 3 3 0 [129, 0, 0] Wd hrd (by omega) (by omega) (by omega) (by omega)).mono ?_
  rintro e W5 ⟨p5, A5, n5, c5, l5, y5, z5, rfl, _, _, _, hb5, ha⟩
  rw [show takeAns rFact zF [129, 0, 0] 0 = (zF, 0, 5) from by decide +kernel] at ha
  simp only [Prod.mk.injEq] at ha
  obtain ⟨⟨rfl, rfl⟩, rfl, rfl⟩ := ha
  have hb5 : Below W4.heap.size W4 W5 := hbd.trans (hb5.mono hbd.size)
  have HO1 := Lib.hid ((HO1.out.below hb5).more hb5.size)
  have HO2 := Lib.hid ((HO2.out.below hb5).more hb5.size)
  have HBC := Lib.hid (HBC.out.trans (hb5.mono HBC.out.size))
  clear hb5 hbd hrd HWD
  dsimp only
  go_upto_region 6 with (fail)
  obtain ⟨W6, hW6, hb6⟩ : ∃ W6, W6 = W5.alloc (.cells #[.int .u32 0, .slice A5 n5 c5] 26) ∧ Below W5.heap.size W5 W6 := ⟨_, rfl, (Below.refl _ _).alloc (Nat.le_refl _) _⟩
  try rw [← hW6]
  clear hW6
  have HO1 := Lib.hid ((HO1.out.below hb6).more hb6.size)
  have HO2 := Lib.hid ((HO2.out.below hb6).more hb6.size)
  have HBC := Lib.hid (HBC.out.trans (hb6.mono HBC.out.size))
  clear hb6
  have k1 := run_conv_str (P := Try.prog) W6 22 9 5 Try.underlying22 Try.underlying5 Try.underlying9 _ _ 5 c1 bs1 HO1.out
  have k2 := run_conv_str (P := Try.prog) W6 22 9 5 Try.underlying22 Try.underlying5 Try.underlying9 _ _ 9 c2 bs2 HO2.out
  repeat (first | go_skip | go_guarded | go_step)
  refine (ok.mayRule false (false, 0) 0 none 0 0 [] none 0 0 [] [] _ Rd.nil (RdK.nil _ _) (by omega) (by omega) (by omega) (by omega) (by simp)).mono ?_
  rintro e W7 ⟨rfl, hb7⟩
  rw [show mayR ((false, (false, 0), (0, [])), []) = true from by decide +kernel]
  have HBC := Lib.hid (HBC.out.trans (hb7.mono HBC.out.size))
  clear hb7
  dsimp only
  repeat (first | go_skip | go_guarded | go_step)
  go_ret
  exact ⟨rfl, HB0.out.trans (HBC.out.mono HB0.out.size)⟩
end Go.Proofs.Ytcoafgnbmgndeaa
