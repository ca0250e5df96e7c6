/- OctetShort: a var has as many bytes as its number has groups of seven bits. No condition. -/
import Derived.Test.YthkinhgkchbjkaaOctL
set_option linter.unusedVariables false
namespace Go.Proofs.Ythkinhgkchbjkaa.octetShort
open Go Go.RowKit Go.ChangeShapes Go.WideShapes Go.ChangeAt

set_option maxRecDepth 100000 in
set_option maxHeartbeats 1000000 in
theorem walk (N : Nat) (hN : N < 18446744073709551616) (w : World) :
    Calls Try.prog 6 #[.int .u64 (N : Int)] w fun e w' => e = .returned (.bool true) ∧ Below w.heap.size w w' := by
  have HV := Lib.hid (var_cnt N hN)
  go_enter Try.func6, Try.ntmps6
  go_wp2
  go_loop [3, 4] (fun q p => ∃ (f g r : Nat), q = .int .i64 (g : Int) ∧ p = .int .u64 (r : Int) ∧ r < 18446744073709551616 ∧ r < 128 ^ f ∧ f + g = 10 ∧ g + cnt f r = (var N).length) (fun _ p => (intOf p).toNat)
  case atStart => exact ⟨9, 1, N / 128, rfl, rfl, by omega, by omega, rfl, HV.out.symm⟩
  case round =>
    obtain ⟨f, g, r, rfl, rfl, hr, hrf, hfg, hc⟩ := hrel
    have HC := Lib.hid hc
    clear hc
    rcases Nat.eq_zero_or_pos r with rfl | hpos
    · have hg : g = (var N).length := by
        have := HC.out
        cases f <;> simp [cnt] at this <;> omega
      have HG := Lib.hid hg
      clear hg
      go_wp2_with fail
      refine (putVar_any none 0 0 [] _ _ Rd.nil (by omega) (by omega) (by omega)).mono ?_
      rintro e w1 ⟨A1, m1, c1, rfl, ho1, hb1⟩
      have hm : ((m1 : Int) == (g : Int)) = true := by
        have := ho1.len
        rw [HG.out]
        simp at this
        simp [← this]
      clear HG
      go_wp2_with (go_at_call 9; refine (works_any _).mono ?_; rintro e w2 ⟨rfl, hb2⟩)
      go_ret
      exact ⟨rfl, hb1.trans (hb2.mono hb1.size)⟩
    · obtain ⟨f, rfl⟩ : ∃ h, f = h + 1 := ⟨f - 1, by
        rcases f with _ | f
        · simp at hrf; omega
        · rfl⟩
      go_wp2
      go_round
      case rel => exact ⟨f, g + 1, r / 128, by go_num, by go_num, by omega, by rw [Nat.pow_succ] at hrf; omega, by omega, by have := HC.out; rw [cnt, if_neg (by omega)] at this; omega⟩
      case measure => simp [intOf]; omega

set_option maxRecDepth 100000 in
theorem lifted (os : Os) (started : os.Started) (H : Type) (enc : TypeId × Value → H) :
    ReturnsInHanded {} Try.checked os 6 .any (Rows.octetShortSpec.pre6 enc Try.prog Try.f6 Rows.octetShortRow.domain false) (Rows.octetShortSpec.post enc Try.prog Try.f6 false true false false) := by
  refine returnsInHanded_of_change_sized (C := Try.checked) ownK started (by kernel_rfl) Try.func6
    (ChangeSpec.witness6 (enc := enc) (C := Try.checked) false ⟨#[], #[.int .u64 0], []⟩ 8 (by kernel_rfl) (by kernel_rfl) (by kernel_rfl) (by kernel_rfl)) ?_
  intro W base args ds gs before hval0 hW hcnd hsz0 _
  have hval : ∀ (j : Nat) t v, Try.f6.params[j]? = some t → args[j]? = some v → Value.okWide Try.prog W .any base t v := hval0
  have hW' := hW
  obtain ⟨p, q, hA0, hV, rfl, hfz, hnd⟩ := hW
  have hA : DataW.TrodAll enc Try.prog W 0 (fun _ => true) true Try.f6.params.toList args.toList ds p := hA0
  rw [Try.params6] at hA hval
  obtain ⟨v0, vs0, d0, ds0, p0, q0, hargs, rfl, rfl, h0, r0⟩ := trodAll_cons hA
  obtain ⟨rfl, rfl, rfl⟩ := trodAll_nil r0
  obtain rfl : args = #[v0] := by cases args; simp_all
  obtain ⟨rfl, rfl⟩ := trodVars_none hV
  obtain ⟨a0, rfl, rfl, rfl, w0⟩ := open_int Try.underlying23 (hval 0 23 v0 rfl rfl) h0
  have hb : 0 ≤ a0 ∧ a0 < 18446744073709551616 := by
    have h1 : IntKind.u64.min = 0 := rfl
    have h2 : IntKind.u64.max = 18446744073709551615 := rfl
    simp only [Lit.wf, Bool.and_eq_true, decide_eq_true_eq] at w0
    omega
  obtain ⟨N, rfl⟩ := Int.eq_ofNat_of_zero_le hb.1
  refine (walk N (by omega) W).mono fun e W' ⟨he, hg⟩ => ?_
  subst he
  exact ⟨_, rfl, post_law laidOut rfl (by kernel_rfl) hW' hg rfl Try.underlying4 rfl rfl rfl⟩

theorem proved : Rows.OctetShortSaid :=
  OpenClaim.holds_of_wide 6 Try.f6 rfl rfl rfl rfl rfl rfl rfl ⟨rfl, rfl, rfl, rfl, rfl⟩ rfl rfl rfl rfl rfl (by kernel_rfl) Try.func6 (by kernel_rfl)
    (of_decide_eq_true (by kernel_rfl)) (by unfold Func.isWrapper; first | (rw [if_pos (by decide +kernel)]; kernel_rfl) | (rw [if_neg (by decide +kernel)]; exact ⟨rfl, rfl⟩))
    (fun os started H enc _ => lifted os started H enc)
#print axioms proved
end Go.Proofs.Ythkinhgkchbjkaa.octetShort
