/- OctetVars: any number's var is put as the document says, and what stands at any place is taken as it says; what is handed in stays. No condition. -/
import Derived.Test.YthkinhgkchbjkaaOctK
set_option linter.unusedVariables false
namespace Go.Proofs.Ythkinhgkchbjkaa.octetVars
open Go Go.RowKit Go.ChangeShapes Go.WideShapes Go.ChangeAt

set_option maxRecDepth 100000 in
set_option maxHeartbeats 2000000 in
theorem walk (A : Option Addr) (n c : Nat) (bs : List UInt8) (N : Nat) (t : Int) (w : World) (hr : Rd w w.heap.size 1 A n (bs.map bv)) (hc : n ≤ c) (hm : c ≤ 140737488351232) (hN : N < 18446744073709551616) :
    Calls Try.prog 3 #[.slice A n c, .int .u64 (N : Int), .int .i64 t] w fun e w' => e = .returned (.bool true) ∧ Below w.heap.size w w' := by
  by_cases hv : 8192 < n
  · go_enter Try.func3, Try.ntmps3
    go_wp2_with (first
      | (go_at_call 8; refine (vast_yes A n c _ hv).mono ?_; rintro e w1 ⟨rfl, rfl⟩)
      | (go_at_call 9; refine (works_any _).mono ?_; rintro e w2 ⟨rfl, hb2⟩))
    go_ret
    exact ⟨rfl, hb2⟩
  · have hv : n ≤ 8192 := by omega
    obtain ⟨x1, x2, x3, hx⟩ : ∃ v x z, tvAns bs t = (v, x, z) := ⟨_, _, _, rfl⟩
    have HX := Lib.hid hx
    clear hx
    have HV := Lib.hid (vast_no A n c w hv)
    go_enter Try.func3, Try.ntmps3
    go_wp2_with (go_at_call 8; refine HV.out.mono ?_; rintro e w1 ⟨rfl, rfl⟩)
    refine (roomy_any A n c bs _ hr hv).mono ?_
    rintro e w1 ⟨rfl, hB1, hb1⟩
    have hro : Rd w1 w1.heap.size 1 (some ⟨w.heap.size, 0, none⟩) n (bs.map bv) := by
      have hl : bs.length = n := by simpa using hr.len1
      have := hB1.rd n (by rw [roomB_len]; omega)
      have e : (roomB bs).take n = bs.map bv := by
        unfold roomB
        rw [List.take_append_of_le_length (by simp; omega), List.take_of_length_le (by simp; omega)]
      rwa [e] at this
    go_wp2_with fail
    refine (putVar_any _ n (n + 30) bs N _ hro (by omega) (by omega) (by omega)).mono ?_
    rintro e w2 ⟨A2, m2, c2, rfl, ho2, hb2⟩
    have hb02 := hb1.trans (hb2.mono hb1.size)
    go_wp2_with fail
    refine (kept_any w.heap.size A n c _ bs _ (hB1.later hb2) (hr.below hb02) hv).mono ?_
    rintro e w3 ⟨rfl, rfl⟩
    go_wp2_with fail
    refine (rPutVar_any A n c bs N _ ((hr.below hb02).more hb02.size) (by omega) (by omega) (by omega)).mono ?_
    rintro e w4 ⟨A4, m4, c4, rfl, ho4, hb4⟩
    have hb04 := hb02.trans (hb4.mono hb02.size)
    go_wp2_with fail
    refine (same_any A2 m2 c2 _ A4 m4 c4 _ _ _ _ (ho2.rd.below hb4) ho4.rd).mono ?_
    rintro e w5 ⟨rfl, rfl⟩
    go_wp2_with fail
    refine (takeVar_any _ n (n + 30) _ t bs _ ((hro.below hb2).below (hb4.mono hb2.size)) (by omega) (by omega) x1 x2 x3 HX.out).mono ?_
    rintro e w5 ⟨rfl, rfl⟩
    go_wp2_with fail
    refine (rTakeVar_any A n c t bs _ ((hr.below hb04).more hb04.size) hc (by omega) x1 x2 x3 HX.out).mono ?_
    rintro e w5 ⟨rfl, hb5⟩
    have hb05 := hb04.trans (hb5.mono hb04.size)
    go_wp2_with (go_at_call 9; refine (works_any _).mono ?_; rintro e w6 ⟨rfl, hb6⟩)
    go_ret
    exact ⟨rfl, hb05.trans (hb6.mono hb05.size)⟩

set_option maxRecDepth 100000 in
theorem lifted (os : Os) (started : os.Started) (H : Type) (enc : TypeId × Value → H) :
    ReturnsInHanded {} Try.checked os 3 .any (Rows.octetVarsSpec.pre6 enc Try.prog Try.f3 Rows.octetVarsRow.domain false) (Rows.octetVarsSpec.post enc Try.prog Try.f3 false true false false) := by
  refine returnsInHanded_of_change_sized (C := Try.checked) ownK started (by kernel_rfl) Try.func3
    (ChangeSpec.witness6 (enc := enc) (C := Try.checked) false ⟨#[], #[.slice none 0 0, .int .u64 0, .int .i64 0], []⟩ 8 (by kernel_rfl) (by kernel_rfl) (by kernel_rfl) (by kernel_rfl)) ?_
  intro W base args ds gs before hval0 hW hcnd hsz0 _
  have hsz : (DataW.weightsEach Try.prog (Try.f3.params.toList ++ Rows.octetVarsSpec.plain.varTypes Try.prog) (ds ++ gs)).all (· ≤ reachBytes) = true := hsz0
  have hval : ∀ (j : Nat) t v, Try.f3.params[j]? = some t → args[j]? = some v → Value.okWide Try.prog W .any base t v := hval0
  have hlt : ∀ x ∈ before, x.block < W.heap.size := fun x hx => by simpa using hW.lt x hx
  have hW' := hW
  obtain ⟨p, q, hA0, hV, rfl, hfz, hnd⟩ := hW
  have hA : DataW.TrodAll enc Try.prog W 0 (fun _ => true) true Try.f3.params.toList args.toList ds p := hA0
  rw [Try.params3] at hA hval hsz
  obtain ⟨v0, vs0, d0, ds0, p0, q0, hargs, rfl, rfl, h0, r0⟩ := trodAll_cons hA
  obtain ⟨v1, vs1, d1, ds1, p1, q1, rfl, rfl, rfl, h1, r1⟩ := trodAll_cons r0
  obtain ⟨v2, vs2, d2, ds2, p2, q2, rfl, rfl, rfl, h2, r2⟩ := trodAll_cons r1
  obtain ⟨rfl, rfl, rfl⟩ := trodAll_nil r2
  obtain rfl : args = #[v0, v1, v2] := by cases args; simp_all
  obtain ⟨rfl, rfl⟩ := trodVars_none hV
  obtain ⟨t, rfl, rfl, rfl, wt⟩ := open_int Try.underlying3 (hval 2 3 v2 rfl rfl) h2
  obtain ⟨a0, rfl, rfl, rfl, w0⟩ := open_int Try.underlying23 (hval 1 23 v1 rfl rfl) h1
  obtain ⟨A, n, c, bs, rfl, hc, hm, hr⟩ := open_bytes (hval 0 22 v0 rfl rfl) h0 (fun x hx => hlt x (by simp [hx])) (fun elems spare e => by
    have := sized_slice hsz (j := 0) (t := 22) (e := 5) (elems := elems) (spare := spare) rfl (by rw [e]; rfl) Try.underlying22
    rw [bytes8] at this
    simp only [reachBytes] at this
    omega)
  have hb := u64_bd w0
  obtain ⟨N, rfl⟩ := Int.eq_ofNat_of_zero_le hb.1
  refine (walk A n c bs N t W hr hc hm (by omega)).mono fun e W' ⟨he, hg⟩ => ?_
  subst he
  exact ⟨_, rfl, post_law laidOut rfl (by kernel_rfl) hW' hg rfl Try.underlying4 rfl rfl rfl⟩

theorem proved : Rows.OctetVarsSaid :=
  OpenClaim.holds_of_wide 3 Try.f3 rfl rfl rfl rfl rfl rfl rfl ⟨rfl, rfl, rfl, rfl, rfl⟩ rfl rfl rfl rfl rfl (by kernel_rfl) Try.func3 (by kernel_rfl)
    (of_decide_eq_true (by kernel_rfl)) (by unfold Func.isWrapper; first | (rw [if_pos (by decide +kernel)]; kernel_rfl) | (rw [if_neg (by decide +kernel)]; exact ⟨rfl, rfl⟩))
    (fun os started H enc _ => lifted os started H enc)
#print axioms proved
end Go.Proofs.Ythkinhgkchbjkaa.octetVars
