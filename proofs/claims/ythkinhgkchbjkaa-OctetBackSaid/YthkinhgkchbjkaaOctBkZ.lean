/- OctetBack: the statement, from the walks. -/
import Derived.Test.YthkinhgkchbjkaaOctBkA
import Derived.Test.YthkinhgkchbjkaaOctBkB
import Derived.Test.YthkinhgkchbjkaaOctBkC
import Derived.Test.YthkinhgkchbjkaaOctBkD
set_option linter.unusedVariables false
namespace Go.Proofs.Ythkinhgkchbjkaa.octetBack
open Go Go.RowKit Go.ChangeShapes Go.WideShapes Go.ChangeAt

set_option maxRecDepth 100000 in
theorem lifted (os : Os) (started : os.Started) (H : Type) (enc : TypeId × Value → H) :
    ReturnsInHanded {} Try.checked os 5 .any (Rows.octetBackSpec.pre6 enc Try.prog Try.f5 Rows.octetBackRow.domain false) (Rows.octetBackSpec.post enc Try.prog Try.f5 false true false false) := by
  refine returnsInHanded_of_change_sized (C := Try.checked) ownK started (by kernel_rfl) Try.func5
    (ChangeSpec.witness6 (enc := enc) (C := Try.checked) false ⟨#[], #[.slice none 0 0, .slice none 0 0, .slice none 0 0, .slice none 0 0, .int .u64 0, .int .u8 0], []⟩ 8 (by kernel_rfl) (by kernel_rfl) (by kernel_rfl) (by kernel_rfl)) ?_
  intro W base args ds gs before hval0 hW hcnd hsz0 _
  have hsz : (DataW.weightsEach Try.prog (Try.f5.params.toList ++ Rows.octetBackSpec.plain.varTypes Try.prog) (ds ++ gs)).all (· ≤ reachBytes) = true := hsz0
  have hval : ∀ (j : Nat) t v, Try.f5.params[j]? = some t → args[j]? = some v → Value.okWide Try.prog W .any base t v := hval0
  have hlt : ∀ x ∈ before, x.block < W.heap.size := fun x hx => by simpa using hW.lt x hx
  have hW' := hW
  obtain ⟨p, q, hA0, hV, rfl, hfz, hnd⟩ := hW
  have hA : DataW.TrodAll enc Try.prog W 0 (fun _ => true) true Try.f5.params.toList args.toList ds p := hA0
  rw [Try.params5] at hA hval hsz
  obtain ⟨v0, vs0, d0, ds0, p0, q0, hargs, rfl, rfl, h0, r0⟩ := trodAll_cons hA
  obtain ⟨v1, vs1, d1, ds1, p1, q1, rfl, rfl, rfl, h1, r1⟩ := trodAll_cons r0
  obtain ⟨v2, vs2, d2, ds2, p2, q2, rfl, rfl, rfl, h2, r2⟩ := trodAll_cons r1
  obtain ⟨v3, vs3, d3, ds3, p3, q3, rfl, rfl, rfl, h3, r3⟩ := trodAll_cons r2
  obtain ⟨v4, vs4, d4, ds4, p4, q4, rfl, rfl, rfl, h4, r4⟩ := trodAll_cons r3
  obtain ⟨v5, vs5, d5, ds5, p5, q5, rfl, rfl, rfl, h5, r5⟩ := trodAll_cons r4
  obtain ⟨rfl, rfl, rfl⟩ := trodAll_nil r5
  obtain rfl : args = #[v0, v1, v2, v3, v4, v5] := by cases args; simp_all
  obtain ⟨rfl, rfl⟩ := trodVars_none hV
  obtain ⟨z, rfl, rfl, rfl, wz⟩ := open_int Try.underlying5 (hval 5 5 v5 rfl rfl) h5
  obtain ⟨N, rfl, rfl, rfl, wN⟩ := open_int Try.underlying23 (hval 4 23 v4 rfl rfl) h4
  obtain ⟨A3, n3, c3, b3, rfl, hc3, hm3, hr3⟩ := open_bytes (hval 3 22 v3 rfl rfl) h3 (fun x hx => hlt x (by simp [hx])) (fun elems spare e => by
    have := sized_slice hsz (j := 3) (t := 22) (e := 5) (elems := elems) (spare := spare) rfl (by rw [e]; rfl) Try.underlying22
    rw [bytes8] at this
    simp only [reachBytes] at this
    omega)
  obtain ⟨A2, n2, c2, b2, rfl, hc2, hm2, hr2⟩ := open_bytes (hval 2 22 v2 rfl rfl) h2 (fun x hx => hlt x (by simp [hx])) (fun elems spare e => by
    have := sized_slice hsz (j := 2) (t := 22) (e := 5) (elems := elems) (spare := spare) rfl (by rw [e]; rfl) Try.underlying22
    rw [bytes8] at this
    simp only [reachBytes] at this
    omega)
  obtain ⟨A1, n1, c1, b1, rfl, hc1, hm1, hr1⟩ := open_bytes (hval 1 22 v1 rfl rfl) h1 (fun x hx => hlt x (by simp [hx])) (fun elems spare e => by
    have := sized_slice hsz (j := 1) (t := 22) (e := 5) (elems := elems) (spare := spare) rfl (by rw [e]; rfl) Try.underlying22
    rw [bytes8] at this
    simp only [reachBytes] at this
    omega)
  obtain ⟨A0, n0, c0, b0, rfl, hc0, hm0, hr0⟩ := open_bytes (hval 0 22 v0 rfl rfl) h0 (fun x hx => hlt x (by simp [hx])) (fun elems spare e => by
    have := sized_slice hsz (j := 0) (t := 22) (e := 5) (elems := elems) (spare := spare) rfl (by rw [e]; rfl) Try.underlying22
    rw [bytes8] at this
    simp only [reachBytes] at this
    omega)
  have bz := u8_bd wz
  have bN := u64_bd wN
  obtain ⟨z, rfl⟩ := Int.eq_ofNat_of_zero_le (show 0 ≤ z by omega)
  obtain ⟨N, rfl⟩ := Int.eq_ofNat_of_zero_le (show 0 ≤ N by omega)
  have main : Calls Try.prog 5 #[.slice A0 n0 c0, .slice A1 n1 c1, .slice A2 n2 c2, .slice A3 n3 c3, .int .u64 (N : Int), .int .u8 (z : Int)] W fun e w' => e = .returned (.bool true) ∧ Below W.heap.size W w' := by
    by_cases hv : 8192 < n0 ∨ 8192 < n1 ∨ 8192 < n2 ∨ 8192 < n3
    · exact walkVast A0 A1 A2 A3 n0 c0 n1 c1 n2 c2 n3 c3 b0 b1 b2 b3 N z W hr0 hr1 hr2 hr3 hc3 (by omega) (by omega) (by omega) hv
    · obtain ⟨m, x, h, hh⟩ : ∃ m x h, tvAns b3 0 = (m, x, h) := ⟨_, _, _, rfl⟩
      by_cases h8 : z % 8 < 7
      · by_cases h0' : h = 0
        · exact walkA A0 A1 A2 A3 n0 c0 n1 c1 n2 c2 n3 c3 b0 b1 b2 b3 N z W hr0 hr1 hr2 hr3 hc3 (by omega) (by omega) (by omega) (by omega) (by omega) (by omega) (by omega) h8 m x h hh h0'
        · exact walkC A0 A1 A2 A3 n0 c0 n1 c1 n2 c2 n3 c3 b0 b1 b2 b3 N z W hr0 hr1 hr2 hr3 hc3 (by omega) (by omega) (by omega) (by omega) (by omega) (by omega) (by omega) h8 m x h hh h0'
      · by_cases h0' : h = 0
        · exact walkB A0 A1 A2 A3 n0 c0 n1 c1 n2 c2 n3 c3 b0 b1 b2 b3 N z W hr0 hr1 hr2 hr3 hc3 (by omega) (by omega) (by omega) (by omega) (by omega) (by omega) (by omega) (by omega) m x h hh h0'
        · exact walkD A0 A1 A2 A3 n0 c0 n1 c1 n2 c2 n3 c3 b0 b1 b2 b3 N z W hr0 hr1 hr2 hr3 hc3 (by omega) (by omega) (by omega) (by omega) (by omega) (by omega) (by omega) (by omega) m x h hh h0'
  refine main.mono fun e W' ⟨he, hg⟩ => ?_
  subst he
  exact ⟨_, rfl, post_law laidOut rfl (by kernel_rfl) hW' hg rfl Try.underlying4 rfl rfl rfl⟩

theorem proved : Rows.OctetBackSaid :=
  OpenClaim.holds_of_wide 5 Try.f5 rfl rfl rfl rfl rfl rfl rfl ⟨rfl, rfl, rfl, rfl, rfl⟩ rfl rfl rfl rfl rfl (by kernel_rfl) Try.func5 (by kernel_rfl)
    (of_decide_eq_true (by kernel_rfl)) (by unfold Func.isWrapper; first | (rw [if_pos (by decide +kernel)]; kernel_rfl) | (rw [if_neg (by decide +kernel)]; exact ⟨rfl, rfl⟩))
    (fun os started H enc _ => lifted os started H enc)
#print axioms proved
end Go.Proofs.Ythkinhgkchbjkaa.octetBack
