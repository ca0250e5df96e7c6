/- WireBack holds of the landed program: what was put is taken, whatever stands ahead and behind, and is no longer than told; what is taken is put as it stood (P6.3). No condition but those of the given statement. -/
import Derived.Test.YtcoafgnbmgndeaaWrBk
import Derived.Test.YtcoafgnbmgndeaaWqY
set_option linter.unusedVariables false
set_option linter.unusedSimpArgs false
namespace Go.Proofs.Ytcoafgnbmgndeaa.wireBack
open Go Go.RowKit
open Go.ChangeShapes Go.WideShapes Go.ChangeAt

set_option maxRecDepth 100000 in
theorem lifted (os : Os) (started : os.Started) (H : Type) (enc : TypeId × Value → H) :
    ReturnsInHanded {} Try.checked os 6 .any (Rows.wireBackSpec.pre6 enc Try.prog Try.f6 Rows.wireBackRow.domain false) (Rows.wireBackSpec.post enc Try.prog Try.f6 false true false false) := by
  refine returnsInHanded_of_change_sized (C := Try.checked) ownK started (by kernel_rfl) Try.func6
    (ChangeSpec.witness6 (enc := enc) (C := Try.checked) false ⟨#[], #[.agg #[.int .u32 0, .slice none 0 0], .agg #[.int .u32 0, .slice none 0 0, .slice none 0 0], .agg #[.bool false, .bool false, .int .u32 0, .int .u32 0, .slice none 0 0, .slice none 0 0], .slice none 0 0, .slice none 0 0], []⟩ 8 (by kernel_rfl) (by kernel_rfl) (by kernel_rfl) (by kernel_rfl)) ?_
  intro W base args ds gs before hval0 hW hcnd hsz0 _
  have hsz : (DataW.weightsEach Try.prog (Try.f6.params.toList ++ Rows.wireBackSpec.plain.varTypes Try.prog) (ds ++ gs)).all (· ≤ reachBytes) = true := hsz0
  have hval : ∀ (j : Nat) t v, Try.f6.params[j]? = some t → args[j]? = some v → Value.okWide Try.prog W .any base t v := hval0
  have hlt : ∀ x ∈ before, x.block < W.heap.size := fun x hx => by simpa using hW.lt x hx
  have hW' := hW
  obtain ⟨p, q, hA0, hV, rfl, hfz, hnd⟩ := hW
  have hA : DataW.TrodAll enc Try.prog W 0 (fun _ => true) true Try.f6.params.toList args.toList ds p := hA0
  rw [Try.params6] at hA hval hsz
  obtain ⟨v0, vs0, d0, ds0, p0, q0, hargs, rfl, rfl, h0, r0⟩ := trodAll_cons hA
  obtain ⟨v1, vs1, d1, ds1, p1, q1, rfl, rfl, rfl, h1, r1⟩ := trodAll_cons r0
  obtain ⟨v2, vs2, d2, ds2, p2, q2, rfl, rfl, rfl, h2, r2⟩ := trodAll_cons r1
  obtain ⟨v3, vs3, d3, ds3, p3, q3, rfl, rfl, rfl, h3, r3⟩ := trodAll_cons r2
  obtain ⟨v4, vs4, d4, ds4, p4, q4, rfl, rfl, rfl, h4, r4⟩ := trodAll_cons r3
  obtain ⟨rfl, rfl, rfl⟩ := trodAll_nil r4
  obtain rfl : args = #[v0, v1, v2, v3, v4] := by cases args; simp_all
  obtain ⟨rfl, rfl⟩ := trodVars_none hV
  obtain ⟨p, A1, n1, c1, l, rfl, hk0, hm0, hf1⟩ := open_fact (hval 0 26 v0 rfl rfl) h0 (fun x hx => hlt x (by simp [hx]))
  obtain ⟨q, B1, e1, f1, k, B3, e3, f3, S3, M3, rfl, hk1, hm1, hk1b, hm1b, hc1, hc3⟩ := open_clause (hval 1 45 v1 rfl rfl) h1 (fun x hx => hlt x (by simp [hx]))
  obtain ⟨s0, x0, r, C1, g1, gh1, j, C3, g3, gh3, T3, O3, rfl, hk2, hm2, hk2b, hm2b, hr1, hr3⟩ := open_rule (hval 2 59 v2 rfl rfl) h2 (fun x hx => hlt x (by simp [hx]))
  obtain ⟨A, n, c, bs, rfl, hk3, hm3, ht⟩ := open_bytes (hval 3 22 v3 rfl rfl) h3 (fun x hx => hlt x (by simp [hx])) (fun elems spare e => by
    have := sized_slice hsz (j := 3) (t := 22) (e := 5) (elems := elems) (spare := spare) rfl (by rw [e]; rfl) Try.underlying22
    rw [bytes8] at this
    simp only [reachBytes] at this
    omega)
  obtain ⟨A2, n2, c2, bs2, rfl, hk4, hm4, hw2⟩ := open_bytes (hval 4 22 v4 rfl rfl) h4 (fun x hx => hlt x (by simp [hx])) (fun elems spare e => by
    have := sized_slice hsz (j := 4) (t := 22) (e := 5) (elems := elems) (spare := spare) rfl (by rw [e]; rfl) Try.underlying22
    rw [bytes8] at this
    simp only [reachBytes] at this
    omega)
  have main : Calls Try.prog 6 #[.agg #[nv p, .slice A1 n1 c1], .agg #[nv q, .slice B1 e1 f1, .slice B3 e3 f3], .agg #[.bool s0, .bool x0.1, nv x0.2, nv r, .slice C1 g1 gh1, .slice C3 g3 gh3], .slice A n c, .slice A2 n2 c2] W fun e w' => e = .returned (.bool true) ∧ Below W.heap.size W w' := by
    exact walk wire_ok p A1 n1 c1 l q B1 e1 f1 k B3 e3 f3 S3 M3 s0 x0 r C1 g1 gh1 j C3 g3 gh3 T3 O3 A n c bs A2 n2 c2 bs2 W hf1 hk0 hc1 hk1 hc3 hk1b hr1 hk2 hr3 hk2b ht hk3 hw2 hk4
  refine main.mono fun e W' ⟨he, hg⟩ => ?_
  subst he
  exact ⟨_, rfl, post_law laidOut rfl (by kernel_rfl) hW' hg rfl Try.underlying4 rfl rfl rfl⟩

theorem proved : Rows.WireBackSaid :=
  OpenClaim.holds_of_wide 6 Try.f6 rfl rfl rfl rfl rfl rfl rfl ⟨rfl, rfl, rfl, rfl, rfl⟩ rfl rfl rfl rfl rfl (by kernel_rfl) Try.func6 (by kernel_rfl)
    (of_decide_eq_true (by kernel_rfl)) (by unfold Func.isWrapper; first | (rw [if_pos (by decide +kernel)]; kernel_rfl) | (rw [if_neg (by decide +kernel)]; exact ⟨rfl, rfl⟩))
    (fun os started H enc _ => lifted os started H enc)
#print axioms proved
end Go.Proofs.Ytcoafgnbmgndeaa.wireBack
