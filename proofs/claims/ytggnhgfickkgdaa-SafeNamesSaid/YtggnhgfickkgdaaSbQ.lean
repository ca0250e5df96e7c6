/- SafeParts, from what is asked of the program: the frame. No condition. -/
import Derived.Test.YtggnhgfickkgdaaSbP
set_option linter.unusedVariables false
set_option linter.unusedSimpArgs false
namespace Go.Proofs.Ytggnhgfickkgdaa.safeParts
open Go Go.RowKit Go.ChangeShapes Go.WideShapes Go.ChangeAt

theorem walkAll (ok : SafeOk) (wk : SWorksOk) (A : Option Addr) (n c : Nat) (Q : List ClA) (C : List Cl) (A2 : Option Addr) (n2 c2 : Nat) (Q2 : List ClA) (C2 : List Cl) (a : Nat) (w : World) (h : RdCs w w.heap.size A n Q C) (hnc : n ≤ c) (hcap : ∀ q ∈ Q, q.1.2.1 ≤ q.1.2.2 ∧ q.2.1.2.1 ≤ q.2.1.2.2) (h2 : RdCs w w.heap.size A2 n2 Q2 C2) (ha : a ≤ 255) :
    Calls Try.prog 4 #[.slice A n c, .slice A2 n2 c2, .int .u8 (a : Int)] w fun e w' => e = .returned (.bool true) ∧ Below w.heap.size w w' := by
  have hlim : ∀ (n : Nat) (C : List Cl), fewB n 0 C [] = true → n ≤ 1000 ∧ Slim C := fun n C hb => by
    unfold fewB fewH at hb
    simp only [Bool.and_eq_true, Bool.not_eq_true', Bool.or_eq_false_iff, decide_eq_false_iff_not, Bool.and_eq_false_iff] at hb
    obtain ⟨⟨⟨_, hb2⟩, _⟩, hb4, _⟩ := hb
    exact ⟨by omega, few_slim hb4⟩
  cases hb1 : fewB n 0 C [] with
  | false => exact walkFew wk A n c Q C A2 n2 c2 Q2 C2 a w h h2 (.inl hb1)
  | true =>
    cases hb2 : fewB n2 0 C2 [] with
    | false => exact walkFew wk A n c Q C A2 n2 c2 Q2 C2 a w h h2 (.inr (.inl hb2))
    | true =>
      obtain ⟨l1, s1⟩ := hlim n C hb1
      obtain ⟨l2, s2⟩ := hlim n2 C2 hb2
      by_cases hle : n + n2 ≤ 120
      · by_cases hok : (rightM C).2 = 0
        · rcases Nat.eq_zero_or_pos n with h0 | h0
          · subst h0
            exact walkNone ok wk A c Q C A2 n2 c2 Q2 C2 a w h h2 hb1 hb2 (by omega) s1 hok
          · exact walk ok wk A n c Q C A2 n2 c2 Q2 C2 a w h hnc h2 hb1 hb2 hle s1 hcap hok h0 ha
        · exact walkBad ok wk A n c Q C A2 n2 c2 Q2 C2 a w h hnc h2 hb1 hb2 hle s1 s2 hok
      · exact walkFew wk A n c Q C A2 n2 c2 Q2 C2 a w h h2 (.inr (.inr ⟨by omega, by omega, by omega⟩))

set_option maxRecDepth 100000 in
theorem lifted (ok : SafeOk) (wk : SWorksOk) (os : Os) (started : os.Started) (H : Type) (enc : TypeId × Value → H) :
    ReturnsInHanded {} Try.checked os 4 .any (Rows.safePartsSpec.pre6 enc Try.prog Try.f4 Rows.safePartsRow.domain false) (Rows.safePartsSpec.post enc Try.prog Try.f4 false true false false) := by
  refine returnsInHanded_of_change_sized (C := Try.checked) ownKA started (by kernel_rfl) Try.func4
    (ChangeSpec.witness6 (enc := enc) (C := Try.checked) false ⟨#[], #[.slice none 0 0, .slice none 0 0, .int .u8 0], []⟩ 8 (by kernel_rfl) (by kernel_rfl) (by kernel_rfl) (by kernel_rfl)) ?_
  intro W base args ds gs before hval0 hW hcnd hsz0 _
  have hval : ∀ (j : Nat) t v, Try.f4.params[j]? = some t → args[j]? = some v → Value.okWide Try.prog W .any base t v := hval0
  have hlt : ∀ x ∈ before, x.block < W.heap.size := fun x hx => by simpa using hW.lt x hx
  have hW' := hW
  obtain ⟨p, q, hA0, hV, rfl, hfz, hnd⟩ := hW
  have hA : DataW.TrodAll enc Try.prog W 0 (fun _ => true) true Try.f4.params.toList args.toList ds p := hA0
  rw [Try.params4] at hA hval
  obtain ⟨v0, vs0, d0, ds0, p0, q0, hargs, rfl, rfl, h0, r0⟩ := trodAll_cons hA
  obtain ⟨v1, vs1, d1, ds1, p1, q1, rfl, rfl, rfl, h1, r1⟩ := trodAll_cons r0
  obtain ⟨v2, vs2, d2, ds2, p2, q2, rfl, rfl, rfl, h2, r2⟩ := trodAll_cons r1
  obtain ⟨rfl, rfl, rfl⟩ := trodAll_nil r2
  obtain rfl : args = #[v0, v1, v2] := by cases args; simp_all
  obtain ⟨rfl, rfl⟩ := trodVars_none hV
  obtain ⟨za, rfl, rfl, rfl, wza⟩ := open_int Try.underlying5 (hval 2 5 v2 rfl rfl) h2
  have bza := bounds_u8 wza
  obtain ⟨a, rfl⟩ : ∃ m : Nat, za = (m : Int) := ⟨za.toNat, by omega⟩
  obtain ⟨A2, n2, c2, Q2, C2, rfl, hk2, hm2, hr2⟩ := open_clauses (hval 1 22 v1 rfl rfl) h1 (fun x hx => hlt x (by simp [hx]))
  obtain ⟨A, n, c, Q, C, rfl, hk1, hm1, hr1, hcap⟩ := open_clauses2 (hval 0 22 v0 rfl rfl) h0 (fun x hx => hlt x (by simp [hx]))
  refine (walkAll ok wk A n c Q C A2 n2 c2 Q2 C2 a W hr1 hk1 hcap hr2 (by omega)).mono fun e W' ⟨he, hg⟩ => ?_
  subst he
  exact ⟨_, rfl, post_law laidOutA rfl (by kernel_rfl) hW' hg rfl Try.underlying4 rfl rfl rfl⟩

theorem proved_of (ok : SafeOk) (wk : SWorksOk) : Rows.SafePartsSaid :=
  OpenClaim.holds_of_wide 4 Try.f4 rfl rfl rfl rfl rfl rfl rfl ⟨rfl, rfl, rfl, rfl, rfl⟩ rfl rfl rfl rfl rfl (by kernel_rfl) Try.func4 (by kernel_rfl)
    (of_decide_eq_true (by kernel_rfl)) (by unfold Func.isWrapper; first | (rw [if_pos (by decide +kernel)]; kernel_rfl) | (rw [if_neg (by decide +kernel)]; exact ⟨rfl, rfl⟩))
    (fun os started H enc _ => lifted ok wk os started H enc)
#print axioms proved_of
end Go.Proofs.Ytggnhgfickkgdaa.safeParts
