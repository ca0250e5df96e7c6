/- SafeNames, from what is asked of the program: the frame. No condition. -/
import Derived.Test.YtggnhgfickkgdaaSbF
set_option linter.unusedVariables false
set_option linter.unusedSimpArgs false
namespace Go.Proofs.Ytggnhgfickkgdaa.safeNames
open Go Go.RowKit Go.ChangeShapes Go.WideShapes Go.ChangeAt

theorem walkAll (ok : SafeOk) (wk : SWorksOk) (A : Option Addr) (n c : Nat) (Q : List ClA) (C : List Cl) (A2 : Option Addr) (nf c2 : Nat) (Y : List AtR) (mv : UInt32) (by_ : UInt8) (w : World) (h : RdCs w w.heap.size A n Q C) (hnc : n ≤ c) (h2 : Rd w w.heap.size 2 A2 nf (Y.flatMap atC)) (hY : Y.length = nf) :
    Calls Try.prog 5 #[.slice A n c, .slice A2 nf c2, nv mv, .int .u8 (by_.toNat : Int)] w fun e w' => e = .returned (.bool true) ∧ Below w.heap.size w w' := by
  cases hb1 : fewB n nf C Y with
  | false => exact walkFew wk A n c Q C A2 nf c2 Y mv by_ w h h2 hY (.inl hb1)
  | true =>
    by_cases h4 : 40 < n
    · exact walkFew wk A n c Q C A2 nf c2 Y mv by_ w h h2 hY (.inr (.inl h4))
    · by_cases h5 : 40 < nf
      · exact walkFew wk A n c Q C A2 nf c2 Y mv by_ w h h2 hY (.inr (.inr h5))
      · have hs : Slim C := by
          unfold fewB at hb1
          simp only [Bool.and_eq_true] at hb1
          exact few_slim hb1.2.1
        exact walk ok wk A n c Q C A2 nf c2 Y mv by_ w h hnc h2 hY hb1 (by omega) (by omega) hs

set_option maxRecDepth 100000 in
theorem lifted (ok : SafeOk) (wk : SWorksOk) (os : Os) (started : os.Started) (H : Type) (enc : TypeId × Value → H) :
    ReturnsInHanded {} Try.checked os 5 .any (Rows.safeNamesSpec.pre6 enc Try.prog Try.f5 Rows.safeNamesRow.domain false) (Rows.safeNamesSpec.post enc Try.prog Try.f5 false true false false) := by
  refine returnsInHanded_of_change_sized (C := Try.checked) ownKA started (by kernel_rfl) Try.func5
    (ChangeSpec.witness6 (enc := enc) (C := Try.checked) false ⟨#[], #[.slice none 0 0, .slice none 0 0, .int .u32 0, .int .u8 0], []⟩ 8 (by kernel_rfl) (by kernel_rfl) (by kernel_rfl) (by kernel_rfl)) ?_
  intro W base args ds gs before hval0 hW hcnd hsz0 _
  have hval : ∀ (j : Nat) t v, Try.f5.params[j]? = some t → args[j]? = some v → Value.okWide Try.prog W .any base t v := hval0
  have hlt : ∀ x ∈ before, x.block < W.heap.size := fun x hx => by simpa using hW.lt x hx
  have hW' := hW
  obtain ⟨p, q, hA0, hV, rfl, hfz, hnd⟩ := hW
  have hA : DataW.TrodAll enc Try.prog W 0 (fun _ => true) true Try.f5.params.toList args.toList ds p := hA0
  rw [Try.params5] at hA hval
  obtain ⟨v0, vs0, d0, ds0, p0, q0, hargs, rfl, rfl, h0, r0⟩ := trodAll_cons hA
  obtain ⟨v1, vs1, d1, ds1, p1, q1, rfl, rfl, rfl, h1, r1⟩ := trodAll_cons r0
  obtain ⟨v2, vs2, d2, ds2, p2, q2, rfl, rfl, rfl, h2, r2⟩ := trodAll_cons r1
  obtain ⟨v3, vs3, d3, ds3, p3, q3, rfl, rfl, rfl, h3, r3⟩ := trodAll_cons r2
  obtain ⟨rfl, rfl, rfl⟩ := trodAll_nil r3
  obtain rfl : args = #[v0, v1, v2, v3] := by cases args; simp_all
  obtain ⟨rfl, rfl⟩ := trodVars_none hV
  obtain ⟨zb, rfl, rfl, rfl, wzb⟩ := open_int Try.underlying5 (hval 3 5 v3 rfl rfl) h3
  have bzb := bounds_u8 wzb
  obtain ⟨by_, rfl⟩ : ∃ m : UInt8, zb = (m.toNat : Int) := ⟨UInt8.ofNat zb.toNat, by rw [UInt8.toNat_ofNat_of_lt' (by show zb.toNat < 256; omega)]; omega⟩
  obtain ⟨zm, rfl, rfl, rfl, wzm⟩ := open_int Try.underlying30 (hval 2 30 v2 rfl rfl) h2
  obtain ⟨mv, hmv⟩ := u32_of wzm
  obtain ⟨A2, nf, c2, Y, rfl, hk2, hm2, hY, hr2⟩ := open_facts (hval 1 23 v1 rfl rfl) h1 (fun x hx => hlt x (by simp [hx]))
  obtain ⟨A, n, c, Q, C, rfl, hk1, hm1, hr1⟩ := open_clauses (hval 0 22 v0 rfl rfl) h0 (fun x hx => hlt x (by simp [hx]))
  have hwk := walkAll ok wk A n c Q C A2 nf c2 Y mv by_ W hr1 hk1 hr2 hY
  rw [← hmv] at hwk
  refine hwk.mono fun e W' ⟨he, hg⟩ => ?_
  subst he
  exact ⟨_, rfl, post_law laidOutA rfl (by kernel_rfl) hW' hg rfl Try.underlying4 rfl rfl rfl⟩

theorem proved_of (ok : SafeOk) (wk : SWorksOk) : Rows.SafeNamesSaid :=
  OpenClaim.holds_of_wide 5 Try.f5 rfl rfl rfl rfl rfl rfl rfl ⟨rfl, rfl, rfl, rfl, rfl⟩ rfl rfl rfl rfl rfl (by kernel_rfl) Try.func5 (by kernel_rfl)
    (of_decide_eq_true (by kernel_rfl)) (by unfold Func.isWrapper; first | (rw [if_pos (by decide +kernel)]; kernel_rfl) | (rw [if_neg (by decide +kernel)]; exact ⟨rfl, rfl⟩))
    (fun os started H enc _ => lifted ok wk os started H enc)
#print axioms proved_of
end Go.Proofs.Ytggnhgfickkgdaa.safeNames
