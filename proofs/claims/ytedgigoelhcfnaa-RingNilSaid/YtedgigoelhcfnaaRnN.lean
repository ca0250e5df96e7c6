/- RingNil: whatever the input, the law returns true (where there is no ring each call says so), and the input reads as it did. No condition beside what is asked of the package (RingOk). -/
import Derived.Test.YtedgigoelhcfnaaRnF
import Derived.Test.YtedgigoelhcfnaaRows
set_option linter.unusedVariables false
set_option linter.unusedSimpArgs false
namespace Go.Proofs.Ytedgigoelhcfnaa.ringNil
open Go Go.RowKit Go.ChangeShapes Go.WideShapes Go.ChangeAt

set_option maxRecDepth 100000 in
set_option maxHeartbeats 4000000 in
theorem walkAll {Rg : World → Nat → (Nat → Prop) → List RgE → Prop} (ok : RingOk Rg) (u : UInt32) (A : Option Addr) (n c : Nat) (k : List UInt8) (w : World) (hr : Rd w w.heap.size 1 A n (k.map bv)) (hnc : n ≤ c) (hm : c ≤ maxLen) :
    Calls Try.prog 5 #[nr u, .slice A n c] w fun e w' => e = .returned (.bool true) ∧ Below w.heap.size w w' := by
  have WK := Lib.hid (rWorks_of ok)
  have OK := Lib.hid ok
  clear hr ok
  by_cases h3 : 300 < n
  · have h3i : (300 : Int) < (n : Int) := by omega
    go_enter Try.func5, Try.ntmps5
    repeat (first | go_skip | go_guarded | go_step)
    refine (WK.out _).mono ?_
    rintro e wz ⟨rfl, hbz⟩
    have HBZ := Lib.hid (hbz)
    clear hbz
    dsimp only
    repeat (first | go_skip | go_guarded | go_step)
    go_ret
    exact ⟨rfl, HBZ.out⟩
  have h3i : ¬ (300 : Int) < (n : Int) := by omega
  have hkey := OK.out.keyN w u
  go_enter Try.func5, Try.ntmps5
  repeat (first | go_skip | go_guarded | go_step)
  refine hkey.mono ?_
  rintro e w1 ⟨A1, c1, rfl, hb1⟩
  have HB1 := Lib.hid hb1
  have hput := OK.out.putN w1 u A n c
  clear hkey hb1
  dsimp only
  repeat (first | go_skip | go_guarded | go_step)
  refine hput.mono ?_
  rintro e w2 ⟨rfl, hb2⟩
  have HB2 := Lib.hid (HB1.out.trans (hb2.mono HB1.out.size))
  have hdrop := OK.out.dropN w2 u
  clear hput hb2
  dsimp only
  repeat (first | go_skip | go_guarded | go_step)
  refine hdrop.mono ?_
  rintro e w3 ⟨rfl, hb3⟩
  have HB3 := Lib.hid (HB2.out.trans (hb3.mono HB2.out.size))
  have hlist := OK.out.listN w3
  clear hdrop hb3
  dsimp only
  repeat (first | go_skip | go_guarded | go_step)
  refine hlist.mono ?_
  rintro e w4 ⟨A4, c4, rfl, hb4⟩
  have HB4 := Lib.hid (HB3.out.trans (hb4.mono HB3.out.size))
  clear hlist hb4
  dsimp only
  repeat (first | go_skip | go_guarded | go_step)
  refine (WK.out _).mono ?_
  rintro e wz ⟨rfl, hbz⟩
  have HBZ := Lib.hid (HB4.out.trans (hbz.mono HB4.out.size))
  clear hbz
  dsimp only
  repeat (first | go_skip | go_guarded | go_step)
  go_ret
  exact ⟨rfl, HBZ.out⟩

set_option maxRecDepth 100000 in
theorem lifted {Rg : World → Nat → (Nat → Prop) → List RgE → Prop} (ok : RingOk Rg) (os : Os) (started : os.Started) (H : Type) (enc : TypeId × Value → H) :
    ReturnsInHanded {} Try.checked os 5 .any (Rows.ringNilSpec.pre6 enc Try.prog Try.f5 Rows.ringNilRow.domain false) (Rows.ringNilSpec.post enc Try.prog Try.f5 false true false false) := by
  refine returnsInHanded_of_change_sized (C := Try.checked) ownKR started (by kernel_rfl) Try.func5
    (ChangeSpec.witness6 (enc := enc) (C := Try.checked) false ⟨#[], #[.int .u32 0, .slice none 0 0], []⟩ 8 (by kernel_rfl) (by kernel_rfl) (by kernel_rfl) (by kernel_rfl)) ?_
  intro W base args ds gs before hval0 hW hcnd hsz0 _
  have hval : ∀ (j : Nat) t v, Try.f5.params[j]? = some t → args[j]? = some v → Value.okWide Try.prog W .any base t v := hval0
  have hlt : ∀ x ∈ before, x.block < W.heap.size := fun x hx => by simpa using hW.lt x hx
  have hW' := hW
  obtain ⟨p, q, hA0, hV, rfl, hfz, hnd⟩ := hW
  have hA : DataW.TrodAll enc Try.prog W 0 (fun _ => true) true Try.f5.params.toList args.toList ds p := hA0
  rw [Try.params5] at hA hval
  obtain ⟨v0, vs0, d0, ds0, p0, q0, hargs, rfl, rfl, h0, r0⟩ := trodAll_cons hA
  obtain ⟨v1, vs1, d1, ds1, p1, q1, rfl, rfl, rfl, h1, r1⟩ := trodAll_cons r0
  obtain ⟨rfl, rfl, rfl⟩ := trodAll_nil r1
  obtain rfl : args = #[v0, v1] := by cases args; simp_all
  obtain ⟨rfl, rfl⟩ := trodVars_none hV
  obtain ⟨z0, rfl, rfl, rfl, wz0⟩ := open_int Try.underlying31 (hval 0 31 v0 rfl rfl) h0
  obtain ⟨u0, hu0⟩ := u32_ofR wz0
  simp only [nr, Value.int.injEq, true_and] at hu0
  subst hu0
  obtain ⟨A1, n1, c1, k1, rfl, hk1, hm1, hr1⟩ := open_bs h1 (hval 1 32 v1 rfl rfl) (fun x hx => hlt x (by simp [hx]))
  refine (walkAll ok u0 A1 n1 c1 k1 W hr1 hk1 hm1).mono fun e W' ⟨he, hg⟩ => ?_
  subst he
  exact ⟨_, rfl, post_law laidOutR rfl (by kernel_rfl) hW' hg rfl Try.underlying4 rfl rfl rfl⟩

theorem proved_of {Rg : World → Nat → (Nat → Prop) → List RgE → Prop} (ok : RingOk Rg) : Rows.RingNilSaid :=
  OpenClaim.holds_of_wide 5 Try.f5 rfl rfl rfl rfl rfl rfl rfl ⟨rfl, rfl, rfl, rfl, rfl⟩ rfl rfl rfl rfl rfl (by kernel_rfl) Try.func5 (by kernel_rfl)
    (of_decide_eq_true (by kernel_rfl)) (by unfold Func.isWrapper; first | (rw [if_pos (by decide +kernel)]; kernel_rfl) | (rw [if_neg (by decide +kernel)]; exact ⟨rfl, rfl⟩))
    (fun os started H enc _ => lifted ok os started H enc)
#print axioms proved_of
end Go.Proofs.Ytedgigoelhcfnaa.ringNil
