/- SafePlays, from what is asked of the program. No condition. -/
import Derived.Test.YtggnhgfickkgdaaSaI
import Derived.Test.YtggnhgfickkgdaaSaP
import Derived.Test.YtggnhgfickkgdaaRows
set_option linter.unusedVariables false
set_option linter.unusedSimpArgs false
namespace Go.Proofs.Ytggnhgfickkgdaa
open Go Go.RowKit
/-- The anchor. -/
def SWorksOk : Prop := ∀ w : World, Calls Try.prog 7 #[] w fun e w' => e = .returned (.bool true) ∧ Below w.heap.size w w'
end Go.Proofs.Ytggnhgfickkgdaa
namespace Go.Proofs.Ytggnhgfickkgdaa.safePlays
open Go Go.RowKit Go.ChangeShapes Go.WideShapes Go.ChangeAt

set_option maxRecDepth 100000 in
set_option maxHeartbeats 2000000 in
theorem walk (ok : SafeOk) (wk : SWorksOk) (A : Option Addr) (n c : Nat) (Q : List ClA) (C : List Cl) (A2 : Option Addr) (nf c2 : Nat) (Y : List AtR) (w : World) (h : RdCs w w.heap.size A n Q C) (hnc : n ≤ c) (h2 : Rd w w.heap.size 2 A2 nf (Y.flatMap atC)) (hY : Y.length = nf) :
    Calls Try.prog 3 #[.slice A n c, .slice A2 nf c2] w fun e w' => e = .returned (.bool true) ∧ Below w.heap.size w w' := by
  have hfew := few_any A n c Q C A2 nf c2 Y w h h2 hY
  have HC := Lib.hid h
  have HF := Lib.hid h2
  have HY := Lib.hid hY
  have OK := Lib.hid ok
  have WK := Lib.hid wk
  clear h h2 hY ok wk
  cases hb : fewB n nf C Y with
  | false =>
    rw [hb] at hfew
    clear hb
    go_enter Try.func3, Try.ntmps3
    repeat (first | go_skip | go_guarded | go_step)
    refine hfew.mono ?_
    rintro e w1 ⟨rfl, rfl⟩
    clear hfew
    dsimp only
    repeat (first | go_skip | go_guarded | go_step)
    refine (WK.out _).mono ?_
    rintro e wz ⟨rfl, hbz⟩
    have HBZ := Lib.hid hbz
    clear hbz
    dsimp only
    repeat (first | go_skip | go_guarded | go_step)
    go_ret
    exact ⟨rfl, HBZ.out⟩
  | true =>
    rw [hb] at hfew
    unfold fewB fewH at hb
    simp only [Bool.and_eq_true, Bool.not_eq_true', Bool.or_eq_false_iff, decide_eq_false_iff_not, Bool.and_eq_false_iff] at hb
    obtain ⟨⟨⟨hb1, hb2⟩, hb3⟩, hb4, hb5⟩ := hb
    have HS := Lib.hid (few_slim hb4)
    have hn : n ≤ 1000 := by omega
    have hnf : nf ≤ 120 := by omega
    obtain ⟨r1, hr1⟩ : ∃ r1 : Int, r1 = ((rightM C).1 : Int) := ⟨_, rfl⟩
    obtain ⟨r2, hr2⟩ : ∃ r2 : Int, r2 = ((rightM C).2 : Int) := ⟨_, rfl⟩
    have HR2 := Lib.hid hr2
    have c1 := OK.out.right A n c Q C w HC.out hnc HS.out (by omega)
    rw [← hr1, ← hr2] at c1
    clear hb1 hb2 hb3 hb4 hb5
    have hne1 : (r1 != r1) = false := by simp
    have hne2 : (r2 != r2) = false := by simp
    go_enter Try.func3, Try.ntmps3
    repeat (first | go_skip | go_guarded | go_step)
    refine hfew.mono ?_
    rintro e w1 ⟨rfl, rfl⟩
    clear hfew
    dsimp only
    repeat (first | go_skip | go_guarded | go_step)
    refine c1.mono ?_
    rintro e w2 ⟨rfl, hb2⟩
    have HB2 := Lib.hid hb2
    have c3 := rRight_any A n c Q C w2 ((HC.out.below hb2).more hb2.size) hnc HS.out
    rw [← hr1, ← hr2] at c3
    clear c1 hb2 hr1 hr2
    dsimp only
    repeat (first | go_skip | go_guarded | go_step)
    refine c3.mono ?_
    rintro e w3 ⟨rfl, hb3⟩
    have HB3 := Lib.hid (HB2.out.trans (hb3.mono HB2.out.size))
    have c4 := OK.out.arities A n c Q C A2 nf c2 Y w3 ((HC.out.below HB3.out).more HB3.out.size) (Rd.more (Rd.below HF.out HB3.out) HB3.out.size) HY.out hnc HS.out (by omega) (by omega)
    clear c3 hb3
    dsimp only
    by_cases h0 : r2 = 0
    · have hz : (r2 != 0) = false := by simp [h0]
      have HZ := Lib.hid (show (rightM C).2 = 0 by have := HR2.out; omega)
      clear h0
      repeat (first | go_skip | go_guarded | go_step)
      refine c4.mono ?_
      rintro e w4 ⟨-, he, hb4⟩
      have he2 := he HZ.out
      subst he2
      have HB4 := Lib.hid (HB3.out.trans (hb4.mono HB3.out.size))
      have c5 := rArities_any A n c Q C A2 nf c2 Y w4 ((HC.out.below HB4.out).more HB4.out.size) (Rd.more (Rd.below HF.out HB4.out) HB4.out.size) HY.out (by omega) (by omega) (fun x hx => (HS.out x hx).2.1)
      obtain ⟨a1, ha1⟩ : ∃ a1 : Int, a1 = ((aritM C (Y.map keyR)).1 : Int) := ⟨_, rfl⟩
      obtain ⟨a2, ha2⟩ : ∃ a2 : Int, a2 = ((aritM C (Y.map keyR)).2 : Int) := ⟨_, rfl⟩
      rw [← ha1, ← ha2] at c5 ⊢
      have he1 : (a1 == a1) = true := by simp
      have he3 : (a2 == a2) = true := by simp
      clear c4 hb4 he ha1 ha2
      dsimp only
      repeat (first | go_skip | go_guarded | go_step)
      refine c5.mono ?_
      rintro e w5 ⟨rfl, hb5⟩
      have HB5 := Lib.hid (HB4.out.trans (hb5.mono HB4.out.size))
      clear c5 hb5
      dsimp only
      repeat (first | go_skip | go_guarded | go_step)
      refine (WK.out _).mono ?_
      rintro e wz ⟨rfl, hbz⟩
      have HBZ := Lib.hid (HB5.out.trans (hbz.mono HB5.out.size))
      clear hbz
      dsimp only
      repeat (first | go_skip | go_guarded | go_step)
      go_ret
      exact ⟨rfl, HBZ.out⟩
    · have hz : (r2 != 0) = true := by simp [h0]
      repeat (first | go_skip | go_guarded | go_step)
      refine c4.mono ?_
      rintro e w4 ⟨⟨x, y, rfl⟩, -, hb4⟩
      have HB4 := Lib.hid (HB3.out.trans (hb4.mono HB3.out.size))
      clear c4 hb4
      dsimp only
      repeat (first | go_skip | go_guarded | go_step)
      refine (WK.out _).mono ?_
      rintro e wz ⟨rfl, hbz⟩
      have HBZ := Lib.hid (HB4.out.trans (hbz.mono HB4.out.size))
      clear hbz
      dsimp only
      repeat (first | go_skip | go_guarded | go_step)
      go_ret
      exact ⟨rfl, HBZ.out⟩

set_option maxRecDepth 100000 in
theorem lifted (ok : SafeOk) (wk : SWorksOk) (os : Os) (started : os.Started) (H : Type) (enc : TypeId × Value → H) :
    ReturnsInHanded {} Try.checked os 3 .any (Rows.safePlaysSpec.pre6 enc Try.prog Try.f3 Rows.safePlaysRow.domain false) (Rows.safePlaysSpec.post enc Try.prog Try.f3 false true false false) := by
  refine returnsInHanded_of_change_sized (C := Try.checked) ownKA started (by kernel_rfl) Try.func3
    (ChangeSpec.witness6 (enc := enc) (C := Try.checked) false ⟨#[], #[.slice none 0 0, .slice none 0 0], []⟩ 8 (by kernel_rfl) (by kernel_rfl) (by kernel_rfl) (by kernel_rfl)) ?_
  intro W base args ds gs before hval0 hW hcnd hsz0 _
  have hval : ∀ (j : Nat) t v, Try.f3.params[j]? = some t → args[j]? = some v → Value.okWide Try.prog W .any base t v := hval0
  have hlt : ∀ x ∈ before, x.block < W.heap.size := fun x hx => by simpa using hW.lt x hx
  have hW' := hW
  obtain ⟨p, q, hA0, hV, rfl, hfz, hnd⟩ := hW
  have hA : DataW.TrodAll enc Try.prog W 0 (fun _ => true) true Try.f3.params.toList args.toList ds p := hA0
  rw [Try.params3] at hA hval
  obtain ⟨v0, vs0, d0, ds0, p0, q0, hargs, rfl, rfl, h0, r0⟩ := trodAll_cons hA
  obtain ⟨v1, vs1, d1, ds1, p1, q1, rfl, rfl, rfl, h1, r1⟩ := trodAll_cons r0
  obtain ⟨rfl, rfl, rfl⟩ := trodAll_nil r1
  obtain rfl : args = #[v0, v1] := by cases args; simp_all
  obtain ⟨rfl, rfl⟩ := trodVars_none hV
  obtain ⟨A2, nf, c2, Y, rfl, hk2, hm2, hY, hr2⟩ := open_facts (hval 1 23 v1 rfl rfl) h1 (fun x hx => hlt x (by simp [hx]))
  obtain ⟨A, n, c, Q, C, rfl, hk1, hm1, hr1⟩ := open_clauses (hval 0 22 v0 rfl rfl) h0 (fun x hx => hlt x (by simp [hx]))
  refine (walk ok wk A n c Q C A2 nf c2 Y W hr1 hk1 hr2 hY).mono fun e W' ⟨he, hg⟩ => ?_
  subst he
  exact ⟨_, rfl, post_law laidOutA rfl (by kernel_rfl) hW' hg rfl Try.underlying4 rfl rfl rfl⟩

theorem proved_of (ok : SafeOk) (wk : SWorksOk) : Rows.SafePlaysSaid :=
  OpenClaim.holds_of_wide 3 Try.f3 rfl rfl rfl rfl rfl rfl rfl ⟨rfl, rfl, rfl, rfl, rfl⟩ rfl rfl rfl rfl rfl (by kernel_rfl) Try.func3 (by kernel_rfl)
    (of_decide_eq_true (by kernel_rfl)) (by unfold Func.isWrapper; first | (rw [if_pos (by decide +kernel)]; kernel_rfl) | (rw [if_neg (by decide +kernel)]; exact ⟨rfl, rfl⟩))
    (fun os started H enc _ => lifted ok wk os started H enc)
#print axioms proved_of
end Go.Proofs.Ytggnhgfickkgdaa.safePlays
