/- Layer 7 (lex): LexWords: the words of any text, or where it says nothing; and they as a text. From LexOk. -/
import Derived.Test.YtjafbkkdjmlaoaaLxL
import Derived.ChangeMaps
set_option linter.unusedVariables false
set_option linter.unusedSimpArgs false
namespace Go.Proofs.Ytjafbkkdjmlaoaa.lexWords
open Go Go.RowKit

set_option maxRecDepth 100000 in
set_option maxHeartbeats 8000000 in
theorem walk (ok : LexOk) (s : ByteArray) (w : World) : Calls Try.prog 3 #[sv s] w fun e w' => e = .returned (.bool true) ∧ Below w.heap.size w w' := by
  by_cases hbig : 4096 < s.size
  · have hd : decide ((4096 : Int) < (s.size : Int)) = true := by simp; omega
    go_enter Try.func3, Try.ntmps3
    repeat (first | go_skip | go_guarded | go_step)
    refine (lWorks_any ok w).mono ?_
    rintro e w1 ⟨rfl, hb⟩
    dsimp only
    repeat (first | go_skip | go_guarded | go_step)
    go_ret
    exact ⟨rfl, hb⟩
  · have hd : decide ((4096 : Int) < (s.size : Int)) = false := by simp; omega
    have hlen := tb_len s
    go_enter Try.func3, Try.ntmps3
    repeat (first | go_skip | go_guarded | go_step)
    refine (ok.words s w (by omega)).mono ?_
    rintro e w1 ⟨A1, m, c1, ws, y, z, rfl, ho1, hb1, ha1⟩
    dsimp only
    repeat (first | go_skip | go_guarded | go_step)
    refine (rWords_any s w1 (by omega)).mono ?_
    rintro e w2 ⟨A2, m2, c2, ws2, y2, z2, rfl, ho2, hb2, ha2⟩
    obtain ⟨rfl, rfl, rfl⟩ : ws2 = ws ∧ y2 = y ∧ z2 = z := by
      rw [← ha1] at ha2
      simpa using ha2
    obtain rfl : m = ws2.length := (rdV_len (OwV.rd ho1)).symm
    obtain rfl : m2 = ws2.length := (rdV_len (OwV.rd ho2)).symm
    have hsm := wordsL_small (by omega) ha1
    have HC := Lib.hid (OwV.cap ho1)
    have HO1 := Lib.hid (OwV.rd (ownBelow ho1 hb2 (Nat.le_refl _)))
    have HO2 := Lib.hid (OwV.rd ho2)
    have HB := Lib.hid (hb1.trans (hb2.mono hb1.size))
    obtain ⟨T, hT⟩ : ∃ T : ByteArray, strV (joinL ws2) = sv T := ⟨⟨(joinL ws2).toArray⟩, rfl⟩
    clear ho1 ho2 hb1 hb2 ha1 ha2
    dsimp only
    repeat (first | go_skip | go_guarded | go_step)
    refine (lSame_any A1 A2 ws2.length c1 c2 ws2 w2 HO1.out HO2.out (by omega)).mono ?_
    rintro e w3 ⟨rfl, q, rfl⟩
    have HBQ := Lib.hid (show Below w.heap.size w (w2.drewN q) from ⟨HB.out.os, HB.out.tape, HB.out.output, HB.out.size, HB.out.block⟩)
    have HR1 := Lib.hid (show RdV (w2.drewN q) (w2.drewN q).heap.size A1 ws2.length ws2 from HO1.out)
    have HR2 := Lib.hid (show RdV (w2.drewN q) (w2.drewN q).heap.size A2 ws2.length ws2 from HO2.out)
    dsimp only
    repeat (first | go_skip | go_guarded | go_step)
    refine (ok.join A1 ws2.length c1 ws2 (w2.drewN q) HR1.out HC.out (by omega) (by omega)).mono ?_
    rintro e w4 ⟨rfl, hb4⟩
    have HB4 := Lib.hid (HBQ.out.trans (hb4.mono HBQ.out.size))
    have HR4 := Lib.hid ((HR2.out.below hb4).more hb4.size)
    clear hb4
    rw [hT]
    dsimp only
    repeat (first | go_skip | go_guarded | go_step)
    refine (rJoin_any A2 ws2.length c2 ws2 w4 HR4.out (by omega) (by omega)).mono ?_
    rintro e w5 ⟨rfl, rfl⟩
    rw [hT]
    dsimp only
    repeat (first | go_skip | go_guarded | go_step)
    refine (lWorks_any ok w4).mono ?_
    rintro e w6 ⟨rfl, hb6⟩
    have HB6 := Lib.hid (HB4.out.trans (hb6.mono HB4.out.size))
    clear hb6
    dsimp only
    repeat (first | go_skip | go_guarded | go_step)
    go_ret
    exact ⟨rfl, HB6.out⟩

open Go.ChangeShapes Go.WideShapes Go.ChangeAt

set_option maxRecDepth 100000 in
theorem lifted (ok : LexOk) (os : Os) (started : os.Started) (H : Type) (enc : TypeId × Value → H) :
    ReturnsInHanded {} Try.checked os 3 .any (Rows.lexWordsSpec.pre6 enc Try.prog Try.f3 Rows.lexWordsRow.domain false) (Rows.lexWordsSpec.post enc Try.prog Try.f3 false true false false) := by
  refine returnsInHanded_of_change_sized (C := Try.checked) ownK started (by kernel_rfl) Try.func3
    (ChangeSpec.witness6 (enc := enc) (C := Try.checked) false ⟨#[], #[.string ⟨#[]⟩], []⟩ 8 (by kernel_rfl) (by kernel_rfl) (by kernel_rfl) (by kernel_rfl)) ?_
  intro W base args ds gs before hval0 hW hcnd hsz0 _
  have hsz : (DataW.weightsEach Try.prog (Try.f3.params.toList ++ Rows.lexWordsSpec.plain.varTypes Try.prog) (ds ++ gs)).all (· ≤ reachBytes) = true := hsz0
  have hval : ∀ (j : Nat) t v, Try.f3.params[j]? = some t → args[j]? = some v → Value.okWide Try.prog W .any base t v := hval0
  have hlt : ∀ x ∈ before, x.block < W.heap.size := fun x hx => by simpa using hW.lt x hx
  have hW' := hW
  obtain ⟨p, q, hA0, hV, rfl, hfz, hnd⟩ := hW
  have hA : DataW.TrodAll enc Try.prog W 0 (fun _ => true) true Try.f3.params.toList args.toList ds p := hA0
  rw [Try.params3] at hA hval hsz
  obtain ⟨v0, vs0, d0, ds0, p0, q0, hargs, rfl, rfl, h0, r0⟩ := trodAll_cons hA
  obtain ⟨rfl, rfl, rfl⟩ := trodAll_nil r0
  obtain rfl : args = #[v0] := by cases args; simp_all
  obtain ⟨rfl, rfl⟩ := trodVars_none hV
  obtain ⟨s, rfl, rfl, rfl, hs0⟩ := Go.ChangeMaps.open_string Try.underlying9 (hval 0 9 v0 rfl rfl) h0
  have main : Calls Try.prog 3 #[sv s] W fun e w' => e = .returned (.bool true) ∧ Below W.heap.size W w' := by
    exact walk ok s W
  refine main.mono fun e W' ⟨he, hg⟩ => ?_
  subst he
  exact ⟨_, rfl, post_law laidOut rfl (by kernel_rfl) hW' hg rfl Try.underlying4 rfl rfl rfl⟩

theorem proved_of (ok : LexOk) : Rows.LexWordsSaid :=
  OpenClaim.holds_of_wide 3 Try.f3 rfl rfl rfl rfl rfl rfl rfl ⟨rfl, rfl, rfl, rfl, rfl⟩ rfl rfl rfl rfl rfl (by kernel_rfl) Try.func3 (by kernel_rfl)
    (of_decide_eq_true (by kernel_rfl)) (by unfold Func.isWrapper; first | (rw [if_pos (by decide +kernel)]; kernel_rfl) | (rw [if_neg (by decide +kernel)]; exact ⟨rfl, rfl⟩))
    (fun os started H enc _ => lifted ok os started H enc)
#print axioms proved_of
end Go.Proofs.Ytjafbkkdjmlaoaa.lexWords
