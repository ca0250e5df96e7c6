/- ShaSums: the sum of any byte strings, one behind the other; they stay. No condition beside the tables, which the card ties to the program's text. -/
import Derived.Test.YtnjahmikenjjaaaDoorShaX
import Derived.Test.YtnjahmikenjjaaaDoorTied
import Derived.Test.YtnjahmikenjjaaaDoorCards
import Derived.SevenTiedAt
set_option linter.unusedVariables false
set_option linter.unusedSimpArgs false
namespace Go.Proofs.YtnjahmikenjjaaaDoor.shaSums
open Go Go.RowKit Go.ChangeShapes Go.WideShapes Go.ChangeAt

set_option maxRecDepth 100000 in
set_option maxHeartbeats 1000000 in
theorem walkVast (A : Option Addr) (n c : Nat) (R : List RowA) (sl : List (List UInt8)) (w : World) (ht : Tab w) (hr : Rws w w.heap.size A n R sl) (hb : ∀ l ∈ sl, l.length ≤ 140737488351232) (hv : 200 < n ∨ 16384 < sl.flatten.length) :
    Calls Tryd.prog 3 #[.slice A n c] w fun e w' => e = .returned (.bool true) ∧ Below w.heap.size w w' := by
  have hvast : Calls Tryd.prog 7 #[.slice A n c] w fun e w' => e = .returned (.bool true) ∧ w = w' := by
    by_cases h : 200 < n
    · exact vast_long A n c w h
    · exact vast_any A n c R sl w hr hb (by omega) true (decide_eq_true (by omega))
  have HV := Lib.hid hvast
  clear hvast hv
  go_enter Tryd.func3, Tryd.ntmps3
  go_wp2_with (first
    | (go_at_call 7; refine HV.out.mono ?_; rintro e w1 ⟨rfl, rfl⟩)
    | (go_at_call 8; refine (works_any _ ht).mono ?_; rintro e w2 ⟨rfl, hb2⟩))
  go_ret
  exact ⟨rfl, hb2⟩

set_option maxRecDepth 100000 in
set_option maxHeartbeats 1000000 in
theorem walk (A : Option Addr) (n c : Nat) (R : List RowA) (sl : List (List UInt8)) (w : World) (ht : Tab w) (hr : Rws w w.heap.size A n R sl) (hb : ∀ l ∈ sl, l.length ≤ 140737488351232) (hn : n ≤ 200) (hv : sl.flatten.length ≤ 16384) :
    Calls Tryd.prog 3 #[.slice A n c] w fun e w' => e = .returned (.bool true) ∧ Below w.heap.size w w' := by
  have HV := Lib.hid (vast_any A n c R sl w hr hb hn false (decide_eq_false (by omega)))
  have HFL := Lib.hid hv
  have HT := Lib.hid ht
  have HR := Lib.hid hr
  have hlt := ht.lt
  have hlt0 := ht.lt0
  clear hr hb hv ht
  go_enter Tryd.func3, Tryd.ntmps3
  go_wp2_with (go_at_call 7; refine HV.out.mono ?_; rintro e w1 ⟨rfl, rfl⟩)
  refine (copies_any A n c R sl w HR.out (by have := HFL.out; omega) hn).mono ?_
  rintro e w1 ⟨A1, c1, R1, rfl, hr1, hc1, hb1⟩
  have HR1 := Lib.hid hr1
  clear hr1
  go_wp2_with fail
  refine (sum_any A1 n c1 R1 sl w1 HR1.out (by have := HFL.out; omega) (by omega) (HT.out.below hb1)).mono ?_
  rintro e w2 ⟨rfl, hb2⟩
  have hb2' := hb1.trans (hb2.mono hb1.size)
  have hr2 := HR1.out.below hb2
  have HR2 := Lib.hid hr2
  have hsz2 := hb2.size
  have eqA := eqTag
  clear hb1 hb2 hr2
  go_wp2_with fail
  refine (join_any A n c R sl w2 ((HR.out.below hb2').more hb2'.size) (by have := HFL.out; omega) (by omega)).mono ?_
  rintro e w3 ⟨A3, m3, c3, rfl, ho3, hb3⟩
  have hb3' := hb2'.trans (hb3.mono hb2'.size)
  have hl3 := ho3.len
  have hr3 := HR2.out.below (hb3.mono hsz2)
  have HR3 := Lib.hid hr3
  have hsz3 := hb3.size
  have hm3 : m3 ≤ 16384 := by rw [← hl3]; exact HFL.out
  clear hb2' hb3 hr3 hl3
  go_wp2_with fail
  refine (rSum_any A3 m3 c3 sl.flatten w3 ho3.rd (by omega)).mono ?_
  rintro e w4 ⟨rfl, hb4⟩
  have hb4' := hb3'.trans (hb4.mono hb3'.size)
  have hr4 := HR3.out.below (hb4.mono (by omega))
  have HR4 := Lib.hid hr4
  have hB : w1.heap.size ≤ w4.heap.size := by have := hb4.size; omega
  clear hb3' hb4 hr4 ho3
  have hrw4 := HR.out.below hb4'
  have HRW := Lib.hid hrw4
  have hB2 : w.heap.size ≤ w4.heap.size := hb4'.size
  clear hrw4
  go_wp2_with fail
  go_loopw [4] (fun p wr => ∃ (i : Nat), i ≤ n ∧ p = .int .i64 (i : Int) ∧ Below w4.heap.size w4 wr)
    (fun p _ => n - (intOf p).toNat)
  case atStart => exact ⟨0, by omega, rfl, Below.refl _ _⟩
  case round =>
    obtain ⟨i, hi, rfl, hbr⟩ := hrel
    have HBR := Lib.hid hbr
    have HRr := HRW.out.below (hbr.mono hB2)
    have HR5 := HR4.out.below (hbr.mono hB)
    by_cases hlt : i < n
    · have hci : (i : Int) < (n : Int) := by omega
      obtain ⟨b, o, Ai, ni, ci, l, hA, hb, hc, hl, hri, hnc⟩ := HRr.at_ hlt
      obtain ⟨b', o', Aj, nj, cj, l', hA', hb', hc', hl', hrj, hncj⟩ := HR5.at_ hlt
      subst hA hA'
      rw [hl] at hl'
      cases hl'
      have k1 : ∀ q : Nat, (convert 30 9 (.slice Ai ni ci)).run Tryd.prog (wr.drewN q) = .ok (strV l) (wr.drewN q) := fun q =>
        run_conv_str (P := Tryd.prog) (wr.drewN q) 30 9 5 Tryd.underlying30 Tryd.underlying5 Tryd.underlying9 w.heap.size _ _ _ _ (hri.below (belowDrewN (Below.refl _ _) q))
      have k2 : ∀ q : Nat, (convert 30 9 (.slice Aj nj cj)).run Tryd.prog (wr.drewN q) = .ok (strV l) (wr.drewN q) := fun q =>
        run_conv_str (P := Tryd.prog) (wr.drewN q) 30 9 5 Tryd.underlying30 Tryd.underlying5 Tryd.underlying9 w1.heap.size _ _ _ _ (hrj.below (belowDrewN (Below.refl _ _) q))
      clear hri hrj HRr HR5 hbr hl
      go_wp2
      go_quiet (fail)
      clear k1 k2
      go_wp2
      go_roundw
      case rel => exact ⟨i + 1, by omega, by go_num, belowDrewN HBR.out nq⟩
      case measure => simp [intOf]; omega
    · obtain rfl : i = n := by omega
      have hbf : Below w.heap.size w wr := hb4'.trans (hbr.mono hB2)
      go_wp2_with (go_at_call 8; refine (works_any _ (HT.out.below hbf)).mono ?_; rintro e w5 ⟨rfl, hb5⟩)
      go_ret
      exact ⟨rfl, hbf.trans (hb5.mono hbf.size)⟩

set_option maxRecDepth 100000 in
theorem lifted (os : Os) (started : os.Started) (H : Type) (enc : TypeId × Value → H) :
    ReturnsInHanded {} Tryd.checked os 3 .any (fun w args => (Rows.shaSumsSpec.pre enc Tryd.prog Tryd.f3 [] false w args ∧ laidMetH Tryd.prog laid2 w) ∧ sizedMet enc Tryd.prog Tryd.f3 (OpenSpec.ofChange Rows.shaSumsSpec) false w args)
      (Rows.shaSumsSpec.post enc Tryd.prog Tryd.f3 false true false false) := by
  refine returnsInHanded_of_change_and (C := Tryd.checked) (X := fun w _ => laidMetH Tryd.prog laid2 w) (fun _ _ _ hh h => h.of_heap hh) ownK started (by kernel_rfl) Tryd.func3
    (ChangeSpec.witness_shaped (enc := enc) (C := Tryd.checked) (os := os) (X := fun w _ => laidMetH Tryd.prog laid2 w) false (World.doorLaid Tryd.prog 19 os) #[.slice none 0 0] 8 rfl (World.shaped_of_RefB (by kernel_rfl) (by kernel_rfl)) (by kernel_rfl) (by kernel_rfl) (by kernel_rfl) (door_met os _)) ?_
  intro W base args ds gs before hval0 hW _ hsz0 hL _
  have hval : ∀ (j : Nat) t v, Tryd.f3.params[j]? = some t → args[j]? = some v → Value.okWide Tryd.prog W .any base t v := hval0
  have hW' := hW
  have hsz : (DataW.weightsEach Tryd.prog (Tryd.f3.params.toList ++ Rows.shaSumsSpec.plain.varTypes Tryd.prog) (ds ++ gs)).all (· ≤ reachBytes) = true := hsz0
  have hlt : ∀ x ∈ before, x.block < W.heap.size := fun x hx => by simpa using hW.lt x hx
  have hT := tab_of_laid hL
  obtain ⟨p, q, hA0, hV, rfl, hfz, hnd⟩ := hW
  have hA : DataW.TrodAll enc Tryd.prog W 0 (fun _ => true) true Tryd.f3.params.toList args.toList ds p := hA0
  rw [Tryd.params3] at hA hval hsz
  obtain ⟨v0, vs0, d0, ds0, p0, q0, hargs, rfl, rfl, h0, r0⟩ := trodAll_cons hA
  obtain ⟨rfl, rfl, rfl⟩ := trodAll_nil r0
  obtain rfl : args = #[v0] := by cases args; simp_all
  obtain ⟨rfl, rfl⟩ := trodVars_none hV
  obtain ⟨A0, n0, c0, R, sl, rfl, hc0, hm0, hr0, hls⟩ := open_rows (hval 0 22 v0 rfl rfl) h0 (fun x hx => hlt x (by simp [hx])) (fun n hn => by
    have h2 := List.all_eq_true.1 hsz n (DataW.weights_mem_each (j := 0) (t := 22) rfl rfl n hn)
    have h3 : n ≤ reachBytes := by simpa using h2
    simp only [reachBytes] at h3
    omega)
  have main : Calls Tryd.prog 3 #[.slice A0 n0 c0] W fun e w' => e = .returned (.bool true) ∧ Below W.heap.size W w' := by
    by_cases hv : 200 < n0 ∨ 16384 < sl.flatten.length
    · exact walkVast A0 n0 c0 R sl W hT hr0 hls hv
    · exact walk A0 n0 c0 R sl W hT hr0 hls (by omega) (by omega)
  refine main.mono fun e W' ⟨he, hg⟩ => ?_
  subst he
  exact ⟨_, rfl, post_law laidOut rfl (by kernel_rfl) hW' hg rfl Tryd.underlying4 rfl rfl rfl⟩

theorem row_holds : Rows.ShaSumsSaid :=
  OpenClaim.holds_of_wide 3 Tryd.f3 rfl rfl rfl rfl rfl rfl rfl ⟨rfl, rfl, rfl, rfl, rfl⟩ rfl rfl rfl rfl rfl (by kernel_rfl) Tryd.func3 (by kernel_rfl)
    (of_decide_eq_true (by kernel_rfl)) (by unfold Func.isWrapper; first | (rw [if_pos (by decide +kernel)]; kernel_rfl) | (rw [if_neg (by decide +kernel)]; exact ⟨rfl, rfl⟩))
    (fun os started H enc _ => lifted os started H enc)

theorem proved : Rows.ShaSumsCardSaid :=
  Claim7.holds_tied_plain_at .later [] [.data, .data] true Rows.shaSumsCard.stood.harness false
    row_holds (fun _ h => by cases h) (by kernel_rfl) (fun _ h => by cases h) shaSums_row_tie rfl ⟨rfl, rfl⟩ (by kernel_rfl) rfl
    (fun f fn hf hfn => by
      obtain rfl : f = 3 := Option.some.inj ((show Tryd.prog.funcNamed "bailey/baileylaw02.ShaSums" = some 3 by kernel_rfl).symm.trans hf) |>.symm
      obtain rfl : fn = Tryd.f3 := (Option.some.inj (Tryd.func3.symm.trans hfn)).symm
      exact ⟨by kernel_rfl, fun j t ht => by
        rw [Tryd.params3] at ht
        have hm : t ∈ [22] := by simpa using Array.mem_of_getElem? ht
        have hall : ([22].all fun u => !Tryd.prog.wantsStandIn u) = true := by kernel_rfl
        exact (show Tryd.prog.wantsStandIn t = false by simpa using List.all_eq_true.1 hall t hm)⟩)
    (by kernel_rfl)
#print axioms proved
end Go.Proofs.YtnjahmikenjjaaaDoor.shaSums
