/- ShaForks: two states that were forked do not hang together; of no state. No condition beside the tables, which the card ties to the program's text. -/
import Derived.Test.YtnjahmikenjjaaaDoorShaL
import Derived.Test.YtnjahmikenjjaaaDoorTied
import Derived.Test.YtnjahmikenjjaaaDoorCards
import Derived.SevenTiedAt
set_option linter.unusedVariables false
set_option linter.unusedSimpArgs false
namespace Go.Proofs.YtnjahmikenjjaaaDoor.shaForks
open Go Go.RowKit Go.ChangeShapes Go.WideShapes Go.ChangeAt

set_option maxRecDepth 100000 in
set_option maxHeartbeats 1000000 in
theorem walkVast (A0 A1 A2 : Option Addr) (n0 n1 n2 c0 c1 c2 : Nat) (w : World) (ht : Tab w) (h0 : n0 ≤ 140737488351232) (h1 : n1 ≤ 140737488351232) (h2 : n2 ≤ 140737488351232) (hv : 8192 < n0 + n1 + n2) :
    Calls Tryd.prog 5 #[.slice A0 n0 c0, .slice A1 n1 c1, .slice A2 n2 c2] w fun e w' => e = .returned (.bool true) ∧ Below w.heap.size w w' := by
  have hd : decide ((8192 : Int) < (n0 : Int) + (n1 : Int) + (n2 : Int)) = true := by simp; omega
  go_enter Tryd.func5, Tryd.ntmps5
  go_wp2_with (go_at_call 8; refine (works_any _ ht).mono ?_; rintro e w2 ⟨rfl, hb2⟩)
  go_ret
  exact ⟨rfl, hb2⟩

set_option maxRecDepth 100000 in
set_option maxHeartbeats 1000000 in
theorem walk (A0 A1 A2 : Option Addr) (n0 n1 n2 c0 c1 c2 : Nat) (xs ys zs : List UInt8) (w : World) (ht : Tab w) (r0 : Rd w w.heap.size 1 A0 n0 (xs.map bv)) (r1 : Rd w w.heap.size 1 A1 n1 (ys.map bv)) (r2 : Rd w w.heap.size 1 A2 n2 (zs.map bv))
    (k0 : n0 ≤ c0) (k1 : n1 ≤ c1) (k2 : n2 ≤ c2) (hv : n0 + n1 + n2 ≤ 8192) :
    Calls Tryd.prog 5 #[.slice A0 n0 c0, .slice A1 n1 c1, .slice A2 n2 c2] w fun e w' => e = .returned (.bool true) ∧ Below w.heap.size w w' := by
  have hd : decide ((8192 : Int) < (n0 : Int) + (n1 : Int) + (n2 : Int)) = false := by simp; omega
  have l0 : xs.length = n0 := by simpa using r0.len1
  have l1 : ys.length = n1 := by simpa using r1.len1
  have l2 : zs.length = n2 := by simpa using r2.len1
  have HL := Lib.hid (And.intro l0 (And.intro l1 l2))
  have HT := Lib.hid ht
  have hlt := ht.lt
  have hlt0 := ht.lt0
  clear l0 l1 l2 ht
  go_enter Tryd.func5, Tryd.ntmps5
  go_wp2_with fail
  refine (new_any w HT.out).mono ?_
  rintro e w1 ⟨rfl, hs1, hb1, hz1⟩
  have HZ1 := Lib.hid hz1
  clear hz1
  go_wp2_with fail
  refine (write_any w.heap.size [] A0 n0 c0 xs _ hs1 (Rdg.ofRd (r0.below hb1) (Nat.le_refl _) hb1.size) k0 (by simp; omega) (HT.out.below hb1) (by omega) (by omega)).mono ?_
  rintro e w2 ⟨rfl, hs2, hg2⟩
  rw [List.nil_append] at hs2
  have hb2 := hb1.grown hg2 hb1.size (fun k hk => by cases hk; omega)
  clear hs1 hb1 hg2 HZ1
  go_wp2_with fail
  refine (fork_any w.heap.size xs w2 hs2).mono ?_
  rintro e w3 ⟨rfl, hf3, hbf, _⟩
  have hs3 := hs2.later hbf
  have hb3 := hb2.trans (hbf.mono hb2.size)
  have hH : w.heap.size < w2.heap.size := hs2.lt
  have hlf := hf3.lt
  clear hs2 hbf hb2
  go_wp2_with fail
  refine (write_any w2.heap.size xs A1 n1 c1 ys _ hf3 (Rdg.ofRd (r1.below hb3) (by omega) hb3.size) k1 (by have := HL.out; omega) (HT.out.below hb3) (by omega) (by omega)).mono ?_
  rintro e w4 ⟨rfl, hf4, hg4⟩
  have hs4 := hs3.grown hg4 (by omega)
  have hb4 := hb3.grown hg4 hb3.size (fun k hk => by cases hk; omega)
  clear hf3 hs3 hb3 hg4
  go_wp2_with fail
  refine (write_any w.heap.size xs A2 n2 c2 zs _ hs4 (Rdg.ofRd (r2.below hb4) (Nat.le_refl _) hb4.size) k2 (by have := HL.out; omega) (HT.out.below hb4) (by omega) (by omega)).mono ?_
  rintro e w5 ⟨rfl, hs5, hg5⟩
  have hf5 := hf4.grown hg5 (by omega)
  have hb5 := hb4.grown hg5 hb4.size (fun k hk => by cases hk; omega)
  clear hf4 hs4 hb4 hg5
  go_wp2_with fail
  refine (sumM_any w2.heap.size (xs ++ ys) _ hf5 (by have := HL.out; simp; omega) (HT.out.below hb5)).mono ?_
  rintro e w6 ⟨rfl, hb6⟩
  have hs6 := hs5.later hb6
  have hb6' := hb5.trans (hb6.mono hb5.size)
  clear hf5 hs5 hb5 hb6
  have eqA := eqTag
  have eqB := eqZ2
  have hfl : [xs, ys].flatten = xs ++ ys := by simp
  have hfl2 : [xs, zs].flatten = xs ++ zs := by simp
  have HF := Lib.hid hfl
  have HF2 := Lib.hid hfl2
  clear hfl hfl2
  go_wp2_with fail
  refine (sum_any _ 2 2 _ [xs, ys] _ (Rws.lit2 30 ((r0.below hb6').more hb6'.size) k0 ((r1.below hb6').more hb6'.size) k1) (by have := HL.out; rw [HF.out]; simp; omega) (by omega) ((HT.out.below hb6').below ((Below.refl _ _).alloc (Nat.le_refl _) _))).mono ?_
  rintro e w7 ⟨rfl, hb7⟩
  rw [HF.out]
  have hs7 := (hs6.alloc _).later hb7
  have hb7' := (hb6'.alloc hb6'.size _).trans (hb7.mono (by have := hb6'.size; simp; omega))
  clear hs6 hb6' hb7
  go_wp2_with fail
  refine (sumM_any w.heap.size (xs ++ zs) _ hs7 (by have := HL.out; simp; omega) (HT.out.below hb7')).mono ?_
  rintro e w8 ⟨rfl, hb8⟩
  have hb8' := hb7'.trans (hb8.mono hb7'.size)
  clear hs7 hb7' hb8
  go_wp2_with fail
  refine (sum_any _ 2 2 _ [xs, zs] _ (Rws.lit2 30 ((r0.below hb8').more hb8'.size) k0 ((r2.below hb8').more hb8'.size) k2) (by have := HL.out; rw [HF2.out]; simp; omega) (by omega) ((HT.out.below hb8').below ((Below.refl _ _).alloc (Nat.le_refl _) _))).mono ?_
  rintro e w9 ⟨rfl, hb9⟩
  rw [HF2.out]
  have hb9' := (hb8'.alloc hb8'.size _).trans (hb9.mono (by have := hb8'.size; simp; omega))
  clear hb8' hb9
  go_wp2_with fail
  refine (write_nil A0 n0 c0 w9).mono ?_
  rintro e w10 ⟨rfl, rfl⟩
  go_wp2_with fail
  refine (fork_nil w9).mono ?_
  rintro e w10 ⟨rfl, rfl⟩
  go_wp2_with fail
  refine (sumM_nil w9).mono ?_
  rintro e w11 ⟨rfl, hb11⟩
  have hb11' := hb9'.trans (hb11.mono hb9'.size)
  clear hb9' hb11
  go_wp2_with (go_at_call 8; refine (works_any _ (HT.out.below hb11')).mono ?_; rintro e w12 ⟨rfl, hb12⟩)
  go_ret
  exact ⟨rfl, hb11'.trans (hb12.mono hb11'.size)⟩

set_option maxRecDepth 100000 in
theorem lifted (os : Os) (started : os.Started) (H : Type) (enc : TypeId × Value → H) :
    ReturnsInHanded {} Tryd.checked os 5 .any (fun w args => (Rows.shaForksSpec.pre enc Tryd.prog Tryd.f5 [] false w args ∧ laidMetH Tryd.prog laid2 w) ∧ sizedMet enc Tryd.prog Tryd.f5 (OpenSpec.ofChange Rows.shaForksSpec) false w args)
      (Rows.shaForksSpec.post enc Tryd.prog Tryd.f5 false true false false) := by
  refine returnsInHanded_of_change_and (C := Tryd.checked) (X := fun w _ => laidMetH Tryd.prog laid2 w) (fun _ _ _ hh h => h.of_heap hh) ownK started (by kernel_rfl) Tryd.func5
    (ChangeSpec.witness_shaped (enc := enc) (C := Tryd.checked) (os := os) (X := fun w _ => laidMetH Tryd.prog laid2 w) false (World.doorLaid Tryd.prog 19 os) #[.slice none 0 0, .slice none 0 0, .slice none 0 0] 8 rfl (World.shaped_of_RefB (by kernel_rfl) (by kernel_rfl)) (by kernel_rfl) (by kernel_rfl) (by kernel_rfl) (door_met os _)) ?_
  intro W base args ds gs before hval0 hW _ hsz0 hL _
  have hval : ∀ (j : Nat) t v, Tryd.f5.params[j]? = some t → args[j]? = some v → Value.okWide Tryd.prog W .any base t v := hval0
  have hW' := hW
  have hsz : (DataW.weightsEach Tryd.prog (Tryd.f5.params.toList ++ Rows.shaForksSpec.plain.varTypes Tryd.prog) (ds ++ gs)).all (· ≤ reachBytes) = true := hsz0
  have hlt : ∀ x ∈ before, x.block < W.heap.size := fun x hx => by simpa using hW.lt x hx
  have hT := tab_of_laid hL
  obtain ⟨p, q, hA0, hV, rfl, hfz, hnd⟩ := hW
  have hA : DataW.TrodAll enc Tryd.prog W 0 (fun _ => true) true Tryd.f5.params.toList args.toList ds p := hA0
  rw [Tryd.params5] at hA hval hsz
  obtain ⟨v0, vs0, d0, ds0, p0, q0, hargs, rfl, rfl, h0, r0⟩ := trodAll_cons hA
  obtain ⟨v1, vs1, d1, ds1, p1, q1, rfl, rfl, rfl, h1, r1⟩ := trodAll_cons r0
  obtain ⟨v2, vs2, d2, ds2, p2, q2, rfl, rfl, rfl, h2, r2⟩ := trodAll_cons r1
  obtain ⟨rfl, rfl, rfl⟩ := trodAll_nil r2
  obtain rfl : args = #[v0, v1, v2] := by cases args; simp_all
  obtain ⟨rfl, rfl⟩ := trodVars_none hV
  obtain ⟨A2, n2, c2, b2, rfl, hc2, hm2, hr2⟩ := open_bytes (hval 2 30 v2 rfl rfl) h2 (fun x hx => hlt x (by simp [hx])) (fun elems spare e => by
    have := sized_slice hsz (j := 2) (t := 30) (e := 5) (elems := elems) (spare := spare) rfl (by rw [e]; rfl) Tryd.underlying30
    rw [bytes8] at this
    simp only [reachBytes] at this
    omega)
  obtain ⟨A1, n1, c1, b1, rfl, hc1, hm1, hr1⟩ := open_bytes (hval 1 30 v1 rfl rfl) h1 (fun x hx => hlt x (by simp [hx])) (fun elems spare e => by
    have := sized_slice hsz (j := 1) (t := 30) (e := 5) (elems := elems) (spare := spare) rfl (by rw [e]; rfl) Tryd.underlying30
    rw [bytes8] at this
    simp only [reachBytes] at this
    omega)
  obtain ⟨A0, n0, c0, b0, rfl, hc0, hm0, hr0⟩ := open_bytes (hval 0 30 v0 rfl rfl) h0 (fun x hx => hlt x (by simp [hx])) (fun elems spare e => by
    have := sized_slice hsz (j := 0) (t := 30) (e := 5) (elems := elems) (spare := spare) rfl (by rw [e]; rfl) Tryd.underlying30
    rw [bytes8] at this
    simp only [reachBytes] at this
    omega)
  have main : Calls Tryd.prog 5 #[.slice A0 n0 c0, .slice A1 n1 c1, .slice A2 n2 c2] W fun e w' => e = .returned (.bool true) ∧ Below W.heap.size W w' := by
    by_cases hv : 8192 < n0 + n1 + n2
    · exact walkVast A0 A1 A2 n0 n1 n2 c0 c1 c2 W hT (by omega) (by omega) (by omega) hv
    · exact walk A0 A1 A2 n0 n1 n2 c0 c1 c2 b0 b1 b2 W hT hr0 hr1 hr2 hc0 hc1 hc2 (by omega)
  refine main.mono fun e W' ⟨he, hg⟩ => ?_
  subst he
  exact ⟨_, rfl, post_law laidOut rfl (by kernel_rfl) hW' hg rfl Tryd.underlying4 rfl rfl rfl⟩

theorem row_holds : Rows.ShaForksSaid :=
  OpenClaim.holds_of_wide 5 Tryd.f5 rfl rfl rfl rfl rfl rfl rfl ⟨rfl, rfl, rfl, rfl, rfl⟩ rfl rfl rfl rfl rfl (by kernel_rfl) Tryd.func5 (by kernel_rfl)
    (of_decide_eq_true (by kernel_rfl)) (by unfold Func.isWrapper; first | (rw [if_pos (by decide +kernel)]; kernel_rfl) | (rw [if_neg (by decide +kernel)]; exact ⟨rfl, rfl⟩))
    (fun os started H enc _ => lifted os started H enc)

theorem proved : Rows.ShaForksCardSaid :=
  Claim7.holds_tied_plain_at .later [] [.data, .data] true Rows.shaForksCard.stood.harness false
    row_holds (fun _ h => by cases h) (by kernel_rfl) (fun _ h => by cases h) shaForks_row_tie rfl ⟨rfl, rfl⟩ (by kernel_rfl) rfl
    (fun f fn hf hfn => by
      obtain rfl : f = 5 := Option.some.inj ((show Tryd.prog.funcNamed "bailey/baileylaw02.ShaForks" = some 5 by kernel_rfl).symm.trans hf) |>.symm
      obtain rfl : fn = Tryd.f5 := (Option.some.inj (Tryd.func5.symm.trans hfn)).symm
      exact ⟨by kernel_rfl, fun j t ht => by
        rw [Tryd.params5] at ht
        have hm : t ∈ [30, 30, 30] := by simpa using Array.mem_of_getElem? ht
        have hall : ([30, 30, 30].all fun u => !Tryd.prog.wantsStandIn u) = true := by kernel_rfl
        exact (show Tryd.prog.wantsStandIn t = false by simpa using List.all_eq_true.1 hall t hm)⟩)
    (by kernel_rfl)
#print axioms proved
end Go.Proofs.YtnjahmikenjjaaaDoor.shaForks
