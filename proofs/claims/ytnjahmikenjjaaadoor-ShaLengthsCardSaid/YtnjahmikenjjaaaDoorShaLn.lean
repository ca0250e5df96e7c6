/- ShaLengths: the sum of so many bytes of a letter, beside the ends of blocks. No condition beside the tables, which the card ties to the program's text. -/
import Derived.Test.YtnjahmikenjjaaaDoorShaL
import Derived.Test.YtnjahmikenjjaaaDoorShaW
import Derived.Test.YtnjahmikenjjaaaDoorTied
import Derived.Test.YtnjahmikenjjaaaDoorCards
import Derived.SevenTiedAt
set_option linter.unusedVariables false
set_option linter.unusedSimpArgs false
namespace Go.Proofs.YtnjahmikenjjaaaDoor.shaLengths
open Go Go.RowKit Go.ChangeShapes Go.WideShapes Go.ChangeAt

def some_ (n i : Nat) (x : UInt8) : List Value := List.replicate i (bv x) ++ zB (n - i)
theorem some_len (n i : Nat) (x : UInt8) (h : i ≤ n) : (some_ n i x).length = n := by simp [some_, zB]; omega
theorem some_set (n i : Nat) (x : UInt8) (h : i < n) : (some_ n i x).set i (bv x) = some_ n (i + 1) x := by
  unfold some_ zB
  obtain ⟨m, hm⟩ : ∃ m, n - i = m + 1 := ⟨n - i - 1, by omega⟩
  have hm' : n - (i + 1) = m := by omega
  rw [hm, hm', List.replicate_succ, List.set_append, List.replicate_succ']
  simp
theorem some_all (n : Nat) (x : UInt8) : some_ n n x = (List.replicate n x).map bv := by simp [some_, zB]

set_option maxRecDepth 100000 in
set_option maxHeartbeats 1000000 in
theorem walk (N : Nat) (x : UInt8) (w : World) (hN : N < 65536) (ht : Tab w) :
    Calls Tryd.prog 6 #[.int .u16 (N : Int), .int .u8 (x.toNat : Int)] w fun e w' => e = .returned (.bool true) ∧ Below w.heap.size w w' := by
  have HT := Lib.hid ht
  have hlt := ht.lt
  have hlt0 := ht.lt0
  obtain ⟨n, hn⟩ : ∃ n, n = N % 700 := ⟨_, rfl⟩
  have hn7 : n < 700 := by omega
  have e1 : (N : Int).tmod 700 = (n : Int) := by rw [Int.tmod_eq_emod_of_nonneg (by omega)]; omega
  have e2 : (N : Int) % 700 = (n : Int) := by omega
  obtain ⟨i0, hi, hz0, hz1, hz2⟩ := info_parts u8info
  clear ht hn
  go_enter Tryd.func6, Tryd.ntmps6
  go_wp2_with (at_make; refine wpList_make_bk _ rfl _ _ 30 rfl 5 i0 (.int .u8 0) Tryd.underlying30 hi hz0 hz1 rfl _ _ _ _ n n rfl rfl (by rfl) (by rfl) (by omega) (by rw [hz2]; omega) (by simp only [maxLen]; omega) ?_; intro w1 hB1 hb1 hs1)
  clear hi hz0 hz1 hz2
  go_loopw [6] (fun p wr => ∃ i : Nat, i ≤ n ∧ p = .int .i64 (i : Int) ∧ Bk wr w.heap.size 5 (some_ n i x) ∧ Below w.heap.size w wr ∧ wr.heap.size = w.heap.size + 1)
    (fun p _ => n - (intOf p).toNat)
  case atStart => exact ⟨0, by omega, rfl, by simpa [some_, zB] using hB1, hb1, hs1⟩
  case round =>
    clear hB1 hb1 hs1
    obtain ⟨i, hi, rfl, hB1, hb1, hs1⟩ := hrel
    by_cases hlt : i < n
    · have hci : (i : Int) < (n : Int) := by omega
      have cu := hB1.cell i
      rw [List.getElem?_eq_getElem (by rw [some_len _ _ _ hi]; omega)] at cu
      have fu := hB1.frozen i
      have h2 := hB1.set_ i (bv x)
      rw [some_set n i x hlt] at h2
      have h3 := hb1.setCell (p := ⟨w.heap.size, i, none⟩) (Nat.le_refl _) (bv x)
      have h4 : (wr.setCell ⟨w.heap.size, i, none⟩ (bv x)).heap.size = w.heap.size + 1 := by simpa using hs1
      unfold bv at h2 h3 h4
      have H2 := Lib.hid h2
      have H3 := Lib.hid h3
      have H4 := Lib.hid h4
      clear h2 h3 h4 hB1 hb1 hs1
      go_wp2
      go_roundw
      case rel => exact ⟨i + 1, by omega, by go_num, H2.out, H3.out, H4.out⟩
      case measure => simp [intOf]; omega
    · obtain rfl : i = n := by omega
      clear hlt hi
      rw [some_all] at hB1
      have hr := hB1.rd i (by simp)
      rw [List.take_of_length_le (by simp)] at hr
      have HL := Lib.hid (show (List.replicate i x).length = i by simp)
      have eqA := eqTag
      generalize List.replicate i x = bs at *
      have HR := Lib.hid hr
      clear hr hB1 hs1
      have HF := Lib.hid (show [bs].flatten = bs by simp)
      go_wp2_with fail
      refine (sum_any _ 1 1 _ [bs] _ (Rws.lit1 30 HR.out (Nat.le_refl _)) (by rw [HF.out, HL.out]; omega) (by omega) ((HT.out.below hb1).below ((Below.refl _ _).alloc (Nat.le_refl _) _))).mono ?_
      rintro e w7 ⟨rfl, hb7⟩
      rw [HF.out]
      have hr7 := HR.out.below (((Below.refl _ _).alloc (Nat.le_refl _) _).trans (hb7.mono (by simp)))
      have hle7 : wr.heap.size ≤ w7.heap.size := by have := hb7.size; simp at this; omega
      have hb7' := (hb1.alloc hb1.size _).trans (hb7.mono (by have := hb1.size; simp; omega))
      clear hb7
      go_wp2_with fail
      refine (rSum_any _ i i bs w7 (hr7.more hle7) (by omega)).mono ?_
      rintro e w8 ⟨rfl, hb8⟩
      have hb8' := hb7'.trans (hb8.mono hb7'.size)
      clear hb8 hb7'
      go_wp2_with (go_at_call 8; refine (works_any _ (HT.out.below hb8')).mono ?_; rintro e w9 ⟨rfl, hb9⟩)
      go_ret
      exact ⟨rfl, hb8'.trans (hb9.mono hb8'.size)⟩
set_option maxRecDepth 100000 in
theorem lifted (os : Os) (started : os.Started) (H : Type) (enc : TypeId × Value → H) :
    ReturnsInHanded {} Tryd.checked os 6 .any (fun w args => (Rows.shaLengthsSpec.pre enc Tryd.prog Tryd.f6 [] false w args ∧ laidMetH Tryd.prog laid2 w) ∧ sizedMet enc Tryd.prog Tryd.f6 (OpenSpec.ofChange Rows.shaLengthsSpec) false w args)
      (Rows.shaLengthsSpec.post enc Tryd.prog Tryd.f6 false true false false) := by
  refine returnsInHanded_of_change_and (C := Tryd.checked) (X := fun w _ => laidMetH Tryd.prog laid2 w) (fun _ _ _ hh h => h.of_heap hh) ownK started (by kernel_rfl) Tryd.func6
    (ChangeSpec.witness_shaped (enc := enc) (C := Tryd.checked) (os := os) (X := fun w _ => laidMetH Tryd.prog laid2 w) false (World.doorLaid Tryd.prog 19 os) #[.int .u16 0, .int .u8 0] 8 rfl (World.shaped_of_RefB (by kernel_rfl) (by kernel_rfl)) (by kernel_rfl) (by kernel_rfl) (by kernel_rfl) (door_met os _)) ?_
  intro W base args ds gs before hval0 hW _ hsz0 hL _
  have hval : ∀ (j : Nat) t v, Tryd.f6.params[j]? = some t → args[j]? = some v → Value.okWide Tryd.prog W .any base t v := hval0
  have hW' := hW
  have hsz : (DataW.weightsEach Tryd.prog (Tryd.f6.params.toList ++ Rows.shaLengthsSpec.plain.varTypes Tryd.prog) (ds ++ gs)).all (· ≤ reachBytes) = true := hsz0
  have hlt : ∀ x ∈ before, x.block < W.heap.size := fun x hx => by simpa using hW.lt x hx
  have hT := tab_of_laid hL
  obtain ⟨p, q, hA0, hV, rfl, hfz, hnd⟩ := hW
  have hA : DataW.TrodAll enc Tryd.prog W 0 (fun _ => true) true Tryd.f6.params.toList args.toList ds p := hA0
  rw [Tryd.params6] at hA hval hsz
  obtain ⟨v0, vs0, d0, ds0, p0, q0, hargs, rfl, rfl, h0, r0⟩ := trodAll_cons hA
  obtain ⟨v1, vs1, d1, ds1, p1, q1, rfl, rfl, rfl, h1, r1⟩ := trodAll_cons r0
  obtain ⟨rfl, rfl, rfl⟩ := trodAll_nil r1
  obtain rfl : args = #[v0, v1] := by cases args; simp_all
  obtain ⟨rfl, rfl⟩ := trodVars_none hV
  obtain ⟨a0, rfl, rfl, rfl, w0⟩ := open_int Tryd.underlying38 (hval 0 38 v0 rfl rfl) h0
  obtain ⟨a1, rfl, rfl, rfl, w1⟩ := open_int Tryd.underlying5 (hval 1 5 v1 rfl rfl) h1
  have hb : 0 ≤ a0 ∧ a0 < 65536 := by
    have h1 : IntKind.u16.min = 0 := rfl
    have h2 : IntKind.u16.max = 65535 := rfl
    simp only [Lit.wf, Bool.and_eq_true, decide_eq_true_eq] at w0
    omega
  have hb1 : 0 ≤ a1 ∧ a1 < 256 := by
    have h1 : IntKind.u8.min = 0 := rfl
    have h2 : IntKind.u8.max = 255 := rfl
    simp only [Lit.wf, Bool.and_eq_true, decide_eq_true_eq] at w1
    omega
  obtain ⟨N, rfl⟩ := Int.eq_ofNat_of_zero_le hb.1
  have hx := bv_mk a1 hb1.1 hb1.2
  have main : Calls Tryd.prog 6 #[.int .u16 (N : Int), .int .u8 a1] W fun e w' => e = .returned (.bool true) ∧ Below W.heap.size W w' := by
    rw [hx]
    exact walk N (UInt8.ofNat a1.toNat) W (by omega) hT
  refine main.mono fun e W' ⟨he, hg⟩ => ?_
  subst he
  exact ⟨_, rfl, post_law laidOut rfl (by kernel_rfl) hW' hg rfl Tryd.underlying4 rfl rfl rfl⟩

theorem row_holds : Rows.ShaLengthsSaid :=
  OpenClaim.holds_of_wide 6 Tryd.f6 rfl rfl rfl rfl rfl rfl rfl ⟨rfl, rfl, rfl, rfl, rfl⟩ rfl rfl rfl rfl rfl (by kernel_rfl) Tryd.func6 (by kernel_rfl)
    (of_decide_eq_true (by kernel_rfl)) (by unfold Func.isWrapper; first | (rw [if_pos (by decide +kernel)]; kernel_rfl) | (rw [if_neg (by decide +kernel)]; exact ⟨rfl, rfl⟩))
    (fun os started H enc _ => lifted os started H enc)

theorem proved : Rows.ShaLengthsCardSaid :=
  Claim7.holds_tied_plain_at .later [] [.data, .data] true Rows.shaLengthsCard.stood.harness false
    row_holds (fun _ h => by cases h) (by kernel_rfl) (fun _ h => by cases h) shaLengths_row_tie rfl ⟨rfl, rfl⟩ (by kernel_rfl) rfl
    (fun f fn hf hfn => by
      obtain rfl : f = 6 := Option.some.inj ((show Tryd.prog.funcNamed "bailey/baileylaw02.ShaLengths" = some 6 by kernel_rfl).symm.trans hf) |>.symm
      obtain rfl : fn = Tryd.f6 := (Option.some.inj (Tryd.func6.symm.trans hfn)).symm
      exact ⟨by kernel_rfl, fun j t ht => by
        rw [Tryd.params6] at ht
        have hm : t ∈ [38, 5] := by simpa using Array.mem_of_getElem? ht
        have hall : ([38, 5].all fun u => !Tryd.prog.wantsStandIn u) = true := by kernel_rfl
        exact (show Tryd.prog.wantsStandIn t = false by simpa using List.all_eq_true.1 hall t hm)⟩)
    (by kernel_rfl)
#print axioms proved
end Go.Proofs.YtnjahmikenjjaaaDoor.shaLengths
