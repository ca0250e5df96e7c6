/- Layer 11 (safe), the landed program: Right, Arities. -/
import Derived.Test.YtggnhgfickkgdaaSfR
set_option linter.unusedVariables false
set_option linter.unusedSimpArgs false
namespace Go.Proofs.Ytggnhgfickkgdaa
open Go Go.RowKit

set_option maxRecDepth 100000 in
set_option maxHeartbeats 4000000 in
theorem right_any (A : Option Addr) (n c : Nat) (Q : List ClA) (C : List Cl) (w : World) (h : RdCs w w.heap.size A n Q C) (hs : Slim C) :
    Calls Try.prog 8 #[.slice A n c] w fun e w' => e = .returned (.tuple #[.int .i64 ((rightM C).1 : Int), .int .i64 ((rightM C).2 : Int)]) ∧ Below w.heap.size w w' := by
  have HC := Lib.hid h
  have HS := Lib.hid hs
  have hlen := h.lenC
  clear h hs
  have hmm := @run_makeMap Try.prog
  by_cases hb : 400 < n
  · have hbi : (400 : Int) < (n : Int) := by omega
    have HM := Lib.hid (show rightM C = (0, 6) by unfold rightM; rw [if_pos (by omega)])
    clear hlen
    go_enter Try.func8, Try.ntmps8
    repeat (first | go_skip | go_guarded | go_step)
    go_ret2
    exact ⟨by rw [HM.out]; rfl, Below.refl _ _⟩
  · have hbi : ¬ (400 : Int) < (n : Int) := by omega
    have HM := Lib.hid (show rightM C = rightFrom C C 0 by unfold rightM; rw [if_neg (by omega)])
    have HLEN := Lib.hid hlen
    clear hlen
    obtain ⟨W0, hW0, hm0, hb0⟩ : ∃ W0, W0 = w.alloc (.map #[] 0) ∧ MapL W0 w.heap.size 0 (fun _ => none) ∧ Below w.heap.size w W0 := ⟨_, rfl, MapL.made w, (Below.refl _ _).alloc (Nat.le_refl _) _⟩
    have HW0 := Lib.hid hW0
    have HM0 := Lib.hid hm0
    have HB0 := Lib.hid hb0
    clear hW0 hm0 hb0
    go_enter Try.func8, Try.ntmps8
    go_upto_region 4 with (fail)
    rw [← HW0.out]
    clear hmm
    repeat (first | go_skip | go_guarded | go_step)
    go_loopw [14] (fun q wr => ∃ (i : Nat) (f : LenF), i ≤ n ∧ q = .int .i64 (i : Int) ∧ rightM C = rightFrom C (C.drop i) i ∧ Seen f ((C.take i).flatMap keysC) ∧ MapL wr w.heap.size (i * 1000001) f ∧ Below w.heap.size w wr) (fun q _ => n - (intOf q).toNat)
    case atStart => exact ⟨0, fun _ => none, by omega, rfl, HM.out, seen_nil, HM0.out, HB0.out⟩
    case round =>
      obtain ⟨i, f, hi, rfl, hrm, hseen, hml, hbr⟩ := hrel
      have HRM := Lib.hid hrm
      have HBR := Lib.hid hbr
      have HSN := Lib.hid hseen
      have HML := Lib.hid hml
      clear hrm hbr hseen hml
      by_cases hlt : i < n
      · have hci : (i : Int) < (n : Int) := by omega
        have hrc := HC.out.below HBR.out
        obtain ⟨b, o, p, l, L, A0, n0, c0, A1, n1, c1, R, hA, hb, hx, hq, hd0, hd1, hd2, hrt, hrl⟩ := hrc.at_ hlt
        obtain ⟨hs1, hs2, hs3⟩ := HS.out _ (List.mem_of_getElem? hx)
        dsimp only at hs1 hs2 hs3
        have hn0 : n0 ≤ 1000000 := by have := rdT_len hrt; omega
        have hn1 : n1 ≤ 1000000 := by have := hrl.lenL; omega
        have HDROP := Lib.hid (show C.drop i = ((p, l), L) :: C.drop (i + 1) by
          obtain ⟨q1, q2⟩ := List.getElem?_eq_some_iff.1 hx
          rw [List.drop_eq_getElem_cons q1, q2])
        have HTK := Lib.hid (take_len_flat hx)
        have HBAD := Lib.hid (wrong_bad HSN.out hx)
        subst hA
        obtain ⟨U, hU, hbU, hbu⟩ := box3 wr p (.slice A0 n0 c0) (.slice A1 n1 c1) 36
        have HU := Lib.hid hU
        have hcall := wrong_any w.heap.size (i * 1000001) f p A0 n0 c0 l A1 n1 c1 R L w.heap.size U (HML.out.below hbu) (by omega) (hrt.below (hbu.mono HBR.out.size)) (hrl.below (hbu.mono HBR.out.size)) (Nat.le_trans HBR.out.size hbu.size) (Nat.le_refl _) hn0 hn1 hs3
        have HBU := Lib.hid (HBR.out.trans (hbu.mono HBR.out.size))
        have k0 := hbU.read (Below.refl _ _) 0 rfl
        have k1 := hbU.read (Below.refl _ _) 1 rfl
        have k2 := hbU.read (Below.refl _ _) 2 rfl
        clear hrc hx hq hrt hrl hb hs1 hs2 hs3 hU hbU hbu
        go_upto_region 7 with (fail)
        rw [← HU.out]
        clear hd0 hd1 hd2
        repeat (first | go_skip | go_guarded | go_step)
        refine hcall.mono ?_
        rintro e w2 ⟨rfl, hok, ht2⟩
        have HOK := Lib.hid hok
        have HBW2 := Lib.hid (HBU.out.trans (ht2.below (B := w.heap.size) (fun y _ e => by rw [e]; exact Nat.le_refl _) HBU.out.size))
        clear hcall hok ht2 k0 k1 k2
        dsimp only
        obtain ⟨er, her⟩ : ∃ er, er = wrongM f ((p, l), L) := ⟨_, rfl⟩
        rw [← her] at HOK HBAD ⊢
        by_cases h0 : er = 0
        · have hd : ((er : Int) != 0) = false := by rw [h0]; rfl
          obtain ⟨hm2, hr2⟩ := HOK.out h0
          have HM2 := Lib.hid hm2
          have HR2 := Lib.hid hr2
          have H0 := Lib.hid h0
          clear hm2 hr2 h0 her
          repeat (first | go_skip | go_guarded | go_step)
          go_roundw
          case rel =>
            refine ⟨i + 1, _, by omega, by go_num, ?_, ?_, HM2.out.more (by omega), HBW2.out⟩
            · rw [HRM.out, HDROP.out, rightFrom_ok (by rw [← HBAD.out]; exact H0.out)]
            · rw [HTK.out]; exact seen_more HSN.out _ HR2.out
          case measure => simp [intOf]; omega
        · have hd : ((er : Int) != 0) = true := by rw [bne_iff_ne]; omega
          have H0 := Lib.hid h0
          clear h0 her
          repeat (first | go_skip | go_guarded | go_step)
          go_ret2
          exact ⟨by rw [HRM.out, HDROP.out, rightFrom_bad (by rw [← HBAD.out]; exact H0.out), ← HBAD.out]; rfl, HBW2.out⟩
      · obtain rfl : n = i := by omega
        have hci : ¬ (n : Int) < (n : Int) := by omega
        have HE := Lib.hid (show rightM C = (0, 0) by rw [HRM.out, List.drop_eq_nil_of_le (by have := HLEN.out; omega)]; rfl)
        repeat (first | go_skip | go_guarded | go_step)
        go_ret2
        exact ⟨by rw [HE.out]; rfl, HBR.out⟩
theorem fit_take {C : List Cl} (h : fitL (C.flatMap keysC) = true) (k : Nat) : fitL ((C.take k).flatMap keysC) = true := by
  unfold fitL at h ⊢
  rw [decide_eq_true_iff] at h ⊢
  rw [show C.flatMap keysC = (C.take k).flatMap keysC ++ (C.drop k).flatMap keysC by rw [← List.flatMap_append, List.take_append_drop]] at h
  exact (List.pairwise_append.1 h).1
theorem seen_fact {f : LenF} {K F : List Key} {i : Nat} {k : Key} (h : Seen f (K ++ F.take i)) (hk : F[i]? = some k) (h6 : k.2 ≤ 6) : aritB K F i k = fitsB f k := by
  have h1 := agree_fits h.1 h.2 k
  rw [Bool.eq_iff_iff, h1]
  constructor
  · intro ha
    unfold aritB at ha
    simp only [Bool.and_eq_true, List.all_eq_true, decide_eq_true_eq] at ha
    intro y hy
    rcases List.mem_append.1 hy with hy | hy
    · exact ha.2.1 y hy
    · exact ha.2.2 y hy
  · intro ha
    exact arit_yes h6 (fun y hy => ha y (List.mem_append_left _ hy)) (fun y hy => ha y (List.mem_append_right _ hy))
theorem seen_next {f : LenF} {K F : List Key} {i : Nat} {k : Key} (h : Seen f (K ++ F.take i)) (hk : F[i]? = some k) (hf : fitsB f k = true) : Seen (fitsF f k) (K ++ F.take (i + 1)) := by
  rw [List.take_add_one, hk, Option.toList_some, ← List.append_assoc]
  exact ⟨agree_add h.1 k hf, pair_snoc.2 ⟨h.2, (agree_fits h.1 h.2 k).1 hf⟩⟩
theorem arit_big {K F : List Key} {i : Nat} {k : Key} (h6 : 6 < k.2) : aritB K F i k = false := by
  unfold aritB
  rw [decide_eq_false (by omega)]
  rfl
set_option maxRecDepth 100000 in
set_option maxHeartbeats 4000000 in
theorem arities_any (A : Option Addr) (n c : Nat) (Q : List ClA) (C : List Cl) (A2 : Option Addr) (n2 c2 : Nat) (Y : List AtR) (w : World) (h : RdCs w w.heap.size A n Q C) (h2 : Rd w w.heap.size 2 A2 n2 (Y.flatMap atC)) (hY : Y.length = n2) (hs : Slim C) (hn : n ≤ 1000000) (hn2 : n2 ≤ 1000000) :
    Calls Try.prog 10 #[.slice A n c, .slice A2 n2 c2] w fun e w' => (∃ at_ er : Int, e = .returned (.tuple #[.int .i64 at_, .int .i64 er])) ∧ ((rightM C).2 = 0 → e = .returned (.tuple #[.int .i64 ((aritM C (Y.map keyR)).1 : Int), .int .i64 ((aritM C (Y.map keyR)).2 : Int)])) ∧ Below w.heap.size w w' := by
  have HC := Lib.hid h
  have HS := Lib.hid hs
  have HF2 := Lib.hid h2
  have HY := Lib.hid hY
  have HLEN := Lib.hid h.lenC
  have HRZ := Lib.hid (show (rightM C).2 = 0 → ∀ k, fitL ((C.take k).flatMap keysC) = true from fun hz k => fit_take ((right_zero C).1 hz).2.2 k)
  have hmm := @run_makeMap Try.prog
  obtain ⟨W0, hW0, hm0, hb0⟩ : ∃ W0, W0 = w.alloc (.map #[] 0) ∧ MapL W0 w.heap.size 0 (fun _ => none) ∧ Below w.heap.size w W0 := ⟨_, rfl, MapL.made w, (Below.refl _ _).alloc (Nat.le_refl _) _⟩
  have HW0 := Lib.hid hW0
  have HM0 := Lib.hid hm0
  have HB0 := Lib.hid hb0
  clear hW0 hm0 hb0 h hs h2 hY
  go_enter Try.func10, Try.ntmps10
  go_upto_region 2 with (fail)
  rw [← HW0.out]
  clear hmm
  repeat (first | go_skip | go_guarded | go_step)
  go_loopw [14] (fun q wr => ∃ (i : Nat) (f : LenF), i ≤ n ∧ q = .int .i64 (i : Int) ∧ ((rightM C).2 = 0 → Seen f ((C.take i).flatMap keysC)) ∧ MapL wr w.heap.size (i * 1000001) f ∧ Below w.heap.size w wr) (fun q _ => n - (intOf q).toNat)
  case atStart => exact ⟨0, fun _ => none, by omega, rfl, fun _ => seen_nil, HM0.out, HB0.out⟩
  case round =>
    obtain ⟨i, f, hi, rfl, hseen, hml, hbr⟩ := hrel
    have HBR := Lib.hid hbr
    have HSN := Lib.hid hseen
    have HML := Lib.hid hml
    clear hbr hseen hml
    by_cases hlt : i < n
    · have hci : (i : Int) < (n : Int) := by omega
      have hrc := HC.out.below HBR.out
      obtain ⟨b, o, p, l, L, A0, n0, c0, A1, n1, c1, R, hA, hb, hx, hq, hd0, hd1, hd2, hrt, hrl⟩ := hrc.at_ hlt
      obtain ⟨hs1, hs2, hs3⟩ := HS.out _ (List.mem_of_getElem? hx)
      dsimp only at hs1 hs2 hs3
      have hn0 : n0 ≤ 1000000 := by have := rdT_len hrt; omega
      have hn1 : n1 ≤ 1000000 := by have := hrl.lenL; omega
      have HTK := Lib.hid (take_len_flat hx)
      have HX := Lib.hid hx
      subst hA
      obtain ⟨U, hU, hbU, hbu⟩ := box3 wr p (.slice A0 n0 c0) (.slice A1 n1 c1) 36
      have HU := Lib.hid hU
      have hcall := fitAll_any w.heap.size (i * 1000001) f p A0 n0 c0 l A1 n1 c1 R L w.heap.size U (HML.out.below hbu) (by omega) (hrt.below (hbu.mono HBR.out.size)) (hrl.below (hbu.mono HBR.out.size)) (Nat.le_trans HBR.out.size hbu.size) (Nat.le_refl _) hn0 hn1 hs3
      have HBU := Lib.hid (HBR.out.trans (hbu.mono HBR.out.size))
      have k0 := hbU.read (Below.refl _ _) 0 rfl
      have k1 := hbU.read (Below.refl _ _) 1 rfl
      have k2 := hbU.read (Below.refl _ _) 2 rfl
      clear hrc hx hq hrt hrl hb hs1 hs2 hs3 hU hbU hbu
      go_upto_region 5 with (fail)
      rw [← HU.out]
      clear hd0 hd1 hd2
      repeat (first | go_skip | go_guarded | go_step)
      refine hcall.mono ?_
      rintro e w2 ⟨rfl, hm2, ht2⟩
      have HM2 := Lib.hid hm2
      have HBW2 := Lib.hid (HBU.out.trans (ht2.below (B := w.heap.size) (fun y _ e => by rw [e]; exact Nat.le_refl _) HBU.out.size))
      clear hcall hm2 ht2 k0 k1 k2
      dsimp only
      repeat (first | go_skip | go_guarded | go_step)
      go_roundw
      case rel =>
        refine ⟨i + 1, _, by omega, by go_num, fun hz => ?_, HM2.out.more (by omega), HBW2.out⟩
        rw [HTK.out]
        refine seen_more (HSN.out hz) _ ?_
        rw [seen_run (HSN.out hz), ← HTK.out]
        exact HRZ.out hz (i + 1)
      case measure => simp [intOf]; omega
    · obtain rfl : n = i := by omega
      have hci : ¬ (n : Int) < (n : Int) := by omega
      have HSK := Lib.hid (show (rightM C).2 = 0 → Seen f (C.flatMap keysC ++ (Y.map keyR).take 0) from fun hz => by
        have := HSN.out hz
        rw [List.take_of_length_le (by have := HLEN.out; omega)] at this
        simpa using this)
      repeat (first | go_skip | go_guarded | go_step)
      go_loopw [24] (fun q wz => ∃ (i : Nat) (f : LenF), i ≤ n2 ∧ q = .int .i64 (i : Int) ∧ ((rightM C).2 = 0 → aritM C (Y.map keyR) = aritFrom (C.flatMap keysC) (Y.map keyR) ((Y.map keyR).drop i) i ∧ Seen f (C.flatMap keysC ++ (Y.map keyR).take i)) ∧ MapL wz w.heap.size (n * 1000001 + i) f ∧ Below w.heap.size w wz) (fun q _ => n2 - (intOf q).toNat)
      case atStart => exact ⟨0, f, by omega, rfl, fun hz => ⟨rfl, HSK.out hz⟩, by rw [Nat.add_zero]; exact HML.out, HBR.out⟩
      case round =>
        rename World => wz
        obtain ⟨i, f, hi, rfl, hseen, hml, hbr⟩ := hrel
        have HBZ := Lib.hid hbr
        have HSZ := Lib.hid hseen
        have HMZ := Lib.hid hml
        clear hbr hseen hml
        by_cases hlt : i < n2
        · have hci : (i : Int) < (n2 : Int) := by omega
          obtain ⟨x, hx⟩ : ∃ x, Y[i]? = some x := ⟨_, List.getElem?_eq_getElem (by rw [HY.out]; exact hlt)⟩
          obtain ⟨b4, o4, hAl, hb4, hc0, hc1⟩ := rdAt (HF2.out.below HBZ.out) hlt hx
          subst hAl
          obtain ⟨px, Ax, nx, cx⟩ := x
          dsimp only at hc0 hc1
          have HK := Lib.hid (show (Y.map keyR)[i]? = some (px, nx) by rw [List.getElem?_map, hx]; rfl)
          have HDR := Lib.hid (show (Y.map keyR).drop i = (px, nx) :: (Y.map keyR).drop (i + 1) by
            obtain ⟨q1, q2⟩ := List.getElem?_eq_some_iff.1 HK.out
            rw [List.drop_eq_getElem_cons q1, q2])
          obtain ⟨U, hU, hbU, hbu⟩ : ∃ U, U = wz.alloc (.cells #[nv px, .slice Ax nx cx] 43) ∧ Bk U wz.heap.size 43 [nv px, .slice Ax nx cx] ∧ Below wz.heap.size wz U := ⟨_, rfl, Bk.new wz _ _, (Below.refl _ _).alloc (Nat.le_refl _) _⟩
          have HU := Lib.hid hU
          have HMU := Lib.hid (HMZ.out.below hbu)
          have HBU := Lib.hid (HBZ.out.trans (hbu.mono HBZ.out.size))
          have k0 := hbU.read (Below.refl _ _) 0 rfl
          have k1 := hbU.read (Below.refl _ _) 1 rfl
          clear hx hb4 hU hbU hbu
          go_upto_region 10 with (fail)
          rw [← HU.out]
          clear hc0 hc1
          by_cases h6 : 6 < nx
          · have h6i : (6 : Int) < (nx : Int) := by omega
            have h6d : decide ((6 : Int) < (nx : Int)) = true := by simp; omega
            have HBIG := Lib.hid (arit_big (K := C.flatMap keysC) (F := Y.map keyR) (i := i) (k := (px, nx)) h6)
            repeat (first | go_skip | go_guarded | go_step)
            go_ret2
            exact ⟨⟨_, _, rfl⟩, fun hz => by rw [(HSZ.out hz).1, HDR.out, aritFrom_bad HBIG.out]; rfl, HBU.out⟩
          · have h6i : ¬ (6 : Int) < (nx : Int) := by omega
            have h6d : decide ((6 : Int) < (nx : Int)) = false := by simp; omega
            have hcall := fits_any w.heap.size (n * 1000001 + i) f px nx U HMU.out (by omega) (by omega)
            have HAR := Lib.hid (show (rightM C).2 = 0 → aritB (C.flatMap keysC) (Y.map keyR) i (px, nx) = fitsB f (px, nx) from fun hz => seen_fact (HSZ.out hz).2 HK.out (by dsimp only; omega))
            cases hfb : fitsB f (px, nx) with
            | false =>
              rw [hfb] at hcall
              have HFB := Lib.hid hfb
              clear hfb
              repeat (first | go_skip | go_guarded | go_step)
              refine hcall.mono ?_
              rintro e w2 ⟨rfl, hm2, hg2⟩
              have HBW2 := Lib.hid (HBU.out.trans ((Turn.ofGrown (G := fun k => k = w.heap.size) hg2 fun k e => by cases e; rfl).below (B := w.heap.size) (fun y _ e => by rw [e]; exact Nat.le_refl _) HBU.out.size))
              clear hcall hm2 hg2 k0 k1
              dsimp only
              repeat (first | go_skip | go_guarded | go_step)
              go_ret2
              exact ⟨⟨_, _, rfl⟩, fun hz => by rw [(HSZ.out hz).1, HDR.out, aritFrom_bad (by rw [HAR.out hz, HFB.out])]; rfl, HBW2.out⟩
            | true =>
              rw [hfb] at hcall
              have HFB := Lib.hid hfb
              clear hfb
              repeat (first | go_skip | go_guarded | go_step)
              refine hcall.mono ?_
              rintro e w2 ⟨rfl, hm2, hg2⟩
              have HM2 := Lib.hid hm2
              have HBW2 := Lib.hid (HBU.out.trans ((Turn.ofGrown (G := fun k => k = w.heap.size) hg2 fun k e => by cases e; rfl).below (B := w.heap.size) (fun y _ e => by rw [e]; exact Nat.le_refl _) HBU.out.size))
              clear hcall hm2 hg2 k0 k1
              dsimp only
              repeat (first | go_skip | go_guarded | go_step)
              go_roundw
              case rel =>
                refine ⟨i + 1, _, by omega, by go_num, fun hz => ⟨?_, seen_next (HSZ.out hz).2 HK.out HFB.out⟩, HM2.out.more (by omega), HBW2.out⟩
                rw [(HSZ.out hz).1, HDR.out, aritFrom_ok (by rw [HAR.out hz, HFB.out])]
              case measure => simp [intOf]; omega
        · obtain rfl : n2 = i := by omega
          have hci : ¬ (n2 : Int) < (n2 : Int) := by omega
          have HE := Lib.hid (show (rightM C).2 = 0 → aritM C (Y.map keyR) = (0, 0) from fun hz => by rw [(HSZ.out hz).1, List.drop_eq_nil_of_le (by rw [List.length_map, HY.out]; exact Nat.le_refl _)]; rfl)
          repeat (first | go_skip | go_guarded | go_step)
          go_ret2
          exact ⟨⟨_, _, rfl⟩, fun hz => by rw [HE.out hz]; rfl, HBZ.out⟩
theorem safe_ok : SafeOk :=
  ⟨fun A n c Q C w h _ hs _ => right_any A n c Q C w h hs, fun A n c Q C A2 n2 c2 Y w h h2 hY _ hs hn hn2 => arities_any A n c Q C A2 n2 c2 Y w h h2 hY hs hn hn2⟩
end Go.Proofs.Ytggnhgfickkgdaa
