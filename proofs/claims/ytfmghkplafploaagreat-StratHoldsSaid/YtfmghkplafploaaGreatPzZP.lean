/- Texts, packed: StM StN -/
import Derived.Test.YtfmghkplafploaaGreatPzJ
import Derived.Test.YtfmghkplafploaaGreatRows
import Derived.Deep.CutRange
import Derived.Test.YtfmghkplafploaaGreatPzS
set_option linter.unusedVariables false
set_option linter.unusedSimpArgs false
namespace Go.Proofs.YtfmghkplafploaaGreat.stratLeast
open Go Go.RowKit Go.ChangeShapes Go.WideShapes Go.ChangeAt

theorem few_one (A : Option Addr) (n c : Nat) (Q : List ClA) (C : List Cl) (w : World) (h : RdCs w w.heap.size A n Q C) :
    Calls Tryz.prog 6 #[.slice A n c, .slice none 0 0] w fun e w' => e = .returned (.bool (fewB n 0 C [])) ∧ w' = w :=
  few_any A n c Q C none 0 0 [] w h Rd.nil rfl
set_option maxRecDepth 100000 in
set_option maxHeartbeats 2000000 in
theorem walkFew (wk : TWorksOk) (A : Option Addr) (n c : Nat) (Q : List ClA) (C : List Cl) (w : World) (h : RdCs w w.heap.size A n Q C) (hf : fewB n 0 C [] = false ∨ 60 < n) :
    Calls Tryz.prog 4 #[.slice A n c] w fun e w' => e = .returned (.bool true) ∧ Below w.heap.size w w' := by
  have f1 := few_one A n c Q C w h
  have WK := Lib.hid wk
  clear h wk
  cases hb1 : fewB n 0 C [] with
  | false =>
    rw [hb1] at f1
    clear hb1 hf
    go_enter Tryz.func4, Tryz.ntmps4
    repeat (first | go_skip | go_guarded | go_step)
    refine f1.mono ?_
    rintro e w1 ⟨rfl, rfl⟩
    clear f1
    dsimp only
    repeat (first | go_skip | go_guarded | go_step)
    refine (WK.out _).mono ?_
    rintro e wz ⟨rfl, hbz⟩
    have HBZ := Lib.hid (hbz)
    clear hbz
    dsimp only
    repeat (first | go_skip | go_guarded | go_step)
    go_ret
    exact ⟨rfl, HBZ.out⟩
  | true =>
    rw [hb1] at f1 hf
    have hlt : (60 : Int) < (n : Int) := by
      rcases hf with hf | hf
      · cases hf
      · omega
    clear hb1 hf
    go_enter Tryz.func4, Tryz.ntmps4
    repeat (first | go_skip | go_guarded | go_step)
    refine f1.mono ?_
    rintro e w1 ⟨rfl, rfl⟩
    clear f1
    dsimp only
    repeat (first | go_skip | go_guarded | go_step)
    refine (WK.out _).mono ?_
    rintro e wz ⟨rfl, hbz⟩
    have HBZ := Lib.hid (hbz)
    clear hbz
    dsimp only
    repeat (first | go_skip | go_guarded | go_step)
    go_ret
    exact ⟨rfl, HBZ.out⟩
set_option maxRecDepth 100000 in
set_option maxHeartbeats 4000000 in
theorem walkWrong (ok : StratOk) (wk : TWorksOk) (A : Option Addr) (n c : Nat) (Q : List ClA) (C : List Cl) (w : World) (h : RdCs w w.heap.size A n Q C) (hnc : n ≤ c) (hb1 : fewB n 0 C [] = true) (hS : Slim C) (hn : n ≤ 60) (h0 : (rightM C).2 ≠ 0) :
    Calls Tryz.prog 4 #[.slice A n c] w fun e w' => e = .returned (.bool true) ∧ Below w.heap.size w w' := by
  have f1 := few_one A n c Q C w h
  rw [hb1] at f1
  have hright := rRight_any A n c Q C w h hnc hS
  obtain ⟨r1, hr1⟩ : ∃ r1 : Int, r1 = ((rightM C).1 : Int) := ⟨_, rfl⟩
  obtain ⟨r2, hr2⟩ : ∃ r2 : Nat, r2 = (rightM C).2 := ⟨_, rfl⟩
  rw [← hr1, ← hr2] at hright
  have HC := Lib.hid h
  have HS := Lib.hid hS
  have OK := Lib.hid ok
  have WK := Lib.hid wk
  have HR2 := Lib.hid hr2
  have hgt : ¬ (60 : Int) < (n : Int) := by omega
  have hne : ((r2 : Int) != 0) = true := by simp; omega
  have htold := LevTold.wrong h0
  rw [← hr2] at htold
  have HTW := Lib.hid htold
  have heq : ((r2 : Int) == (r2 : Int)) = true := by simp
  clear h hb1 hS ok wk hr1 hr2 h0 htold
  go_enter Tryz.func4, Tryz.ntmps4
  repeat (first | go_skip | go_guarded | go_step)
  refine f1.mono ?_
  rintro e w1 ⟨rfl, rfl⟩
  clear f1
  dsimp only
  repeat (first | go_skip | go_guarded | go_step)
  refine hright.mono ?_
  rintro e w2 ⟨rfl, hb2⟩
  have HB2 := Lib.hid hb2
  clear hright hb2
  dsimp only
  repeat (first | go_skip | go_guarded | go_step)
  refine (OK.out.levels A n c Q C w2 ((HC.out.below HB2.out).more HB2.out.size) hnc HS.out (by omega)).mono ?_
  rintro e w3 ⟨er, A3, c3, L, rfl, ht3, hr3, hb3⟩
  have HB3 := Lib.hid (HB2.out.trans (hb3.mono HB2.out.size))
  obtain ⟨rfl, rfl⟩ := HTW.out.unique ht3
  clear ht3 hr3 hb3
  dsimp only
  repeat (first | go_skip | go_guarded | go_step)
  refine (WK.out _).mono ?_
  rintro e wz ⟨rfl, hbz⟩
  have HBZ := Lib.hid (HB3.out.trans (hbz.mono HB3.out.size))
  clear hbz
  dsimp only
  repeat (first | go_skip | go_guarded | go_step)
  go_ret
  exact ⟨rfl, HBZ.out⟩
set_option maxRecDepth 100000 in
set_option maxHeartbeats 4000000 in
theorem walkNone (ok : StratOk) (wk : TWorksOk) (A : Option Addr) (n c : Nat) (Q : List ClA) (C : List Cl) (w : World) (h : RdCs w w.heap.size A n Q C) (hnc : n ≤ c) (hb1 : fewB n 0 C [] = true) (hS : Slim C) (hn : n ≤ 60) (h0 : (rightM C).2 = 0) (hno : ¬ ∃ f, Valid (edL C) f) :
    Calls Tryz.prog 4 #[.slice A n c] w fun e w' => e = .returned (.bool true) ∧ Below w.heap.size w w' := by
  have f1 := few_one A n c Q C w h
  rw [hb1] at f1
  have hright := rRight_any A n c Q C w h hnc hS
  obtain ⟨r1, hr1⟩ : ∃ r1 : Int, r1 = ((rightM C).1 : Int) := ⟨_, rfl⟩
  obtain ⟨r2, hr2⟩ : ∃ r2 : Nat, r2 = (rightM C).2 := ⟨_, rfl⟩
  rw [← hr1, ← hr2] at hright
  have HC := Lib.hid h
  have HS := Lib.hid hS
  have OK := Lib.hid ok
  have WK := Lib.hid wk
  have HR2 := Lib.hid hr2
  have hgt : ¬ (60 : Int) < (n : Int) := by omega
  have hne : ((r2 : Int) != 0) = false := by simp; omega
  have HTW := Lib.hid (LevTold.none h0 hno)
  have HRO := Lib.hid (show Rounds (edL C) from Classical.byContradiction fun q => hno (valid_iff.2 q))
  clear h hb1 hS ok wk hr1 hr2 h0 hno
  go_enter Tryz.func4, Tryz.ntmps4
  repeat (first | go_skip | go_guarded | go_step)
  refine f1.mono ?_
  rintro e w1 ⟨rfl, rfl⟩
  clear f1
  dsimp only
  repeat (first | go_skip | go_guarded | go_step)
  refine hright.mono ?_
  rintro e w2 ⟨rfl, hb2⟩
  have HB2 := Lib.hid hb2
  clear hright hb2
  dsimp only
  repeat (first | go_skip | go_guarded | go_step)
  refine (OK.out.levels A n c Q C w2 ((HC.out.below HB2.out).more HB2.out.size) hnc HS.out (by omega)).mono ?_
  rintro e w3 ⟨er, A3, c3, L, rfl, ht3, hr3, hb3⟩
  have HB3 := Lib.hid (HB2.out.trans (hb3.mono HB2.out.size))
  obtain ⟨rfl, rfl⟩ := HTW.out.unique ht3
  have hround := round_any A n c Q C w3 ((HC.out.below HB3.out).more HB3.out.size) HS.out (by omega)
  clear ht3 hr3 hb3
  dsimp only
  repeat (first | go_skip | go_guarded | go_step)
  refine hround.mono ?_
  rintro e w4 ⟨bb, rfl, hbb, hb4⟩
  obtain rfl : bb = true := hbb.2 HRO.out
  have HB4 := Lib.hid (HB3.out.trans (hb4.mono HB3.out.size))
  clear hround hb4 hbb
  dsimp only
  repeat (first | go_skip | go_guarded | go_step)
  refine (WK.out _).mono ?_
  rintro e wz ⟨rfl, hbz⟩
  have HBZ := Lib.hid (HB4.out.trans (hbz.mono HB4.out.size))
  clear hbz
  dsimp only
  repeat (first | go_skip | go_guarded | go_step)
  go_ret
  exact ⟨rfl, HBZ.out⟩
set_option maxRecDepth 100000 in
set_option maxHeartbeats 16000000 in
theorem walkSome (ok : StratOk) (wk : TWorksOk) (A : Option Addr) (n c : Nat) (Q : List ClA) (C : List Cl) (w : World) (h : RdCs w w.heap.size A n Q C) (hnc : n ≤ c) (hb1 : fewB n 0 C [] = true) (hS : Slim C) (hn : n ≤ 60) (f : UInt32 → Nat) (h0 : (rightM C).2 = 0) (hls : Least (edL C) f) :
    Calls Tryz.prog 4 #[.slice A n c] w fun e w' => e = .returned (.bool true) ∧ Below w.heap.size w w' := by
  have f1 := few_one A n c Q C w h
  rw [hb1] at f1
  have hright := rRight_any A n c Q C w h hnc hS
  obtain ⟨r1, hr1⟩ : ∃ r1 : Int, r1 = ((rightM C).1 : Int) := ⟨_, rfl⟩
  obtain ⟨r2, hr2⟩ : ∃ r2 : Nat, r2 = (rightM C).2 := ⟨_, rfl⟩
  rw [← hr1, ← hr2] at hright
  have HC := Lib.hid h
  have HS := Lib.hid hS
  have OK := Lib.hid ok
  have WK := Lib.hid wk
  have HR2 := Lib.hid hr2
  have hgt : ¬ (60 : Int) < (n : Int) := by omega
  have hne : ((r2 : Int) != 0) = false := by simp; omega
  have HNR := Lib.hid (show ¬ Rounds (edL C) from valid_iff.1 ⟨f, hls.valid⟩)
  have HPB := Lib.hid (pr_bound hS (by rw [h.lenC]; omega))
  have HLST := Lib.hid hls
  have H0 := Lib.hid h0
  clear h hb1 hS ok wk hr1 hr2 h0 hls
  go_enter Tryz.func4, Tryz.ntmps4
  repeat (first | go_skip | go_guarded | go_step)
  refine f1.mono ?_
  rintro e w1 ⟨rfl, rfl⟩
  clear f1
  dsimp only
  repeat (first | go_skip | go_guarded | go_step)
  refine hright.mono ?_
  rintro e w2 ⟨rfl, hb2⟩
  have HB2 := Lib.hid hb2
  clear hright hb2
  dsimp only
  repeat (first | go_skip | go_guarded | go_step)
  refine (OK.out.levels A n c Q C w2 ((HC.out.below HB2.out).more HB2.out.size) hnc HS.out (by omega)).mono ?_
  rintro e w3 ⟨er, A3, c3, L, rfl, ht3, hr3, hb3⟩
  have HB3 := Lib.hid (HB2.out.trans (hb3.mono HB2.out.size))
  have hround := round_any A n c Q C w3 ((HC.out.below HB3.out).more HB3.out.size) HS.out (by omega)
  have hcase : ∀ e, LevTold C e L → e = 0 ∧ (L.map (·.1)).Pairwise (· < ·) ∧ (∀ p, p ∈ L.map (·.1) ↔ p ∈ prL C) ∧ ∀ x ∈ L, x.2 = f x.1 := fun e h => by
    cases h with
    | wrong q => exact absurd H0.out q
    | none _ q => exact absurd ⟨f, HLST.out.valid⟩ q
    | some a b c d e => rw [HLST.out.unique b]; exact ⟨rfl, c, d, e⟩
  obtain ⟨rfl, hsort, hmem, hval⟩ := hcase er ht3
  rw [show (((0 : Nat)) : Int) = (0 : Int) from rfl]
  have hlm := ht3.len
  obtain ⟨m, hm⟩ : ∃ m, m = L.length := ⟨_, rfl⟩
  have hof : ∀ p ∈ prL C, ofM L p = (f p : Int) := fun p hp => by
    have h1 := (hmem p).2 hp
    have h2 := hval _ (lvN_mem h1)
    dsimp only at h2
    rw [ofM_in h1, h2]
  have hltm : ∀ p ∈ L.map (·.1), f p < m := fun p hp => by
    have := HLST.out.lt (P := L.map (·.1)) (fun e he => (hmem _).2 (edge_body he)) hp
    rwa [List.length_map, ← hm] at this
  have HOF := Lib.hid hof
  have HLTM := Lib.hid hltm
  have HSORT := Lib.hid hsort
  have HVAL := Lib.hid hval
  have HR3 := Lib.hid hr3
  rw [← hm] at HR3 hlm ⊢
  have hmb : m ≤ 500000000000 := by have := HPB.out; omega
  have hz0 : ((0 : Int) != 0) = false := by simp
  have HM := Lib.hid hm
  clear ht3 hr3 hb3 hcase hsort hmem hval hm hof hltm hlm
  dsimp only
  repeat (first | go_skip | go_guarded | go_step)
  refine hround.mono ?_
  rintro e w4 ⟨bb, rfl, hbb, hb4⟩
  obtain rfl : bb = false := by
    cases bb with
    | false => rfl
    | true => exact absurd (hbb.1 rfl) HNR.out
  have HB4 := Lib.hid (HB3.out.trans (hb4.mono HB3.out.size))
  have HR4 := Lib.hid (Rd.more (Rd.below HR3.out hb4) hb4.size)
  clear hround hb4 hbb
  dsimp only
  repeat (first | go_skip | go_guarded | go_step)
  go_loopw [7] (fun q wr => ∃ i : Nat, i ≤ n ∧ q = .int .i64 (i : Int) ∧ wr = w4) (fun q _ => n - (intOf q).toNat)
  case atStart => exact ⟨0, by omega, rfl, rfl⟩
  case round =>
    rename World => wr
    obtain ⟨i, hi, rfl, rfl⟩ := hrel
    by_cases hlt : i < n
    · have hii : (i : Int) < (n : Int) := by omega
      obtain ⟨b, o, p, l, Li_, A0, n0, c0, A1, n1, c1, R, hA, hb, hx, hq, hd0, hd1, hd2, hrt, hrl⟩ := (HC.out.below HB4.out).at_ hlt
      have hn1 : n1 ≤ 1000000 := by have := (HS.out _ (List.mem_of_getElem? hx)).2.1; have := hrl.lenL; dsimp only at *; omega
      obtain ⟨hv, hhv⟩ : ∃ hv : Nat, hv = f p := ⟨_, rfl⟩
      have hcall := rOf_any A3 m c3 L p wr HR4.out (by omega)
      rw [HOF.out p (List.mem_flatMap.2 ⟨_, List.mem_of_getElem? hx, by unfold prC; simp⟩), ← hhv] at hcall
      have HX := Lib.hid hx
      have HRL := Lib.hid hrl
      have HHV := Lib.hid hhv
      subst hA
      clear hx hq hrt hrl hb hd1 hhv
      go_upto_region 14 with (fail)
      repeat (first | go_skip | go_guarded | go_step)
      refine hcall.mono ?_
      rintro e w5 ⟨rfl, rfl⟩
      clear hcall hd0
      dsimp only
      repeat (first | go_skip | go_guarded | go_step)
      go_loopw [9] (fun q w6 => ∃ k : Nat, k ≤ n1 ∧ q = .int .i64 (k : Int) ∧ w6 = w5) (fun q _ => n1 - (intOf q).toNat)
      case atStart => exact ⟨0, by omega, rfl, rfl⟩
      case round =>
        rename World => w6
        obtain ⟨k, hk, rfl, rfl⟩ := hrel
        by_cases hltk : k < n1
        · have hki : (k : Int) < (n1 : Int) := by omega
          obtain ⟨b3, o3, g3, p3, l3, Ai, ni_, ci, hA1, hb3, hx3, hr3, he0, he1, he2, hrow3⟩ := HRL.out.at2 hltk
          have hE : (p, p3, g3) ∈ edL C := edL_mem HX.out hx3
          obtain ⟨bv, hbv⟩ : ∃ bv : Nat, bv = f p3 := ⟨_, rfl⟩
          have hcall := rOf_any A3 m c3 L p3 w6 HR4.out (by omega)
          rw [HOF.out p3 (edge_body hE), ← hbv] at hcall
          have hle := HLST.out.valid _ hE
          dsimp only at hle
          rw [← hbv, ← HHV.out] at hle
          have hz1 : ¬ (hv : Int) < 0 := by omega
          have hz2 : ¬ (bv : Int) < 0 := by omega
          subst hA1
          clear hx3 hr3 he2 hrow3 hb3 hbv hE
          cases g3 with
          | false =>
            have hz3 : ¬ (hv : Int) < (bv : Int) := by simp only [dl] at hle; omega
            clear hle
            repeat (first | go_skip | go_guarded | go_step)
            refine hcall.mono ?_
            rintro e w7 ⟨rfl, rfl⟩
            clear hcall
            dsimp only
            repeat (first | go_skip | go_guarded | go_step)
            go_roundw
            case rel => exact ⟨k + 1, by omega, by go_num, (by first | rfl | trivial)⟩
            case measure => simp [intOf]; omega
          | true =>
            have hz3 : ¬ (hv : Int) < (bv : Int) := by simp only [dl, if_true] at hle; omega
            have hz4 : ((hv : Int) == (bv : Int)) = false := by simp only [dl, if_true] at hle; simp; omega
            clear hle
            repeat (first | go_skip | go_guarded | go_step)
            refine hcall.mono ?_
            rintro e w7 ⟨rfl, rfl⟩
            clear hcall
            dsimp only
            repeat (first | go_skip | go_guarded | go_step)
            go_roundw
            case rel => exact ⟨k + 1, by omega, by go_num, (by first | rfl | trivial)⟩
            case measure => simp [intOf]; omega
        · obtain rfl : n1 = k := by omega
          have hki : ¬ (n1 : Int) < (n1 : Int) := by omega
          repeat (first | go_skip | go_guarded | go_step)
          go_roundw
          case rel => exact ⟨i + 1, by omega, by go_num, (by first | rfl | trivial)⟩
          case measure => simp [intOf]; omega
    · obtain rfl : n = i := by omega
      have hii : ¬ (n : Int) < (n : Int) := by omega
      repeat (first | go_skip | go_guarded | go_step)
      go_loopw [11] (fun q w5 => ∃ j : Nat, j ≤ m ∧ q = .int .i64 (j : Int) ∧ Below wr.heap.size wr w5) (fun q _ => m - (intOf q).toNat)
      case atStart => exact ⟨0, by omega, rfl, Below.refl _ _⟩
      case round =>
        rename World => w5
        obtain ⟨j, hj, rfl, hb5⟩ := hrel
        have HB5 := Lib.hid hb5
        clear hb5
        by_cases hltj : j < m
        · have hji : (j : Int) < (m : Int) := by omega
          obtain ⟨b6, o6, x, hA6, hb6, hx6, hx0, hx1⟩ := rdV_at HR4.out hltj
          obtain ⟨px, vx⟩ := x
          dsimp only at hx0 hx1
          have hv6 : vx = f px := HVAL.out _ (List.mem_of_getElem? hx6)
          have hvm : vx < m := by rw [hv6]; exact HLTM.out px (List.mem_map.2 ⟨_, List.mem_of_getElem? hx6, rfl⟩)
          have HX6 := Lib.hid hx6
          have HV6 := Lib.hid hv6
          have HD6 := Lib.hid (show ∀ V, Below wr.heap.size wr V → V.cell? ⟨b6, o6 + j * 2, none⟩ = some (nv px) ∧ V.cell? ⟨b6, o6 + j * 2 + 1, none⟩ = some (.int .i64 (vx : Int)) from fun V hV => ⟨(hV.cell (p := ⟨b6, o6 + j * 2, none⟩) hb6).trans hx0, (hV.cell (p := ⟨b6, o6 + j * 2 + 1, none⟩) hb6).trans hx1⟩)
          have q0 := fun q => (HD6.out (w5.drewN q) (belowDrewQ HB5.out q)).1
          have q1 := fun q => (HD6.out (w5.drewN q) (belowDrewQ HB5.out q)).2
          have z1 : ¬ (vx : Int) < 0 := by omega
          have z2 : ¬ (m : Int) ≤ (vx : Int) := by omega
          clear hx6 hx0 hx1 hv6
          subst hA6
          go_upto_region 24 with (fail)
          go_cut [168] from 135 to 168 (fun r wc => r = .bool false ∧ Below wr.heap.size wr wc)
          case first =>
            by_cases hj0 : j = 0
            · have z3 : ¬ (0 : Int) < (j : Int) := by omega
              have z4 : decide (0 < j) = false := by rw [decide_eq_false_iff_not]; omega
              clear hb6 hj0
              go_quiet (fail)
              repeat (first | go_skip | go_guarded | go_step)
              go_meet
              case rel => exact ⟨rfl, belowDrewQ HB5.out nq⟩
            · have z3 : (0 : Int) < (j : Int) := by omega
              have z4 : decide (0 < j) = true := by rw [decide_eq_true_iff]; omega
              obtain ⟨s, hs⟩ : ∃ s, s + 1 = j := ⟨j - 1, by omega⟩
              have hw1 : IntKind.i64.wrap ((j : Int) - 1) = (s : Int) := by rw [IntKind.wrap_i64]; omega
              have hsi : (s : Int) < (m : Int) := by omega
              have hs0 : (0 : Int) ≤ (s : Int) := by omega
              obtain ⟨b7, o7, y, hA7, hb7, hy7, hy0, hy1⟩ := rdV_at HR4.out (i := s) (by omega)
              simp only [Option.some.injEq, Addr.mk.injEq, and_true] at hA7
              obtain ⟨rfl, rfl⟩ := hA7
              obtain ⟨py, vy⟩ := y
              dsimp only at hy0
              have hlt2 : py.toNat < px.toNat := by
                obtain ⟨a1, a2⟩ := List.getElem?_eq_some_iff.1 hy7
                obtain ⟨a3, a4⟩ := List.getElem?_eq_some_iff.1 HX6.out
                have := List.pairwise_iff_getElem.1 HSORT.out s j (by simpa using a1) (by simpa using a3) (by omega)
                rw [List.getElem_map, List.getElem_map, a2, a4] at this
                exact UInt32.lt_iff_toNat_lt.1 this
              have z5 : ¬ (px.toNat : Int) ≤ (py.toNat : Int) := by omega
              have q2 := fun q => ((belowDrewQ HB5.out q).cell (p := ⟨b6, o6 + s * 2, none⟩) hb6).trans hy0
              clear hb6 hj0 hb7 hy7 hy0 hy1 hlt2 hs
              go_quiet (fail)
              repeat (first | go_skip | go_guarded | go_step)
              go_meet
              case rel => exact ⟨rfl, belowDrewQ HB5.out nq⟩
          case rest =>
            rename World => w6
            obtain ⟨rfl, hb6'⟩ := hcut
            have HB6 := Lib.hid hb6'
            clear hb6 hb6' q0 q1 z1 z2
            obtain ⟨y0, y1⟩ := HD6.out w6 HB6.out
            by_cases hv0 : vx = 0
            · have d0 : ((vx : Int) == 0) = true := by simp; omega
              clear hv0
              repeat (first | go_skip | go_guarded | go_step)
              go_roundw
              case rel => exact ⟨j + 1, by omega, by go_num, HB6.out⟩
              case measure => simp [intOf]; omega
            · have d0 : ((vx : Int) == 0) = false := by simp; omega
              obtain ⟨lv, hlv⟩ : ∃ lv, lv = vx := ⟨_, rfl⟩
              obtain ⟨lv1, hlv1⟩ : ∃ lv1, lv1 + 1 = lv := ⟨lv - 1, by omega⟩
              have HLV := Lib.hid (show lv = f px by rw [hlv]; exact HV6.out)
              rw [← hlv] at HD6 d0 y1 hvm
              have hw1 : IntKind.i64.wrap ((lv : Int) - 1) = (lv1 : Int) := by rw [IntKind.wrap_i64]; omega
              have HLV1 := Lib.hid hlv1
              have hlvp : 0 < lv := by omega
              clear hlv hv0 HV6 y0
              repeat (first | go_skip | go_guarded | go_step)
              clear y1 d0
              go_loopw [12, 13] (fun bv q w7 => ∃ (k : Nat) (bb : Bool), k ≤ n ∧ bv = .bool bb ∧ q = .int .i64 (k : Int) ∧ (∀ e ∈ edL (C.take k), e.1 = px → f e.2.1 + dl e.2.2 = lv → bb = true) ∧ Below wr.heap.size wr w7) (fun _ q _ => n - (intOf q).toNat)
              case atStart => exact ⟨0, false, by omega, rfl, rfl, by simp [edL], HB6.out⟩
              case round =>
                rename World => w7
                obtain ⟨k, bb, hk, rfl, rfl, hvis, hb7⟩ := hrel
                have HVIS := Lib.hid hvis
                have HB7 := Lib.hid hb7
                clear hvis hb7
                by_cases hltk : k < n
                · have hki : (k : Int) < (n : Int) := by omega
                  obtain ⟨b, o, p, l, Lb, A0, n0, c0, A1, n1, c1, R, hA, hb, hx, hq, hd0, hd1, hd2, hrt, hrl⟩ := (HC.out.below HB4.out).at_ hltk
                  have hn1 : n1 ≤ 1000000 := by have := (HS.out _ (List.mem_of_getElem? hx)).2.1; have := hrl.lenL; dsimp only at *; omega
                  have hbw : b < wr.heap.size := Nat.lt_of_lt_of_le hb HB4.out.size
                  have HDC := Lib.hid (show ∀ V, Below wr.heap.size wr V → V.cell? ⟨b, o + k * 3, none⟩ = some (nv p) ∧ V.cell? ⟨b, o + k * 3 + 2, none⟩ = some (.slice A1 n1 c1) from fun V hV => ⟨(hV.cell (p := ⟨b, o + k * 3, none⟩) hbw).trans hd0, (hV.cell (p := ⟨b, o + k * 3 + 2, none⟩) hbw).trans hd2⟩)
                  have HX := Lib.hid hx
                  have HRL := Lib.hid (hrl.more HB4.out.size)
                  have HES := Lib.hid (edL_step hx)
                  subst hA
                  clear hx hq hrt hrl hb hd0 hd1 hd2 hbw
                  repeat (first | go_skip | go_guarded | go_step)
                  go_loopw [12, 14] (fun bv q w8 => ∃ (t : Nat) (bb : Bool), t ≤ n1 ∧ bv = .bool bb ∧ q = .int .i64 (t : Int) ∧ (∀ e ∈ edL (C.take k) ++ (edgC ((p, l), Lb)).take t, e.1 = px → f e.2.1 + dl e.2.2 = lv → bb = true) ∧ Below wr.heap.size wr w8) (fun _ q _ => n1 - (intOf q).toNat)
                  case atStart => exact ⟨0, bb, by omega, rfl, rfl, by rw [List.take_zero, List.append_nil]; exact HVIS.out, HB7.out⟩
                  case round =>
                    clear HVIS HB7
                    rename World => w8
                    obtain ⟨t, bb, ht, rfl, rfl, hvis, hb8⟩ := hrel
                    have HVIS := Lib.hid hvis
                    have HB8 := Lib.hid hb8
                    clear hvis hb8
                    have k2 := fun q => (HDC.out (w8.drewN q) (belowDrewQ HB8.out q)).2
                    by_cases hltt : t < n1
                    · have hti : (t : Int) < (n1 : Int) := by omega
                      have k0 := fun q => (HDC.out (w8.drewN q) (belowDrewQ HB8.out q)).1
                      have k1 := fun q => (HD6.out (w8.drewN q) (belowDrewQ HB8.out q)).1
                      by_cases hpp : p = px
                      · have d : ((p.toNat : Int) == (px.toNat : Int)) = true := by subst hpp; simp
                        have HPP := Lib.hid hpp
                        clear hpp
                        obtain ⟨b3, o3, g3, p3, l3, Ai, ni_, ci, hA1, hb3, hx3, hr3, he0, he1, he2, hrow3⟩ := HRL.out.at2 hltt
                        have hE : (p, p3, g3) ∈ edL C := edL_mem HX.out hx3
                        obtain ⟨bv, hbv⟩ : ∃ bv : Nat, bv = f p3 := ⟨_, rfl⟩
                        have HBV := Lib.hid hbv
                        have HX3 := Lib.hid (edC_at (x := ((p, l), Lb)) hx3)
                        go_upto_region 32 with (fail)
                        go_quiet (fail)
                        go_upto_region 34 with (fail)
                        obtain ⟨w9, hw9⟩ : ∃ w9, w9 = w8.drewN nq := ⟨_, rfl⟩
                        rw [← hw9]
                        have HB8 := Lib.hid (show Below wr.heap.size wr w9 by rw [hw9]; exact belowDrewQ HB8.out nq)
                        clear k0 k1 k2 hw9 d
                        have hcall := rOf_any _ m c3 L p3 w9 (Rd.more (Rd.below HR4.out HB8.out) HB8.out.size) (by omega)
                        rw [HOF.out p3 (edge_body hE), ← hbv] at hcall
                        obtain ⟨y0, y2⟩ := HDC.out w9 HB8.out
                        obtain ⟨y4, y5⟩ := HD6.out w9 HB8.out
                        have e0 := (HB8.out.cell (p := ⟨b3, o3 + t * 3, none⟩) hb3).trans he0
                        have e1 := (HB8.out.cell (p := ⟨b3, o3 + t * 3 + 1, none⟩) hb3).trans he1
                        have hlvl : lv1 + 1 = lv := HLV1.out
                        subst hA1
                        clear hx3 hr3 he0 he1 he2 hrow3 hb3 hbv hE y0 y4
                        cases bb with
                        | true =>
                          clear hlvl
                          repeat (first | go_skip | go_guarded | go_step)
                          refine hcall.mono ?_
                          rintro e w9 ⟨rfl, rfl⟩
                          clear hcall
                          dsimp only
                          repeat (first | go_skip | go_guarded | go_step)
                          go_roundw
                          case rel => exact ⟨t + 1, true, by omega, rfl, by go_num, fun _ _ _ _ => rfl, HB8.out⟩
                          case measure => simp [intOf]; omega
                        | false =>
                          cases g3 with
                          | false =>
                            by_cases q1 : bv = lv
                            · have d1 : ((bv : Int) == (lv : Int)) = true := by simp; omega
                              have d2 : ((bv : Int) == (lv1 : Int)) = false := by simp; omega
                              have HQ1 := Lib.hid q1
                              have HQ2 := Lib.hid (show bv = bv from rfl)
                              clear q1 hlvl
                              as_aux_lemma =>
                                repeat (first | go_skip | go_guarded | go_step)
                                refine hcall.mono ?_
                                rintro e w9 ⟨rfl, rfl⟩
                                clear hcall
                                dsimp only
                                repeat (first | go_skip | go_guarded | go_step)
                                go_roundw
                                case rel => exact ⟨t + 1, true, by omega, rfl, by go_num, fun _ _ _ _ => rfl, HB8.out⟩
                                case measure => simp [intOf]; omega
                            · have d1 : ((bv : Int) == (lv : Int)) = false := by simp; omega
                              by_cases q2 : bv = lv1
                              · have d2 : ((bv : Int) == (lv1 : Int)) = true := by simp; omega
                                have HQ1 := Lib.hid q1
                                have HQ2 := Lib.hid q2
                                clear q1 q2 hlvl
                                as_aux_lemma =>
                                  repeat (first | go_skip | go_guarded | go_step)
                                  refine hcall.mono ?_
                                  rintro e w9 ⟨rfl, rfl⟩
                                  clear hcall
                                  dsimp only
                                  repeat (first | go_skip | go_guarded | go_step)
                                  go_roundw
                                  case rel => exact ⟨t + 1, false, by omega, rfl, by go_num, fun e he h1 h2 => by
                                    rw [HX3.out, ← List.append_assoc] at he
                                    rcases List.mem_append.1 he with he | he
                                    · exact HVIS.out e he h1 h2
                                    · rw [List.mem_singleton] at he
                                      subst he
                                      exfalso
                                      dsimp only at h2
                                      rw [← HBV.out] at h2
                                      have a1 := HQ1.out
                                      have a2 := HQ2.out
                                      have a3 := HLV1.out
                                      rw [show dl false = 0 from rfl] at h2
                                      omega, HB8.out⟩
                                  case measure => simp [intOf]; omega
                              · have d2 : ((bv : Int) == (lv1 : Int)) = false := by simp; omega
                                have HQ1 := Lib.hid q1
                                have HQ2 := Lib.hid q2
                                clear q1 q2 hlvl
                                as_aux_lemma =>
                                  repeat (first | go_skip | go_guarded | go_step)
                                  refine hcall.mono ?_
                                  rintro e w9 ⟨rfl, rfl⟩
                                  clear hcall
                                  dsimp only
                                  repeat (first | go_skip | go_guarded | go_step)
                                  go_roundw
                                  case rel => exact ⟨t + 1, false, by omega, rfl, by go_num, fun e he h1 h2 => by
                                    rw [HX3.out, ← List.append_assoc] at he
                                    rcases List.mem_append.1 he with he | he
                                    · exact HVIS.out e he h1 h2
                                    · rw [List.mem_singleton] at he
                                      subst he
                                      exfalso
                                      dsimp only at h2
                                      rw [← HBV.out] at h2
                                      have a1 := HQ1.out
                                      have a2 := HQ2.out
                                      have a3 := HLV1.out
                                      rw [show dl false = 0 from rfl] at h2
                                      omega, HB8.out⟩
                                  case measure => simp [intOf]; omega
                          | true =>
                            by_cases q1 : bv = lv
                            · have d1 : ((bv : Int) == (lv : Int)) = true := by simp; omega
                              have d2 : ((bv : Int) == (lv1 : Int)) = false := by simp; omega
                              have HQ1 := Lib.hid q1
                              have HQ2 := Lib.hid (show bv = bv from rfl)
                              clear q1 hlvl
                              as_aux_lemma =>
                                repeat (first | go_skip | go_guarded | go_step)
                                refine hcall.mono ?_
                                rintro e w9 ⟨rfl, rfl⟩
                                clear hcall
                                dsimp only
                                repeat (first | go_skip | go_guarded | go_step)
                                go_roundw
                                case rel => exact ⟨t + 1, false, by omega, rfl, by go_num, fun e he h1 h2 => by
                                  rw [HX3.out, ← List.append_assoc] at he
                                  rcases List.mem_append.1 he with he | he
                                  · exact HVIS.out e he h1 h2
                                  · rw [List.mem_singleton] at he
                                    subst he
                                    exfalso
                                    dsimp only at h2
                                    rw [← HBV.out] at h2
                                    have a1 := HQ1.out
                                    have a2 := HQ2.out
                                    have a3 := HLV1.out
                                    rw [show dl true = 1 from rfl] at h2
                                    omega, HB8.out⟩
                                case measure => simp [intOf]; omega
                            · have d1 : ((bv : Int) == (lv : Int)) = false := by simp; omega
                              by_cases q2 : bv = lv1
                              · have d2 : ((bv : Int) == (lv1 : Int)) = true := by simp; omega
                                have HQ1 := Lib.hid q1
                                have HQ2 := Lib.hid q2
                                clear q1 q2 hlvl
                                as_aux_lemma =>
                                  repeat (first | go_skip | go_guarded | go_step)
                                  refine hcall.mono ?_
                                  rintro e w9 ⟨rfl, rfl⟩
                                  clear hcall
                                  dsimp only
                                  repeat (first | go_skip | go_guarded | go_step)
                                  go_roundw
                                  case rel => exact ⟨t + 1, true, by omega, rfl, by go_num, fun _ _ _ _ => rfl, HB8.out⟩
                                  case measure => simp [intOf]; omega
                              · have d2 : ((bv : Int) == (lv1 : Int)) = false := by simp; omega
                                have HQ1 := Lib.hid q1
                                have HQ2 := Lib.hid q2
                                clear q1 q2 hlvl
                                as_aux_lemma =>
                                  repeat (first | go_skip | go_guarded | go_step)
                                  refine hcall.mono ?_
                                  rintro e w9 ⟨rfl, rfl⟩
                                  clear hcall
                                  dsimp only
                                  repeat (first | go_skip | go_guarded | go_step)
                                  go_roundw
                                  case rel => exact ⟨t + 1, false, by omega, rfl, by go_num, fun e he h1 h2 => by
                                    rw [HX3.out, ← List.append_assoc] at he
                                    rcases List.mem_append.1 he with he | he
                                    · exact HVIS.out e he h1 h2
                                    · rw [List.mem_singleton] at he
                                      subst he
                                      exfalso
                                      dsimp only at h2
                                      rw [← HBV.out] at h2
                                      have a1 := HQ1.out
                                      have a2 := HQ2.out
                                      have a3 := HLV1.out
                                      rw [show dl true = 1 from rfl] at h2
                                      omega, HB8.out⟩
                                  case measure => simp [intOf]; omega
                      · have d := u32ne' hpp
                        have HPP := Lib.hid hpp
                        clear hpp
                        go_upto_region 32 with (fail)
                        go_quiet (fail)
                        repeat (first | go_skip | go_guarded | go_step)
                        have hb9 := belowDrewQ HB8.out nq
                        go_roundw
                        case rel => exact ⟨k + 1, bb, by omega, rfl, by go_num, fun e he h1 h2 => by
                          rw [HES.out] at he
                          rcases List.mem_append.1 he with he | he
                          · exact HVIS.out e (List.mem_append_left _ he) h1 h2
                          · obtain ⟨y, _, rfl⟩ := List.mem_map.1 he
                            exact absurd h1 HPP.out, hb9⟩
                        case measure => simp [intOf]; omega
                    · obtain rfl : n1 = t := by omega
                      have hti : ¬ (n1 : Int) < (n1 : Int) := by omega
                      go_upto_region 32 with (fail)
                      go_quiet (fail)
                      repeat (first | go_skip | go_guarded | go_step)
                      have hb9 := belowDrewQ HB8.out nq
                      go_roundw
                      case rel => exact ⟨k + 1, bb, by omega, rfl, by go_num, by
                        rw [HES.out]
                        have h := HVIS.out
                        rwa [List.take_of_length_le (l := edgC ((p, l), Lb)) (by unfold edgC; rw [List.length_map, HRL.out.lenL]; exact Nat.le_refl _)] at h, hb9⟩
                      case measure => simp [intOf]; omega
                · obtain rfl : n = k := by omega
                  have hki : ¬ (n : Int) < (n : Int) := by omega
                  obtain rfl : bb = true := by
                    obtain ⟨e, he, h1, h2⟩ := HLST.out.wants (p := px) (by have := HLV.out; omega)
                    have h := HVIS.out
                    rw [List.take_of_length_le (by rw [HC.out.lenC]; exact Nat.le_refl _)] at h
                    exact h e he h1 (by rw [h2, ← HLV.out])
                  repeat (first | go_skip | go_guarded | go_step)
                  go_roundw
                  case rel => exact ⟨j + 1, by omega, by go_num, HB7.out⟩
                  case measure => simp [intOf]; omega
        · obtain rfl : m = j := by omega
          have hji : ¬ (m : Int) < (m : Int) := by omega
          have HBZ := Lib.hid (HB4.out.trans (HB5.out.mono HB4.out.size))
          repeat (first | go_skip | go_guarded | go_step)
          refine (WK.out _).mono ?_
          rintro e wz ⟨rfl, hbz⟩
          have HBZ := Lib.hid (HBZ.out.trans (hbz.mono HBZ.out.size))
          clear hbz
          dsimp only
          repeat (first | go_skip | go_guarded | go_step)
          go_ret
          exact ⟨rfl, HBZ.out⟩

theorem walk (ok : StratOk) (wk : TWorksOk) (A : Option Addr) (n c : Nat) (Q : List ClA) (C : List Cl) (w : World) (h : RdCs w w.heap.size A n Q C) (hnc : n ≤ c) (hb1 : fewB n 0 C [] = true) (hS : Slim C) (hn : n ≤ 60) :
    Calls Tryz.prog 4 #[.slice A n c] w fun e w' => e = .returned (.bool true) ∧ Below w.heap.size w w' := by
  by_cases h0 : (rightM C).2 = 0
  · by_cases hv : ∃ f, Valid (edL C) f
    · obtain ⟨f, hf⟩ := least_ex hv
      exact walkSome ok wk A n c Q C w h hnc hb1 hS hn f h0 hf
    · exact walkNone ok wk A n c Q C w h hnc hb1 hS hn h0 hv
  · exact walkWrong ok wk A n c Q C w h hnc hb1 hS hn h0

theorem walkAll (ok : StratOk) (wk : TWorksOk) (A : Option Addr) (n c : Nat) (Q : List ClA) (C : List Cl) (w : World) (h : RdCs w w.heap.size A n Q C) (hnc : n ≤ c) (hcap : ∀ q ∈ Q, q.1.2.1 ≤ q.1.2.2 ∧ q.2.1.2.1 ≤ q.2.1.2.2) :
    Calls Tryz.prog 4 #[.slice A n c] w fun e w' => e = .returned (.bool true) ∧ Below w.heap.size w w' := by
  cases hb1 : fewB n 0 C [] with
  | false => exact walkFew wk A n c Q C w h (.inl hb1)
  | true =>
    by_cases h4 : 60 < n
    · exact walkFew wk A n c Q C w h (.inr h4)
    · have hs : Slim C := by
        unfold fewB at hb1
        simp only [Bool.and_eq_true] at hb1
        exact few_slim hb1.2.1
      exact walk ok wk A n c Q C w h hnc hb1 hs (by omega)

set_option maxRecDepth 100000 in
theorem lifted (ok : StratOk) (wk : TWorksOk) (os : Os) (started : os.Started) (H : Type) (enc : TypeId × Value → H) :
    ReturnsInHanded {} Tryz.checked os 4 .any (Rows.stratLeastSpec.pre6 enc Tryz.prog Tryz.f4 Rows.stratLeastRow.domain false) (Rows.stratLeastSpec.post enc Tryz.prog Tryz.f4 false true false false) := by
  refine returnsInHanded_of_change_sized (C := Tryz.checked) ownKA started (by kernel_rfl) Tryz.func4
    (ChangeSpec.witness6 (enc := enc) (C := Tryz.checked) false ⟨#[], #[.slice none 0 0], []⟩ 8 (by kernel_rfl) (by kernel_rfl) (by kernel_rfl) (by kernel_rfl)) ?_
  intro W base args ds gs before hval0 hW hcnd hsz0 _
  have hval : ∀ (j : Nat) t v, Tryz.f4.params[j]? = some t → args[j]? = some v → Value.okWide Tryz.prog W .any base t v := hval0
  have hlt : ∀ x ∈ before, x.block < W.heap.size := fun x hx => by simpa using hW.lt x hx
  have hW' := hW
  obtain ⟨p, q, hA0, hV, rfl, hfz, hnd⟩ := hW
  have hA : DataW.TrodAll enc Tryz.prog W 0 (fun _ => true) true Tryz.f4.params.toList args.toList ds p := hA0
  rw [Tryz.params4] at hA hval
  obtain ⟨v0, vs0, d0, ds0, p0, q0, hargs, rfl, rfl, h0, r0⟩ := trodAll_cons hA
  obtain ⟨rfl, rfl, rfl⟩ := trodAll_nil r0
  obtain rfl : args = #[v0] := by cases args; simp_all
  obtain ⟨rfl, rfl⟩ := trodVars_none hV
  obtain ⟨A, n, c, Q, C, rfl, hk1, hm1, hr1, hcap⟩ := open_clauses2 (hval 0 22 v0 rfl rfl) h0 (fun x hx => hlt x (by simp [hx]))
  refine (walkAll ok wk A n c Q C W hr1 hk1 hcap).mono fun e W' ⟨he, hg⟩ => ?_
  subst he
  exact ⟨_, rfl, post_law laidOutA rfl (by kernel_rfl) hW' hg rfl Tryz.underlying4 rfl rfl rfl⟩

theorem proved_of (ok : StratOk) (wk : TWorksOk) : Rows.StratLeastSaid :=
  OpenClaim.holds_of_wide 4 Tryz.f4 rfl rfl rfl rfl rfl rfl rfl ⟨rfl, rfl, rfl, rfl, rfl⟩ rfl rfl rfl rfl rfl (by kernel_rfl) Tryz.func4 (by kernel_rfl)
    (of_decide_eq_true (by kernel_rfl)) (by unfold Func.isWrapper; first | (rw [if_pos (by decide +kernel)]; kernel_rfl) | (rw [if_neg (by decide +kernel)]; exact ⟨rfl, rfl⟩))
    (fun os started H enc _ => lifted ok wk os started H enc)
#print axioms proved_of
end Go.Proofs.YtfmghkplafploaaGreat.stratLeast

set_option linter.unusedVariables false
set_option linter.unusedSimpArgs false
namespace Go.Proofs.YtfmghkplafploaaGreat
open Go Go.RowKit

theorem told_both {C : List Cl} {e e' : Nat} {L : List Lv} {S : List (List Nat)} (h : LevTold C e L) (k : StrTold C e' S) : e = e' ∧ (e ≠ 0 → L = [] ∧ S = []) := by
  cases k with
  | bad k1 k2 =>
    obtain ⟨h1, h2⟩ := h.unique k1
    exact ⟨h1, fun _ => ⟨h2, rfl⟩⟩
  | good k1 k2 =>
    cases h with
    | wrong q => exact absurd k1 q
    | none _ q => exact absurd ⟨_, k2.valid⟩ q
    | some _ _ _ _ _ => exact ⟨rfl, fun q => absurd rfl q⟩
/-- Clauses of one's own, whose terms lie in what was handed in. -/
structure OutP (w : World) (base : Nat) (A : Option Addr) (c n : Nat) (Z : List ZC) : Prop where
  own : OwC w base A c n Z
  heads : ∀ z ∈ Z, RdT w base z.2.1.1 z.2.1.2.1 z.1.1.2
  lens : ∀ z ∈ Z, z.2.2.2.length = z.2.2.1.2.1 ∧ z.1.2.length = z.2.2.1.2.1
  tops : ∀ z ∈ Z, Rd w w.heap.size 3 z.2.2.1.1 z.2.2.1.2.1 ((z.1.2.zip z.2.2.2).flatMap liC)
  rows : ∀ z ∈ Z, ∀ (i : Nat) (r : SlA) (x : Li), z.2.2.2[i]? = some r → z.1.2[i]? = some x → RdT w base r.1 r.2.1 x.2.2
  apart : ∀ z ∈ Z, InS (fun b => b < w.heap.size ∧ ¬ A.map (·.block) = some b) z.2.2.1.1
section
variable {w w' : World} {base c n : Nat} {A : Option Addr} {Z : List ZC}
theorem OutP.nil (w : World) (base : Nat) : OutP w base none 0 0 [] := ⟨World.ownsRow_nil _ _ _ _, (fun z h => by cases h), (fun z h => by cases h), (fun z h => by cases h), (fun z h => by cases h), (fun z h => by cases h)⟩
theorem OutP.later (h : OutP w base A c n Z) (hb : Below w.heap.size w w') (hbase : base ≤ w.heap.size) : OutP w' base A c n Z :=
  ⟨h.own.later hb, fun z hz => (h.heads z hz).below (hb.mono hbase), h.lens, fun z hz => Rd.more (Rd.below (h.tops z hz) hb) hb.size, fun z hz i r x h1 h2 => (h.rows z hz i r x h1 h2).below (hb.mono hbase), fun z hz => (h.apart z hz).mono fun k hk => ⟨Nat.lt_of_lt_of_le hk.1 hb.size, hk.2⟩⟩
theorem OutP.rd (h : OutP w base A c n Z) (hbase : base ≤ w.heap.size) : RdCs w w.heap.size A n (Z.map (·.2)) (Z.map (·.1)) :=
  rdCs_of h.own.rd fun z hz => ⟨Rd.more (h.heads z hz) hbase, (h.lens z hz).1, (h.lens z hz).2, h.tops z hz, fun i r x h1 h2 => Rd.more (h.rows z hz i r x h1 h2) hbase⟩
end
/-- Literals of one's own, whose terms lie in what was handed in. -/
structure OutQ (w : World) (base B : Nat) (A : Option Addr) (c n : Nat) (X : List LX) : Prop where
  own : OwL w base A c n X
  rows : ∀ x ∈ X, RdT w B x.2.1 x.2.2.1 x.1.2.2
theorem OutQ.later {w w' : World} {base B c n : Nat} {A : Option Addr} {X : List LX} (h : OutQ w base B A c n X) (hb : Below w.heap.size w w') (hB : B ≤ w.heap.size) : OutQ w' base B A c n X :=
  ⟨h.own.later hb, fun x hx => (h.rows x hx).below (hb.mono hB)⟩
theorem OutQ.turn {w w' : World} {base B c n : Nat} {A : Option Addr} {X : List LX} (h : OutQ w base B A c n X) {g : Nat} (T : Turn (fun k => k = g) w w') (hg : g < base) (hB : B ≤ g) (hs : g < w.heap.size) : OutQ w' base B A c n X :=
  ⟨T.own h.own (fun k hk e => by have := (World.ownsRow.lt h.own k hk).1; omega), fun x hx => T.rd (h.rows x hx) (by omega) (fun k hk e => by omega)⟩
end Go.Proofs.YtfmghkplafploaaGreat

