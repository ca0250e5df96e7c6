/- Texts, packed: StL -/
import Derived.Test.YtfmghkplafploaaGreatPzJ
import Derived.Test.YtfmghkplafploaaGreatRows
set_option linter.unusedVariables false
set_option linter.unusedSimpArgs false
namespace Go.Proofs.YtfmghkplafploaaGreat.stratPlays
open Go Go.RowKit Go.ChangeShapes Go.WideShapes Go.ChangeAt

theorem few_one (A : Option Addr) (n c : Nat) (Q : List ClA) (C : List Cl) (w : World) (h : RdCs w w.heap.size A n Q C) :
    Calls Tryz.prog 6 #[.slice A n c, .slice none 0 0] w fun e w' => e = .returned (.bool (fewB n 0 C [])) ∧ w' = w :=
  few_any A n c Q C none 0 0 [] w h Rd.nil rfl
set_option maxRecDepth 100000 in
set_option maxHeartbeats 2000000 in
theorem walkFew (wk : TWorksOk) (A : Option Addr) (n c : Nat) (Q : List ClA) (C : List Cl) (w : World) (h : RdCs w w.heap.size A n Q C) (hf : fewB n 0 C [] = false ∨ 60 < n) :
    Calls Tryz.prog 3 #[.slice A n c] w fun e w' => e = .returned (.bool true) ∧ Below w.heap.size w w' := by
  have f1 := few_one A n c Q C w h
  have WK := Lib.hid wk
  clear h wk
  cases hb1 : fewB n 0 C [] with
  | false =>
    rw [hb1] at f1
    clear hb1 hf
    go_enter Tryz.func3, Tryz.ntmps3
    repeat (first | go_skip | go_guarded | go_step)
    refine f1.mono ?_
    rintro e w1 ⟨rfl, rfl⟩
    clear f1
    dsimp only
    repeat (first | go_skip | go_guarded | go_step)
    refine (WK.out _).mono ?_
    rintro e wz ⟨rfl, hbz⟩
    have HBZ := Lib.hid (hbz)
    clear hbz
    dsimp only
    repeat (first | go_skip | go_guarded | go_step)
    go_ret
    exact ⟨rfl, HBZ.out⟩
  | true =>
    rw [hb1] at f1 hf
    have hlt : (60 : Int) < (n : Int) := by
      rcases hf with hf | hf
      · cases hf
      · omega
    clear hb1 hf
    go_enter Tryz.func3, Tryz.ntmps3
    repeat (first | go_skip | go_guarded | go_step)
    refine f1.mono ?_
    rintro e w1 ⟨rfl, rfl⟩
    clear f1
    dsimp only
    repeat (first | go_skip | go_guarded | go_step)
    refine (WK.out _).mono ?_
    rintro e wz ⟨rfl, hbz⟩
    have HBZ := Lib.hid (hbz)
    clear hbz
    dsimp only
    repeat (first | go_skip | go_guarded | go_step)
    go_ret
    exact ⟨rfl, HBZ.out⟩
set_option maxRecDepth 100000 in
set_option maxHeartbeats 8000000 in
theorem walk (ok : StratOk) (wk : TWorksOk) (A : Option Addr) (n c : Nat) (Q : List ClA) (C : List Cl) (w : World) (h : RdCs w w.heap.size A n Q C) (hnc : n ≤ c) (hb1 : fewB n 0 C [] = true) (hS : Slim C) (hn : n ≤ 60) :
    Calls Tryz.prog 3 #[.slice A n c] w fun e w' => e = .returned (.bool true) ∧ Below w.heap.size w w' := by
  have f1 := few_one A n c Q C w h
  rw [hb1] at f1
  have HC := Lib.hid h
  have HS := Lib.hid hS
  have OK := Lib.hid ok
  have WK := Lib.hid wk
  have hgt : ¬ (60 : Int) < (n : Int) := by omega
  have HPB := Lib.hid (pr_bound hS (by rw [h.lenC]; omega))
  have hlenC := h.lenC
  have HLC := Lib.hid hlenC
  clear h hb1 hS ok wk hlenC
  go_enter Tryz.func3, Tryz.ntmps3
  repeat (first | go_skip | go_guarded | go_step)
  refine f1.mono ?_
  rintro e w1 ⟨rfl, rfl⟩
  clear f1
  dsimp only
  repeat (first | go_skip | go_guarded | go_step)
  refine (OK.out.levels A n c Q C w1 HC.out hnc HS.out (by omega)).mono ?_
  rintro e w2 ⟨er, A2, c2, L, rfl, ht2, hr2, hb2⟩
  have HR2 := Lib.hid hr2
  have HB2 := Lib.hid hb2
  have HT2 := Lib.hid ht2
  clear ht2 hr2 hb2
  dsimp only
  repeat (first | go_skip | go_guarded | go_step)
  refine (rLevels_any A n c Q C w2 ((HC.out.below HB2.out).more HB2.out.size) hnc HS.out (by omega)).mono ?_
  rintro e w3 ⟨er3, A3, c3, L3, rfl, ht3, ho3, hl3, hb3⟩
  obtain ⟨rfl, rfl⟩ := HT2.out.unique ht3
  have hlm := HT2.out.len
  have HR3 := Lib.hid ho3.rd
  have HB3 := Lib.hid (HB2.out.trans (hb3.mono HB2.out.size))
  have HR2 := Lib.hid (Rd.more (Rd.below HR2.out hb3) hb3.size)
  obtain ⟨m, hm⟩ : ∃ m, m = L.length := ⟨_, rfl⟩
  rw [← hm] at HR2 HR3 hlm ⊢
  have hmb : m ≤ 500000000000 := by have := HPB.out; omega
  clear ht3 ho3 hl3 hb3 hm hlm
  dsimp only
  repeat (first | go_skip | go_guarded | go_step)
  refine (OK.out.strata A n c Q C w3 ((HC.out.below HB3.out).more HB3.out.size) hnc HS.out (by omega)).mono ?_
  rintro e w4 ⟨es, A4, c4, S, R4, rfl, ht4, hr4, hb4⟩
  have HR4 := Lib.hid hr4
  have HB4 := Lib.hid (HB3.out.trans (hb4.mono HB3.out.size))
  have HR2 := Lib.hid (Rd.more (Rd.below HR2.out hb4) hb4.size)
  have HR3 := Lib.hid (Rd.more (Rd.below HR3.out hb4) hb4.size)
  have HT4 := Lib.hid ht4
  clear ht4 hr4 hb4
  dsimp only
  repeat (first | go_skip | go_guarded | go_step)
  refine (rStrata_any A n c Q C w4 ((HC.out.below HB4.out).more HB4.out.size) hnc HS.out (by omega)).mono ?_
  rintro e w5 ⟨es5, A5, c5, S5, R5, rfl, ht5, hr5, _, _, hb5⟩
  obtain ⟨rfl, rfl⟩ := HT4.out.unique ht5
  have hls := HT4.out.lens
  have HR4 := Lib.hid ((HR4.out.below hb5).more hb5.size)
  have HR5 := Lib.hid hr5
  have HB5 := Lib.hid (HB4.out.trans (hb5.mono HB4.out.size))
  have HR2 := Lib.hid (Rd.more (Rd.below HR2.out hb5) hb5.size)
  have HR3 := Lib.hid (Rd.more (Rd.below HR3.out hb5) hb5.size)
  obtain ⟨T, hT⟩ : ∃ T, T = S.length := ⟨_, rfl⟩
  rw [← hT] at HR4 HR5 hls ⊢
  have hTb : T ≤ 500000000000 := by have := HPB.out; omega
  have HLS := Lib.hid hls.2
  have hne1 : ((er : Int) != (er : Int)) = false := by simp
  have hne2 : ((es : Int) != (es : Int)) = false := by simp
  have hne3 : ((m : Int) != (m : Int)) = false := by simp
  have hne4 : ((T : Int) != (T : Int)) = false := by simp
  clear ht5 hr5 hb5 hT hls
  dsimp only
  repeat (first | go_skip | go_guarded | go_step)
  go_loopw [11] (fun q wr => ∃ i : Nat, i ≤ m ∧ q = .int .i64 (i : Int) ∧ Below w5.heap.size w5 wr) (fun q _ => m - (intOf q).toNat)
  case atStart => exact ⟨0, by omega, rfl, Below.refl _ _⟩
  case round =>
    rename World => wr
    obtain ⟨i, hi, rfl, hbr⟩ := hrel
    have HBR := Lib.hid hbr
    clear hbr
    by_cases hlt : i < m
    · have hii : (i : Int) < (m : Int) := by omega
      obtain ⟨b6, o6, x, hA6, hb6, hx6, hx0, hx1⟩ := rdV_at HR2.out hlt
      obtain ⟨b7, o7, y, hA7, hb7, hy7, hy0, hy1⟩ := rdV_at HR3.out hlt
      have hxy : y = x := by rw [hx6] at hy7; cases hy7; rfl
      subst hxy
      obtain ⟨px, vx⟩ := y
      dsimp only at hx0 hx1 hy0 hy1
      have q0 := fun q => ((belowDrewQ HBR.out q).cell (p := ⟨b6, o6 + i * 2, none⟩) hb6).trans hx0
      have q1 := fun q => ((belowDrewQ HBR.out q).cell (p := ⟨b6, o6 + i * 2 + 1, none⟩) hb6).trans hx1
      have q2 := fun q => ((belowDrewQ HBR.out q).cell (p := ⟨b7, o7 + i * 2, none⟩) hb7).trans hy0
      have q3 := fun q => ((belowDrewQ HBR.out q).cell (p := ⟨b7, o7 + i * 2 + 1, none⟩) hb7).trans hy1
      have heq := eqV px (vx : Int)
      subst hA6 hA7
      clear hx6 hx0 hx1 hy7 hy0 hy1 hb6 hb7
      go_upto_region 12 with (fail)
      go_quiet (fail)
      repeat (first | go_skip | go_guarded | go_step)
      have hb9 := belowDrewQ HBR.out nq
      go_roundw
      case rel => exact ⟨i + 1, by omega, by go_num, hb9⟩
      case measure => simp [intOf]; omega
    · obtain rfl : m = i := by omega
      have hii : ¬ (m : Int) < (m : Int) := by omega
      repeat (first | go_skip | go_guarded | go_step)
      go_loopw [12] (fun q w6 => ∃ i : Nat, i ≤ T ∧ q = .int .i64 (i : Int) ∧ Below w5.heap.size w5 w6) (fun q _ => T - (intOf q).toNat)
      case atStart => exact ⟨0, by omega, rfl, HBR.out⟩
      case round =>
        clear HBR hii
        rename World => w6
        obtain ⟨i, hi, rfl, hbr⟩ := hrel
        have HBR := Lib.hid hbr
        clear hbr
        by_cases hlt : i < T
        · have hii : (i : Int) < (T : Int) := by omega
          obtain ⟨b6, o6, A6, k6, c6, s, hA6, hb6, hs6, hk6, hc6, hr6⟩ := HR4.out.at_ hlt
          obtain ⟨b7, o7, A7, k7, c7, s7, hA7, hb7, hs7, hk7, hc7, hr7⟩ := HR5.out.at_ hlt
          have hss : s7 = s := by rw [hs6] at hs7; cases hs7; rfl
          subst hss
          rw [hk6] at hk7
          subst hk7
          have hkn : k6 ≤ n := by
            have := HLS.out s7 (List.mem_of_getElem? hs6)
            rw [HLC.out] at this
            omega
          have HD := Lib.hid (show ∀ V, Below w5.heap.size w5 V → V.cell? ⟨b6, o6 + i, none⟩ = some (.slice A6 k6 c6) ∧ V.cell? ⟨b7, o7 + i, none⟩ = some (.slice A7 k6 c7) from fun V hV => ⟨(hV.cell (p := ⟨b6, o6 + i, none⟩) hb6).trans hc6, (hV.cell (p := ⟨b7, o7 + i, none⟩) hb7).trans hc7⟩)
          have q0 := fun q => (HD.out (w6.drewN q) (belowDrewQ HBR.out q)).1
          have q1 := fun q => (HD.out (w6.drewN q) (belowDrewQ HBR.out q)).2
          have hnk : ((k6 : Int) != (k6 : Int)) = false := by simp
          have HR6 := Lib.hid hr6
          have HR7 := Lib.hid hr7
          subst hA6 hA7
          clear hs6 hs7 hk6 hc6 hc7 hr6 hr7 hb6 hb7
          go_upto_region 17 with (fail)
          go_quiet (fail)
          clear q0 q1
          repeat (first | go_skip | go_guarded | go_step)
          go_loopw [13] (fun q w7 => ∃ j : Nat, j ≤ k6 ∧ q = .int .i64 (j : Int) ∧ Below w5.heap.size w5 w7) (fun q _ => k6 - (intOf q).toNat)
          case atStart => exact ⟨0, by omega, rfl, belowDrewQ HBR.out nq⟩
          case round =>
            clear HBR
            rename World => w7
            obtain ⟨j, hj, rfl, hbr⟩ := hrel
            have HBR := Lib.hid hbr
            obtain ⟨z0, z1⟩ := HD.out w7 hbr
            clear hbr
            by_cases hltj : j < k6
            · have hji : (j : Int) < (k6 : Int) := by omega
              obtain ⟨b8, o8, v8, hA8, hb8, hv8, hc8⟩ := HR6.out.at1 hltj
              obtain ⟨b9, o9, v9, hA9, hb9, hv9, hc9⟩ := HR7.out.at1 hltj
              have hvv : v9 = v8 := by rw [hv8] at hv9; cases hv9; rfl
              subst hvv
              obtain ⟨z, hz⟩ : ∃ z : Nat, v9 = nj z := by
                rw [List.getElem?_map] at hv8
                cases hq : s7[j]? with
                | none => rw [hq] at hv8; cases hv8
                | some z => rw [hq] at hv8; cases hv8; exact ⟨z, rfl⟩
              subst hz
              have q0 := fun q => (HD.out (w7.drewN q) (belowDrewQ HBR.out q)).1
              have q1 := fun q => (HD.out (w7.drewN q) (belowDrewQ HBR.out q)).2
              have q2 := fun q => ((belowDrewQ HBR.out q).cell (p := ⟨b8, o8 + j, none⟩) hb8).trans hc8
              have q3 := fun q => ((belowDrewQ HBR.out q).cell (p := ⟨b9, o9 + j, none⟩) hb9).trans hc9
              have hnz : ((z : Int) != (z : Int)) = false := by simp
              subst hA8 hA9
              clear hv8 hv9 hc8 hc9 hb8 hb9
              go_upto_region 22 with (fail)
              clear z0 z1
              go_quiet (fail)
              repeat (first | go_skip | go_guarded | go_step)
              have hb9' := belowDrewQ HBR.out nq
              go_roundw
              case rel => exact ⟨j + 1, by omega, by go_num, hb9'⟩
              case measure => simp [intOf]; omega
            · obtain rfl : k6 = j := by omega
              have hji : ¬ (k6 : Int) < (k6 : Int) := by omega
              repeat (first | go_skip | go_guarded | go_step)
              go_roundw
              case rel => exact ⟨i + 1, by omega, by go_num, HBR.out⟩
              case measure => simp [intOf]; omega
        · obtain rfl : T = i := by omega
          have hii : ¬ (T : Int) < (T : Int) := by omega
          have HBW := Lib.hid (HB5.out.trans (HBR.out.mono HB5.out.size))
          repeat (first | go_skip | go_guarded | go_step)
          refine (WK.out _).mono ?_
          rintro e wz ⟨rfl, hbz⟩
          have HBZ := Lib.hid (HBW.out.trans (hbz.mono HBW.out.size))
          clear hbz
          dsimp only
          repeat (first | go_skip | go_guarded | go_step)
          go_ret
          exact ⟨rfl, HBZ.out⟩

theorem walkAll (ok : StratOk) (wk : TWorksOk) (A : Option Addr) (n c : Nat) (Q : List ClA) (C : List Cl) (w : World) (h : RdCs w w.heap.size A n Q C) (hnc : n ≤ c) (hcap : ∀ q ∈ Q, q.1.2.1 ≤ q.1.2.2 ∧ q.2.1.2.1 ≤ q.2.1.2.2) :
    Calls Tryz.prog 3 #[.slice A n c] w fun e w' => e = .returned (.bool true) ∧ Below w.heap.size w w' := by
  cases hb1 : fewB n 0 C [] with
  | false => exact walkFew wk A n c Q C w h (.inl hb1)
  | true =>
    by_cases h4 : 60 < n
    · exact walkFew wk A n c Q C w h (.inr h4)
    · have hs : Slim C := by
        unfold fewB at hb1
        simp only [Bool.and_eq_true] at hb1
        exact few_slim hb1.2.1
      exact walk ok wk A n c Q C w h hnc hb1 hs (by omega)

set_option maxRecDepth 100000 in
theorem lifted (ok : StratOk) (wk : TWorksOk) (os : Os) (started : os.Started) (H : Type) (enc : TypeId × Value → H) :
    ReturnsInHanded {} Tryz.checked os 3 .any (Rows.stratPlaysSpec.pre6 enc Tryz.prog Tryz.f3 Rows.stratPlaysRow.domain false) (Rows.stratPlaysSpec.post enc Tryz.prog Tryz.f3 false true false false) := by
  refine returnsInHanded_of_change_sized (C := Tryz.checked) ownKA started (by kernel_rfl) Tryz.func3
    (ChangeSpec.witness6 (enc := enc) (C := Tryz.checked) false ⟨#[], #[.slice none 0 0], []⟩ 8 (by kernel_rfl) (by kernel_rfl) (by kernel_rfl) (by kernel_rfl)) ?_
  intro W base args ds gs before hval0 hW hcnd hsz0 _
  have hval : ∀ (j : Nat) t v, Tryz.f3.params[j]? = some t → args[j]? = some v → Value.okWide Tryz.prog W .any base t v := hval0
  have hlt : ∀ x ∈ before, x.block < W.heap.size := fun x hx => by simpa using hW.lt x hx
  have hW' := hW
  obtain ⟨p, q, hA0, hV, rfl, hfz, hnd⟩ := hW
  have hA : DataW.TrodAll enc Tryz.prog W 0 (fun _ => true) true Tryz.f3.params.toList args.toList ds p := hA0
  rw [Tryz.params3] at hA hval
  obtain ⟨v0, vs0, d0, ds0, p0, q0, hargs, rfl, rfl, h0, r0⟩ := trodAll_cons hA
  obtain ⟨rfl, rfl, rfl⟩ := trodAll_nil r0
  obtain rfl : args = #[v0] := by cases args; simp_all
  obtain ⟨rfl, rfl⟩ := trodVars_none hV
  obtain ⟨A, n, c, Q, C, rfl, hk1, hm1, hr1, hcap⟩ := open_clauses2 (hval 0 22 v0 rfl rfl) h0 (fun x hx => hlt x (by simp [hx]))
  refine (walkAll ok wk A n c Q C W hr1 hk1 hcap).mono fun e W' ⟨he, hg⟩ => ?_
  subst he
  exact ⟨_, rfl, post_law laidOutA rfl (by kernel_rfl) hW' hg rfl Tryz.underlying4 rfl rfl rfl⟩

theorem proved_of (ok : StratOk) (wk : TWorksOk) : Rows.StratPlaysSaid :=
  OpenClaim.holds_of_wide 3 Tryz.f3 rfl rfl rfl rfl rfl rfl rfl ⟨rfl, rfl, rfl, rfl, rfl⟩ rfl rfl rfl rfl rfl (by kernel_rfl) Tryz.func3 (by kernel_rfl)
    (of_decide_eq_true (by kernel_rfl)) (by unfold Func.isWrapper; first | (rw [if_pos (by decide +kernel)]; kernel_rfl) | (rw [if_neg (by decide +kernel)]; exact ⟨rfl, rfl⟩))
    (fun os started H enc _ => lifted ok wk os started H enc)
#print axioms proved_of
end Go.Proofs.YtfmghkplafploaaGreat.stratPlays

