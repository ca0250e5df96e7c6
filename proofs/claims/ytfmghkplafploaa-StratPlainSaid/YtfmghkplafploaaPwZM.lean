/- Texts, packed: StP -/
import Derived.Test.YtfmghkplafploaaPwZL
import Derived.Test.YtfmghkplafploaaRows
set_option linter.unusedVariables false
set_option linter.unusedSimpArgs false
namespace Go.Proofs.Ytfmghkplafploaa.stratPlain
open Go Go.RowKit Go.ChangeShapes Go.WideShapes Go.ChangeAt

theorem few_one (A : Option Addr) (n c : Nat) (Q : List ClA) (C : List Cl) (w : World) (h : RdCs w w.heap.size A n Q C) :
    Calls Try.prog 4 #[.slice A n c, .slice none 0 0] w fun e w' => e = .returned (.bool (fewB n 0 C [])) ∧ w' = w :=
  few_any A n c Q C none 0 0 [] w h Rd.nil rfl
set_option maxRecDepth 100000 in
set_option maxHeartbeats 2000000 in
theorem walkFew (wk : TWorksOk) (A : Option Addr) (n c : Nat) (Q : List ClA) (C : List Cl) (w : World) (h : RdCs w w.heap.size A n Q C) (hf : fewB n 0 C [] = false ∨ 20 < n) :
    Calls Try.prog 3 #[.slice A n c] w fun e w' => e = .returned (.bool true) ∧ Below w.heap.size w w' := by
  have f1 := few_one A n c Q C w h
  have WK := Lib.hid wk
  clear h wk
  cases hb1 : fewB n 0 C [] with
  | false =>
    rw [hb1] at f1
    clear hb1 hf
    go_enter Try.func3, Try.ntmps3
    repeat (first | go_skip | go_guarded | go_step)
    refine f1.mono ?_
    rintro e w1 ⟨rfl, rfl⟩
    clear f1
    dsimp only
    repeat (first | go_skip | go_guarded | go_step)
    refine (WK.out _).mono ?_
    rintro e wz ⟨rfl, hbz⟩
    have HBZ := Lib.hid (hbz)
    clear hbz
    dsimp only
    repeat (first | go_skip | go_guarded | go_step)
    go_ret
    exact ⟨rfl, HBZ.out⟩
  | true =>
    rw [hb1] at f1 hf
    have hlt : (20 : Int) < (n : Int) := by
      rcases hf with hf | hf
      · cases hf
      · omega
    clear hb1 hf
    go_enter Try.func3, Try.ntmps3
    repeat (first | go_skip | go_guarded | go_step)
    refine f1.mono ?_
    rintro e w1 ⟨rfl, rfl⟩
    clear f1
    dsimp only
    repeat (first | go_skip | go_guarded | go_step)
    refine (WK.out _).mono ?_
    rintro e wz ⟨rfl, hbz⟩
    have HBZ := Lib.hid (hbz)
    clear hbz
    dsimp only
    repeat (first | go_skip | go_guarded | go_step)
    go_ret
    exact ⟨rfl, HBZ.out⟩
set_option maxRecDepth 100000 in
set_option maxHeartbeats 16000000 in
theorem walk (ok : StratOk) (wk : TWorksOk) (A : Option Addr) (n c : Nat) (Q : List ClA) (C : List Cl) (w : World) (h : RdCs w w.heap.size A n Q C) (hnc : n ≤ c) (hb1 : fewB n 0 C [] = true) (hS : Slim C) (hn : n ≤ 20) :
    Calls Try.prog 3 #[.slice A n c] w fun e w' => e = .returned (.bool true) ∧ Below w.heap.size w w' := by
  have f1 := few_one A n c Q C w h
  rw [hb1] at f1
  have HC := Lib.hid h
  have HS := Lib.hid hS
  have OK := Lib.hid ok
  have WK := Lib.hid wk
  have hgt : ¬ (20 : Int) < (n : Int) := by omega
  clear h hb1 hS ok wk
  go_enter Try.func3, Try.ntmps3
  repeat (first | go_skip | go_guarded | go_step)
  refine f1.mono ?_
  rintro e w1 ⟨rfl, rfl⟩
  clear f1
  dsimp only
  repeat (first | go_skip | go_guarded | go_step)
  go_loopw [3, 4] (fun kv q wr => ∃ (i : Nat) (Ak : Option Addr) (ck : Nat) (Z : List ZC), i ≤ n ∧ kv = .slice Ak i ck ∧ q = .int .i64 (i : Int) ∧ OutP wr w1.heap.size Ak ck i Z ∧ Z.map (·.1) = (C.take i).map plainC ∧ Below w1.heap.size w1 wr) (fun _ q _ => n - (intOf q).toNat)
  case atStart => exact ⟨0, none, 0, [], by omega, rfl, rfl, OutP.nil _ _, rfl, Below.refl _ _⟩
  case round =>
    rename World => wr
    obtain ⟨i, Ak, ck, Z, hi, rfl, rfl, hoz, hzc, hbr⟩ := hrel
    have HOZ := Lib.hid hoz
    have HZC := Lib.hid hzc
    have HBR := Lib.hid hbr
    clear hoz hzc hbr
    by_cases hlt : i < n
    · have hii : (i : Int) < (n : Int) := by omega
      obtain ⟨b, o, p, l, Lb, A0, n0, c0, A1, n1, c1, Rr, hA, hb, hx, hq, hd0, hd1, hd2, hrt, hrl⟩ := HC.out.at_ hlt
      obtain ⟨hs1, hs2, hs3⟩ := HS.out _ (List.mem_of_getElem? hx)
      dsimp only at hs1 hs2 hs3
      have hn1 : n1 ≤ 1000000 := by have := hrl.lenL; omega
      have HD := Lib.hid (show ∀ V, Below w1.heap.size w1 V → V.cell? ⟨b, o + i * 3, none⟩ = some (nv p) ∧ V.cell? ⟨b, o + i * 3 + 1, none⟩ = some (.slice A0 n0 c0) ∧ V.cell? ⟨b, o + i * 3 + 2, none⟩ = some (.slice A1 n1 c1) from fun V hV => ⟨(hV.cell (p := ⟨b, o + i * 3, none⟩) hb).trans hd0, (hV.cell (p := ⟨b, o + i * 3 + 1, none⟩) hb).trans hd1, (hV.cell (p := ⟨b, o + i * 3 + 2, none⟩) hb).trans hd2⟩)
      have HX := Lib.hid hx
      have HRL := Lib.hid hrl
      have HRT := Lib.hid hrt
      obtain ⟨e0, e1, e2⟩ := HD.out wr HBR.out
      subst hA
      clear hx hq hrt hrl hs1 hs2 hs3 hb hd0 hd1 hd2
      go_upto_region 8 with (fail)
      obtain ⟨wc, hwc, hbc, hbwc⟩ : ∃ W, W = wr.alloc (.cells #[nv p, .slice A0 n0 c0, .slice none 0 0] 31) ∧ Bk W wr.heap.size 31 [nv p, .slice A0 n0 c0, .slice none 0 0] ∧ Below wr.heap.size wr W := box3 wr p (.slice A0 n0 c0) (.slice none 0 0) 31
      rw [← hwc]
      obtain ⟨gc, hgc⟩ : ∃ gc, gc = wr.heap.size := ⟨_, rfl⟩
      have hszc : wc.heap.size = gc + 1 := by rw [hwc, hgc]; simp
      rw [← hgc] at hbc ⊢
      have HWRC := Lib.hid hbwc
      have HGC := Lib.hid hgc
      have HSZC := Lib.hid hszc
      have HBC := Lib.hid hbc
      have HGW := Lib.hid (show w1.heap.size ≤ gc by rw [hgc]; exact HBR.out.size)
      clear hwc hbc hbwc hgc hszc e0 e1 e2
      repeat (first | go_skip | go_guarded | go_step)
      go_loopw [6] (fun q w4 => ∃ (j m : Nat) (Ab : Option Addr) (cb : Nat) (X : List LX), j ≤ n1 ∧ m ≤ j ∧ q = .int .i64 (j : Int) ∧ Bk w4 gc 31 [nv p, .slice A0 n0 c0, .slice Ab m cb] ∧ OutQ w4 wc.heap.size w1.heap.size Ab cb m X ∧ X.map (·.1) = (Lb.take j).filter (fun y => !y.1) ∧ Below gc wc w4 ∧ wc.heap.size ≤ w4.heap.size) (fun q _ => n1 - (intOf q).toNat)
      case atStart => exact ⟨0, 0, none, 0, [], by omega, by omega, rfl, HBC.out, ⟨OwL.nil _ _, (fun x h => by cases h)⟩, rfl, Below.refl _ _, Nat.le_refl _⟩
      case round =>
        rename World => w4
        obtain ⟨j, m, Ab, cb, X, hj, hmj, rfl, hbk, hol, hxl, hb4, hs4⟩ := hrel
        have HBK := Lib.hid hbk
        have HOL := Lib.hid hol
        have HXL := Lib.hid hxl
        have HB4 := Lib.hid hb4
        have HS4 := Lib.hid hs4
        have hBW4 : Below w1.heap.size w1 w4 := (HBR.out.trans (HWRC.out.mono HBR.out.size)).trans (hb4.mono HGW.out)
        have HBW4 := Lib.hid hBW4
        obtain ⟨e0, e1, e2⟩ := HD.out w4 hBW4
        clear hbk hol hxl hb4 hs4 hBW4
        by_cases hltj : j < n1
        · have hji : (j : Int) < (n1 : Int) := by omega
          obtain ⟨b3, o3, g3, p3, l3, Ai, ni_, ci, hA1, hb3, hx3, hr3, he0, he1, he2, hrow3⟩ := HRL.out.at2 hltj
          have f0 := (HBW4.out.cell (p := ⟨b3, o3 + j * 3, none⟩) hb3).trans he0
          have HX3 := Lib.hid hx3
          cases g3 with
          | true =>
            subst hA1
            clear hx3 hr3 he0 he1 he2 hrow3 hb3
            repeat (first | go_skip | go_guarded | go_step)
            go_roundw
            case rel => exact ⟨j + 1, m, Ab, cb, X, by omega, by omega, by go_num, HBK.out, HOL.out, by
              rw [List.take_add_one, HX3.out, List.filter_append, HXL.out]
              simp, HB4.out, HS4.out⟩
            case measure => simp [intOf]; omega
          | false =>
            have HAB := Lib.hid (show ∀ k, Ab.map (·.block) = some k → gc < k ∧ k < w4.heap.size from fun k hk => by have h1 := HOL.out.own.low k hk; have h2 := HSZC.out; exact ⟨by omega, h1.2⟩)
            have HNG := Lib.hid (show ∀ k, k < w1.heap.size → ¬ (Ab.map (·.block) = some k ∨ k = gc) from fun k hk e => by
              have h1 := HGW.out
              rcases e with e | e
              · have := (HAB.out k e).1; omega
              · omega)
            have h1s : w1.heap.size ≤ w4.heap.size := HBW4.out.size
            have HT := Lib.hid (show ∀ V, Turn (fun k => Ab.map (·.block) = some k ∨ k = gc) w4 V → V.cell? ⟨b, o + i * 3 + 2, none⟩ = some (.slice A1 n1 c1) ∧ V.cell? ⟨b3, o3 + j * 3, none⟩ = some (.bool false) ∧ V.cell? ⟨b3, o3 + j * 3 + 1, none⟩ = some (nv p3) ∧ V.cell? ⟨b3, o3 + j * 3 + 2, none⟩ = some (.slice Ai ni_ ci) from fun V hV => by
              have hB : Below w1.heap.size w1 V := HBW4.out.trans (hV.below (B := w1.heap.size) (fun k _ e => by
                rcases Nat.lt_or_ge k w1.heap.size with q | q
                · exact absurd e (HNG.out k q)
                · exact q) h1s)
              exact ⟨(HD.out V hB).2.2, (hB.cell (p := ⟨b3, o3 + j * 3, none⟩) hb3).trans he0, (hB.cell (p := ⟨b3, o3 + j * 3 + 1, none⟩) hb3).trans he1, (hB.cell (p := ⟨b3, o3 + j * 3 + 2, none⟩) hb3).trans he2⟩)
            have HROW := Lib.hid hrow3
            subst hA1
            go_upto_region 12 with (fail)
            clear hx3 hr3 he0 he1 he2 hrow3 hb3 f0 e0 e1 e2
            refine wp_region_held_drew (S := fun V => Turn (fun k => Ab.map (·.block) = some k ∨ k = gc) w4 V) (by kernel_rfl) ?_ (fun hHeld => ?_)
            · exact (Turn.refl _ w4).drew
            refine wpAnyH_take (i := 0) (oi := ?oid1) (v := ?vd1) ?hod1 (by kernel_rfl) ?hfd1 ?hrd1 ?hQd1 ?hyd1 hHeld ?restd1
            case hod1 => (simp only [List.getElem?_toArray, List.getElem?_cons_succ, List.getElem?_cons_zero]; exact rfl)
            case hfd1 => kernel_rfl
            case hrd1 => kernel_rfl
            case hQd1 => exact fun _ _ _ h => h
            case hyd1 =>
              refine Or.inl ⟨by rfl, ?_⟩
              intro V hSV
              go_simp
              (try with_reducible rfl)
            try simp only [Act.put, List.setIfInBounds_toArray, List.set_cons_zero, List.set_cons_succ]
            refine wpAnyH_take (i := 2) (oi := ?oid2) (v := ?vd2) ?hod2 (by kernel_rfl) ?hfd2 ?hrd2 ?hQd2 ?hyd2 hHeld ?restd2
            case hod2 => (simp only [List.getElem?_toArray, List.getElem?_cons_succ, List.getElem?_cons_zero]; exact rfl)
            case hfd2 => kernel_rfl
            case hrd2 => kernel_rfl
            case hQd2 => exact fun _ _ _ h => h
            case hyd2 =>
              refine Or.inl ⟨by rfl, ?_⟩
              intro V hSV
              go_simp
              (try with_reducible rfl)
            try simp only [Act.put, List.setIfInBounds_toArray, List.set_cons_zero, List.set_cons_succ]
            refine wpAnyH_take (i := 3) (oi := ?oid3) (v := ?vd3) ?hod3 (by kernel_rfl) ?hfd3 ?hrd3 ?hQd3 ?hyd3 hHeld ?restd3
            case hod3 => (simp only [List.getElem?_toArray, List.getElem?_cons_succ, List.getElem?_cons_zero]; exact rfl)
            case hfd3 => kernel_rfl
            case hrd3 => kernel_rfl
            case hQd3 => exact fun _ _ _ h => h
            case hyd3 =>
              refine Or.inl ⟨by rfl, ?_⟩
              intro V hSV
              go_simp
              (try with_reducible rfl)
            try simp only [Act.put, List.setIfInBounds_toArray, List.set_cons_zero, List.set_cons_succ]
            refine wpAnyH_take (i := 4) (oi := ?oid4) (v := ?vd4) ?hod4 (by kernel_rfl) ?hfd4 ?hrd4 ?hQd4 ?hyd4 hHeld ?restd4
            case hod4 => (simp only [List.getElem?_toArray, List.getElem?_cons_succ, List.getElem?_cons_zero]; exact rfl)
            case hfd4 => kernel_rfl
            case hrd4 => kernel_rfl
            case hQd4 => exact fun _ _ _ h => h
            case hyd4 =>
              refine Or.inl ⟨by rfl, ?_⟩
              intro V hSV
              go_simp
              (try with_reducible rfl)
            try simp only [Act.put, List.setIfInBounds_toArray, List.set_cons_zero, List.set_cons_succ]
            refine wpAnyH_take (i := 5) (oi := ?oid5) (v := ?vd5) ?hod5 (by kernel_rfl) ?hfd5 ?hrd5 ?hQd5 ?hyd5 hHeld ?restd5
            case hod5 => (simp only [List.getElem?_toArray, List.getElem?_cons_succ, List.getElem?_cons_zero]; exact rfl)
            case hfd5 => kernel_rfl
            case hrd5 => kernel_rfl
            case hQd5 => exact fun _ _ _ h => h
            case hyd5 =>
              refine Or.inl ⟨by rfl, ?_⟩
              intro V hSV
              go_simp
              (try with_reducible rfl)
            try simp only [Act.put, List.setIfInBounds_toArray, List.set_cons_zero, List.set_cons_succ]
            refine wpAnyH_take (i := 6) (oi := ?oid6) (v := ?vd6) ?hod6 (by kernel_rfl) ?hfd6 ?hrd6 ?hQd6 ?hyd6 hHeld ?restd6
            case hod6 => (simp only [List.getElem?_toArray, List.getElem?_cons_succ, List.getElem?_cons_zero]; exact rfl)
            case hfd6 => kernel_rfl
            case hrd6 => kernel_rfl
            case hQd6 => exact fun _ _ _ h => h
            case hyd6 =>
              refine Or.inl ⟨by rfl, ?_⟩
              intro V hSV
              obtain ⟨e0, e1, e2, e3⟩ := HT.out V hSV
              go_simp
              (try with_reducible rfl)
            try simp only [Act.put, List.setIfInBounds_toArray, List.set_cons_zero, List.set_cons_succ]
            refine wpAnyH_take (i := 7) (oi := ?oid7) (v := ?vd7) ?hod7 (by kernel_rfl) ?hfd7 ?hrd7 ?hQd7 ?hyd7 hHeld ?restd7
            case hod7 => (simp only [List.getElem?_toArray, List.getElem?_cons_succ, List.getElem?_cons_zero]; exact rfl)
            case hfd7 => kernel_rfl
            case hrd7 => kernel_rfl
            case hQd7 => exact fun _ _ _ h => h
            case hyd7 =>
              refine Or.inl ⟨by rfl, ?_⟩
              intro V hSV
              go_simp
              (try with_reducible rfl)
            try simp only [Act.put, List.setIfInBounds_toArray, List.set_cons_zero, List.set_cons_succ]
            refine wpAnyH_take (i := 8) (oi := ?oid8) (v := ?vd8) ?hod8 (by kernel_rfl) ?hfd8 ?hrd8 ?hQd8 ?hyd8 hHeld ?restd8
            case hod8 => (simp only [List.getElem?_toArray, List.getElem?_cons_succ, List.getElem?_cons_zero]; exact rfl)
            case hfd8 => kernel_rfl
            case hrd8 => kernel_rfl
            case hQd8 => exact fun _ _ _ h => h
            case hyd8 =>
              refine Or.inl ⟨by rfl, ?_⟩
              intro V hSV
              go_simp
              (try with_reducible rfl)
            try simp only [Act.put, List.setIfInBounds_toArray, List.set_cons_zero, List.set_cons_succ]
            refine wpAnyH_take (i := 9) (oi := ?oid9) (v := ?vd9) ?hod9 (by kernel_rfl) ?hfd9 ?hrd9 ?hQd9 ?hyd9 hHeld ?restd9
            case hod9 => (simp only [List.getElem?_toArray, List.getElem?_cons_succ, List.getElem?_cons_zero]; exact rfl)
            case hfd9 => kernel_rfl
            case hrd9 => kernel_rfl
            case hQd9 => exact fun _ _ _ h => h
            case hyd9 =>
              refine Or.inl ⟨by rfl, ?_⟩
              intro V hSV
              obtain ⟨e0, e1, e2, e3⟩ := HT.out V hSV
              go_simp
              (try with_reducible rfl)
            try simp only [Act.put, List.setIfInBounds_toArray, List.set_cons_zero, List.set_cons_succ]
            refine wpAnyH_ready (rs := [1, 10]) (by kernel_rfl) (by simp) ?_
            refine AllReadyH.cons (o := ?od10) ?hod10 (fun K hK => ?kd10) ?md10
            case hod10 => (simp only [List.getElem?_toArray, List.getElem?_cons_succ, List.getElem?_cons_zero]; exact rfl)
            case kd10 =>
              have hfs : Below w4.heap.size w4 (World.drew w4) := belowDrews (Below.refl _ w4) 1
              refine anyd_ldL (by rfl) (.tmp 54) rfl gc 2 _ (by rfl) (HBK.out.read hfs 2 rfl) ?_
              refine hK.out _ _ ?_ (fun hHeld => ?_)
              · exact hHeld
              clear hK K
              try simp only [Act.put, List.setIfInBounds_toArray, List.set_cons_zero, List.set_cons_succ]
              refine wpAnyH_ready (rs := [10]) (by kernel_rfl) (by simp) ?_
              refine AllReadyH.cons (o := ?od11) ?hod11 (fun K hK => ?kd11) ?md11
              case hod11 => (simp only [List.getElem?_toArray, List.getElem?_cons_succ, List.getElem?_cons_zero]; exact rfl)
              case kd11 =>
                refine anyd_litL (by rfl) (.tmp 63) rfl false p3 Ai ni_ ci (by rfl) l3 ?_
                intro Vd11 qd11 hld11 hvd11
                have hfd11 : Below w4.heap.size w4 Vd11 := hfs.trans (hvd11.mono hfs.size)
                (try dsimp only)
                refine hK.out _ _ ?_ (fun hHeld => ?_)
                · exact Turn.trans hHeld (Turn.ofBelow hvd11)
                clear hK K
                try simp only [Act.put, List.setIfInBounds_toArray, List.set_cons_zero, List.set_cons_succ]
                refine wpAnyH_ready (rs := [11]) (by kernel_rfl) (by simp) ?_
                refine AllReadyH.cons (o := ?od12) ?hod12 (fun K hK => ?kd12) ?md12
                case hod12 => (simp only [List.getElem?_toArray, List.getElem?_cons_succ, List.getElem?_cons_zero]; exact rfl)
                case kd12 =>
                  refine anyd_appQ (by rfl) (.tmp 55) (.tmp 64) rfl wc.heap.size w1.heap.size Ab cb m X (by rfl) (HOL.out.later hfd11 HBW4.out.size) (by have := HSZC.out; have := HGW.out; omega) _ _ 1 (((false, p3, l3) : Li), ((Ai, ni_, ci) : SlA)) (by rfl) hld11 (by omega) (Nat.le_trans HS4.out hfd11.size) (by show RdT _ w1.heap.size Ai ni_ l3; exact Rd.below HROW.out (HBW4.out.trans (hfd11.mono HBW4.out.size))) ?_
                  intro Ad12 cd12 Vd12 hold12 htd12
                  have hTd12 : Turn (fun k => Ab.map (·.block) = some k) w4 Vd12 := (Turn.ofBelow hfd11).trans htd12
                  have hbkd12 : Bk Vd12 gc 31 [nv p, .slice A0 n0 c0, .slice Ab m cb] := hTd12.bk HBK.out (fun e => by have := (HAB.out gc e).1; omega)
                  (try dsimp only)
                  refine hK.out _ _ ?_ (fun hHeld => ?_)
                  · exact Turn.then_ hHeld htd12 (fun k _ e => .inl e)
                  clear hK K
                  try simp only [Act.put, List.setIfInBounds_toArray, List.set_cons_zero, List.set_cons_succ]
                  refine wpAnyH_take (i := 12) (oi := ?oid13) (v := ?vd13) ?hod13 (by kernel_rfl) ?hfd13 ?hrd13 ?hQd13 ?hyd13 hHeld ?restd13
                  case hod13 => (simp only [List.getElem?_toArray, List.getElem?_cons_succ, List.getElem?_cons_zero]; exact rfl)
                  case hfd13 => kernel_rfl
                  case hrd13 => kernel_rfl
                  case hQd13 => exact fun _ _ _ h => h
                  case hyd13 =>
                    refine Or.inl ⟨by rfl, ?_⟩
                    intro V hSV
                    go_simp
                    (try with_reducible rfl)
                  try simp only [Act.put, List.setIfInBounds_toArray, List.set_cons_zero, List.set_cons_succ]
                  refine wpAnyH_ready (rs := [13]) (by kernel_rfl) (by simp) ?_
                  refine AllReadyH.cons (o := ?od14) ?hod14 (fun K hK => ?kd14) ?md14
                  case hod14 => (simp only [List.getElem?_toArray, List.getElem?_cons_succ, List.getElem?_cons_zero]; exact rfl)
                  case kd14 =>
                    refine anyd_stL (by rfl) (.tmp 66) (.tmp 65) rfl gc 2 _ Ad12 (m + 1) cd12 (by rfl) (by rfl) (hbkd12.read (Below.refl _ _) 2 rfl) (hbkd12.frozen 2) ?_
                    refine hK.out _ _ ?_ (fun hHeld => ?_)
                    · exact Turn.setCell hHeld (fun _ => .inr rfl) _
                    clear hK K
                    try simp only [Act.put, List.setIfInBounds_toArray, List.set_cons_zero, List.set_cons_succ]
                    refine wpAnyH_done (by kernel_rfl) ?_ _
                    have hTg : Turn (fun k => k = gc) Vd12 (Vd12.setCell ⟨gc, 2, none⟩ (.slice Ad12 (m + 1) cd12)) := (Turn.refl (fun k => k = gc) Vd12).setCell (p := ⟨gc, 2, none⟩) (fun _ => rfl) _
                    have HBK6 := Lib.hid (hbkd12.set_ 2 (.slice Ad12 (m + 1) cd12))
                    have HOL6 := Lib.hid (hold12.turn hTg (by have := HSZC.out; omega) HGW.out hbkd12.lt)
                    have HB6 := Lib.hid (HB4.out.trans (Below.trans (hTd12.below (B := gc) (fun y _ e => Nat.le_of_lt (HAB.out y e).1) (by have := HSZC.out; have := HS4.out; omega)) (hTg.below (B := gc) (fun y _ e => Nat.le_of_eq e.symm) (by have := HSZC.out; have := HS4.out; have := hTd12.size; omega))))
                    have HS6 := Lib.hid (Nat.le_trans HS4.out (Nat.le_trans hTd12.size hTg.size))
                    clear hTg
                    repeat (first | go_skip | go_guarded | go_step)
                    go_roundw
                    case rel => exact ⟨j + 1, m + 1, Ad12, cd12, _, by omega, by omega, by go_num, HBK6.out, HOL6.out, by
                      rw [List.map_append, HXL.out, List.take_add_one, HX3.out, List.filter_append]
                      rfl, HB6.out, HS6.out⟩
                    case measure => simp [intOf]; omega
                  exact AllReadyH.nil
                exact AllReadyH.nil
              exact AllReadyH.nil
            refine AllReadyH.cons (o := ?od15) ?hod15 (fun K hK => ?kd15) ?md15
            case hod15 => (simp only [List.getElem?_toArray, List.getElem?_cons_succ, List.getElem?_cons_zero]; exact rfl)
            case kd15 =>
              have hfs : Below w4.heap.size w4 (World.drew w4) := belowDrews (Below.refl _ w4) 1
              refine anyd_litL (by rfl) (.tmp 63) rfl false p3 Ai ni_ ci (by rfl) l3 ?_
              intro Vd15 qd15 hld15 hvd15
              have hfd15 : Below w4.heap.size w4 Vd15 := hfs.trans (hvd15.mono hfs.size)
              (try dsimp only)
              refine hK.out _ _ ?_ (fun hHeld => ?_)
              · exact Turn.trans hHeld (Turn.ofBelow hvd15)
              clear hK K
              try simp only [Act.put, List.setIfInBounds_toArray, List.set_cons_zero, List.set_cons_succ]
              refine wpAnyH_ready (rs := [1]) (by kernel_rfl) (by simp) ?_
              refine AllReadyH.cons (o := ?od16) ?hod16 (fun K hK => ?kd16) ?md16
              case hod16 => (simp only [List.getElem?_toArray, List.getElem?_cons_succ, List.getElem?_cons_zero]; exact rfl)
              case kd16 =>
                refine anyd_ldL (by rfl) (.tmp 54) rfl gc 2 _ (by rfl) (HBK.out.read hfd15 2 rfl) ?_
                refine hK.out _ _ ?_ (fun hHeld => ?_)
                · exact hHeld
                clear hK K
                try simp only [Act.put, List.setIfInBounds_toArray, List.set_cons_zero, List.set_cons_succ]
                refine wpAnyH_ready (rs := [11]) (by kernel_rfl) (by simp) ?_
                refine AllReadyH.cons (o := ?od17) ?hod17 (fun K hK => ?kd17) ?md17
                case hod17 => (simp only [List.getElem?_toArray, List.getElem?_cons_succ, List.getElem?_cons_zero]; exact rfl)
                case kd17 =>
                  refine anyd_appQ (by rfl) (.tmp 55) (.tmp 64) rfl wc.heap.size w1.heap.size Ab cb m X (by rfl) (HOL.out.later hfd15 HBW4.out.size) (by have := HSZC.out; have := HGW.out; omega) _ _ 1 (((false, p3, l3) : Li), ((Ai, ni_, ci) : SlA)) (by rfl) hld15 (by omega) (Nat.le_trans HS4.out hfd15.size) (by show RdT _ w1.heap.size Ai ni_ l3; exact Rd.below HROW.out (HBW4.out.trans (hfd15.mono HBW4.out.size))) ?_
                  intro Ad17 cd17 Vd17 hold17 htd17
                  have hTd17 : Turn (fun k => Ab.map (·.block) = some k) w4 Vd17 := (Turn.ofBelow hfd15).trans htd17
                  have hbkd17 : Bk Vd17 gc 31 [nv p, .slice A0 n0 c0, .slice Ab m cb] := hTd17.bk HBK.out (fun e => by have := (HAB.out gc e).1; omega)
                  (try dsimp only)
                  refine hK.out _ _ ?_ (fun hHeld => ?_)
                  · exact Turn.then_ hHeld htd17 (fun k _ e => .inl e)
                  clear hK K
                  try simp only [Act.put, List.setIfInBounds_toArray, List.set_cons_zero, List.set_cons_succ]
                  refine wpAnyH_take (i := 12) (oi := ?oid18) (v := ?vd18) ?hod18 (by kernel_rfl) ?hfd18 ?hrd18 ?hQd18 ?hyd18 hHeld ?restd18
                  case hod18 => (simp only [List.getElem?_toArray, List.getElem?_cons_succ, List.getElem?_cons_zero]; exact rfl)
                  case hfd18 => kernel_rfl
                  case hrd18 => kernel_rfl
                  case hQd18 => exact fun _ _ _ h => h
                  case hyd18 =>
                    refine Or.inl ⟨by rfl, ?_⟩
                    intro V hSV
                    go_simp
                    (try with_reducible rfl)
                  try simp only [Act.put, List.setIfInBounds_toArray, List.set_cons_zero, List.set_cons_succ]
                  refine wpAnyH_ready (rs := [13]) (by kernel_rfl) (by simp) ?_
                  refine AllReadyH.cons (o := ?od19) ?hod19 (fun K hK => ?kd19) ?md19
                  case hod19 => (simp only [List.getElem?_toArray, List.getElem?_cons_succ, List.getElem?_cons_zero]; exact rfl)
                  case kd19 =>
                    refine anyd_stL (by rfl) (.tmp 66) (.tmp 65) rfl gc 2 _ Ad17 (m + 1) cd17 (by rfl) (by rfl) (hbkd17.read (Below.refl _ _) 2 rfl) (hbkd17.frozen 2) ?_
                    refine hK.out _ _ ?_ (fun hHeld => ?_)
                    · exact Turn.setCell hHeld (fun _ => .inr rfl) _
                    clear hK K
                    try simp only [Act.put, List.setIfInBounds_toArray, List.set_cons_zero, List.set_cons_succ]
                    refine wpAnyH_done (by kernel_rfl) ?_ _
                    have hTg : Turn (fun k => k = gc) Vd17 (Vd17.setCell ⟨gc, 2, none⟩ (.slice Ad17 (m + 1) cd17)) := (Turn.refl (fun k => k = gc) Vd17).setCell (p := ⟨gc, 2, none⟩) (fun _ => rfl) _
                    have HBK6 := Lib.hid (hbkd17.set_ 2 (.slice Ad17 (m + 1) cd17))
                    have HOL6 := Lib.hid (hold17.turn hTg (by have := HSZC.out; omega) HGW.out hbkd17.lt)
                    have HB6 := Lib.hid (HB4.out.trans (Below.trans (hTd17.below (B := gc) (fun y _ e => Nat.le_of_lt (HAB.out y e).1) (by have := HSZC.out; have := HS4.out; omega)) (hTg.below (B := gc) (fun y _ e => Nat.le_of_eq e.symm) (by have := HSZC.out; have := HS4.out; have := hTd17.size; omega))))
                    have HS6 := Lib.hid (Nat.le_trans HS4.out (Nat.le_trans hTd17.size hTg.size))
                    clear hTg
                    repeat (first | go_skip | go_guarded | go_step)
                    go_roundw
                    case rel => exact ⟨j + 1, m + 1, Ad17, cd17, _, by omega, by omega, by go_num, HBK6.out, HOL6.out, by
                      rw [List.map_append, HXL.out, List.take_add_one, HX3.out, List.filter_append]
                      rfl, HB6.out, HS6.out⟩
                    case measure => simp [intOf]; omega
                  exact AllReadyH.nil
                exact AllReadyH.nil
              exact AllReadyH.nil
            exact AllReadyH.nil
        · obtain rfl : n1 = j := by omega
          have hji : ¬ (n1 : Int) < (n1 : Int) := by omega
          have k0 := HBK.out.read (Below.refl _ _) 0 rfl
          have k1 := HBK.out.read (Below.refl _ _) 1 rfl
          have k2 := HBK.out.read (Below.refl _ _) 2 rfl
          have HXF := Lib.hid (show X.map (·.1) = Lb.filter (fun y => !y.1) by
            have h := HXL.out
            rwa [List.take_of_length_le (by rw [HRL.out.lenL]; exact Nat.le_refl _)] at h)
          obtain ⟨wz, hwz, hZ⟩ : ∃ wz, wz = w4.alloc (.cells #[nv p, .slice A0 n0 c0, .slice Ab m cb] 31) ∧ Below w4.heap.size w4 wz := ⟨_, rfl, (Below.refl _ _).alloc (Nat.le_refl _) _⟩
          have hlit := litC w4 p A0 n0 c0 Ab m cb l (Lb.filter fun y => !y.1) (X.map (·.2))
          rw [← hwz] at hlit
          have HLIT := Lib.hid hlit
          have hRZ : Below wr.heap.size wr wz := HWRC.out.trans ((HB4.out.trans (hZ.mono (by have := HSZC.out; have := HS4.out; omega))).mono (Nat.le_of_eq HGC.out.symm))
          have HOZZ := Lib.hid (HOZ.out.later hRZ HBR.out.size)
          have HOLZ := Lib.hid (HOL.out.later hZ HBW4.out.size)
          have HBRZ := Lib.hid (HBR.out.trans (hRZ.mono HBR.out.size))
          have HWZ := Lib.hid hwz
          have HZ4 := Lib.hid hZ.size
          clear hZ hRZ hlit hwz
          repeat (first
            | (at_builtin
               rw [← HWZ.out]
               refine appC _ rfl (.tmp 67) (.tmp 69) rfl w1.heap.size Ak ck i Z rfl HOZZ.out.own _ _ 1 1 _ rfl HLIT.out (by omega) HBRZ.out.size ?_
               intro A5 c5 w5 ho5 ht5 hg5
               have hlx : X.length = m := HOL.out.own.len
               have hfl : (Lb.filter fun y => !y.1).length = m := by rw [← HXF.out, List.length_map]; exact hlx
               have hrdl := rdL_of HOLZ.out.own.rd (fun x hx => Rd.more (HOLZ.out.rows x hx) HBRZ.out.size)
               rw [HXF.out] at hrdl
               have HO5 := Lib.hid (HOZZ.out.app HBRZ.out.size (z := ((((p, l), Lb.filter fun y => !y.1) : Cl), (((A0, n0, c0), (Ab, m, cb), X.map (·.2)) : ClA)))
                 (by show RdT wz w1.heap.size A0 n0 l; exact Rd.below HRT.out HBRZ.out) ⟨by show (X.map (·.2)).length = m; rw [List.length_map]; exact hlx, hfl⟩ hrdl.top
                 (fun i r x h1 h2 => by
                   dsimp only at h1 h2
                   rw [← HXF.out] at h2
                   rw [List.getElem?_map] at h1 h2
                   cases hq : X[i]? with
                   | none => rw [hq] at h1; cases h1
                   | some y =>
                     rw [hq] at h1 h2
                     cases h1
                     cases h2
                     exact HOLZ.out.rows y (List.mem_of_getElem? hq))
                 (fun x hx => by
                   have h1 := HOL.out.own.low x hx
                   have h2 := HZ4.out
                   refine ⟨by omega, fun e => ?_⟩
                   have h3 := (HOZ.out.own.low e).2
                   have h4 := HSZC.out
                   have h5 := HGC.out
                   omega) ho5 ht5 hg5)
               have HB5 := Lib.hid (HBRZ.out.trans (ht5.below (B := w1.heap.size) (fun y _ e => (HOZZ.out.own.low e).1) HBRZ.out.size))
               clear ho5 ht5 hg5 k0 k1 k2 hlx hfl hrdl e0 e1 e2)
            | go_skip | go_guarded | go_step)
          go_roundw
          case rel => exact ⟨i + 1, A5, c5, _, by omega, rfl, by go_num, HO5.out, by
            rw [List.map_append, HZC.out, List.take_add_one, HX.out, List.map_append]
            rfl, HB5.out⟩
          case measure => simp [intOf]; omega
    · obtain rfl : n = i := by omega
      have hii : ¬ (n : Int) < (n : Int) := by omega
      have HZF := Lib.hid (show Z.map (·.1) = C.map plainC by
        have h := HZC.out
        rwa [List.take_of_length_le (by rw [HC.out.lenC]; exact Nat.le_refl _)] at h)
      have HSP := Lib.hid (slim_plain HS.out)
      have HLP := Lib.hid (show (C.map plainC).length = n by rw [List.length_map, HC.out.lenC])
      have hc1 := OK.out.levels Ak n ck _ _ wr (HOZ.out.rd HBR.out.size) HOZ.out.own.le (by rw [HZF.out]; exact HSP.out) (by omega)
      rw [HZF.out] at hc1
      repeat (first | go_skip | go_guarded | go_step)
      refine hc1.mono ?_
      rintro e w2 ⟨er, A2, c2, Lv_, rfl, ht2, hr2, hb2⟩
      have HR2 := Lib.hid hr2
      have HB2 := Lib.hid (HBR.out.trans (hb2.mono HBR.out.size))
      have HOZ2 := Lib.hid (HOZ.out.later hb2 HBR.out.size)
      have hc2 := OK.out.strata Ak n ck _ _ w2 (HOZ2.out.rd HB2.out.size) HOZ2.out.own.le (by rw [HZF.out]; exact HSP.out) (by omega)
      rw [HZF.out] at hc2
      have HT2 := Lib.hid ht2
      clear hc1 hb2 ht2 hr2
      dsimp only
      repeat (first | go_skip | go_guarded | go_step)
      refine hc2.mono ?_
      rintro e w3 ⟨es, A3, c3, S, R3, rfl, ht3, hr3, hb3⟩
      obtain ⟨rfl, hnil⟩ := told_both HT2.out ht3
      have HR2 := Lib.hid (Rd.more (Rd.below HR2.out hb3) hb3.size)
      have HR3 := Lib.hid hr3
      have HB3 := Lib.hid (HB2.out.trans (hb3.mono HB2.out.size))
      have HT3 := Lib.hid ht3
      have hne : ((er : Int) != (er : Int)) = false := by simp
      clear hc2 hb3 ht3 hr3
      dsimp only
      by_cases he : er = 0
      · subst he
        have hcase : ∀ e, LevTold (C.map plainC) e Lv_ → e = 0 → ∀ x ∈ Lv_, x.2 = 0 := fun e h he => by
          cases h with
          | wrong q => intro x hx; cases hx
          | none _ _ => intro x hx; cases hx
          | some a b c d e => intro x hx; rw [e x hx]; exact plain_least b _
        have HZL := Lib.hid (hcase 0 HT2.out rfl)
        have hcase2 : ∀ e, StrTold (C.map plainC) e S → e = 0 → S = strM (List.replicate n 0) := fun e h he => by
          cases h with
          | bad _ q => exact absurd he q
          | good a b =>
            congr 1
            unfold headsM
            refine List.ext_getElem (by rw [List.length_map, HLP.out, List.length_replicate]) fun i h1 h2 => ?_
            rw [List.getElem_map, List.getElem_replicate]
            exact plain_least b _
        have HSS := Lib.hid (hcase2 0 HT3.out rfl)
        have hlm := HT2.out.len
        obtain ⟨m, hm⟩ : ∃ m, m = Lv_.length := ⟨_, rfl⟩
        have hmb : m ≤ 500000000000 := by
          have := pr_bound HSP.out (by rw [HLP.out]; omega)
          omega
        rw [← hm] at HR2 ⊢
        clear hcase hcase2 hnil hm hlm HT2 HT3
        have hz0 : ((((0 : Nat)) : Int) != 0) = false := by simp
        repeat (first | go_skip | go_guarded | go_step)
        go_loopw [11] (fun q w5 => ∃ j : Nat, j ≤ m ∧ q = .int .i64 (j : Int) ∧ Below w3.heap.size w3 w5) (fun q _ => m - (intOf q).toNat)
        case atStart => exact ⟨0, by omega, rfl, Below.refl _ _⟩
        case round =>
          rename World => w5
          obtain ⟨j, hj, rfl, hb5⟩ := hrel
          have HB5 := Lib.hid hb5
          clear hb5
          by_cases hltj : j < m
          · have hji : (j : Int) < (m : Int) := by omega
            obtain ⟨b6, o6, x, hA6, hb6, hx6, hx0, hx1⟩ := rdV_at HR2.out hltj
            rw [HZL.out x (List.mem_of_getElem? hx6)] at hx1
            have k1 := (HB5.out.cell (p := ⟨b6, o6 + j * 2 + 1, none⟩) hb6).trans hx1
            subst hA6
            clear hx6 hx0 hx1 hb6
            repeat (first | go_skip | go_guarded | go_step)
            go_roundw
            case rel => exact ⟨j + 1, by omega, by go_num, HB5.out⟩
            case measure => simp [intOf]; omega
          · obtain rfl : m = j := by omega
            have hji : ¬ (m : Int) < (m : Int) := by omega
            have HBZ := Lib.hid (HB3.out.trans (HB5.out.mono HB3.out.size))
            rcases Nat.eq_zero_or_pos n with hn0 | hn0
            · have hzn : ((n : Int) == 0) = true := by simp; omega
              have hS0 : S = [] := by rw [HSS.out, hn0]; rfl
              subst hS0
              clear HSS hn0
              repeat (first | go_skip | go_guarded | go_step)
              refine (WK.out _).mono ?_
              rintro e wz ⟨rfl, hbz⟩
              have HBZ := Lib.hid (HBZ.out.trans (hbz.mono HBZ.out.size))
              clear hbz
              dsimp only
              repeat (first | go_skip | go_guarded | go_step)
              go_ret
              exact ⟨rfl, HBZ.out⟩
            · obtain ⟨n', hn'⟩ : ∃ n', n = n' + 1 := ⟨n - 1, by omega⟩
              have hzn : ((n : Int) == 0) = false := by simp; omega
              have hS1 : S = [List.range n] := by rw [HSS.out, hn', strM_zero]
              subst hS1
              obtain ⟨b6, o6, A6, k6, c6, s, hA6, hb6, hs6, hk6, hc6, hr6⟩ := HR3.out.at_ (i := 0) (by simp)
              simp only [List.getElem?_cons_zero, Option.some.injEq] at hs6
              subst hs6
              rw [List.length_range] at hk6
              subst hk6
              rw [Nat.add_zero] at hc6
              have q6 := (HB5.out.cell (p := ⟨b6, o6, none⟩) hb6).trans hc6
              have HD6 := Lib.hid (show ∀ V, Below w3.heap.size w3 V → V.cell? ⟨b6, o6, none⟩ = some (.slice A6 n c6) from fun V hV => (hV.cell (p := ⟨b6, o6, none⟩) hb6).trans hc6)
              have HR6 := Lib.hid hr6
              have hnn : ((n : Int) != (n : Int)) = false := by simp
              subst hA6
              clear HSS hn' hn0 hb6 hc6 hr6
              repeat (first | go_skip | go_guarded | go_step)
              go_loopw [12] (fun q w7 => ∃ j : Nat, j ≤ n ∧ q = .int .i64 (j : Int) ∧ w7 = w5) (fun q _ => n - (intOf q).toNat)
              case atStart => exact ⟨0, by omega, rfl, rfl⟩
              case round =>
                rename World => w7
                obtain ⟨j, hj, rfl, rfl⟩ := hrel
                by_cases hltj : j < n
                · have hji2 : (j : Int) < (n : Int) := by omega
                  obtain ⟨b8, o8, v8, hA8, hb8, hv8, hc8⟩ := HR6.out.at1 hltj
                  rw [List.getElem?_map, List.getElem?_range hltj] at hv8
                  cases hv8
                  have q8 := (HB5.out.cell (p := ⟨b8, o8 + j, none⟩) hb8).trans hc8
                  have hjj : ((j : Int) != (j : Int)) = false := by simp
                  subst hA8
                  clear hc8 hb8
                  repeat (first | go_skip | go_guarded | go_step)
                  go_roundw
                  case rel => exact ⟨j + 1, by omega, by go_num, (by first | rfl | trivial)⟩
                  case measure => simp [intOf]; omega
                · obtain rfl : n = j := by omega
                  repeat (first | go_skip | go_guarded | go_step)
                  refine (WK.out _).mono ?_
                  rintro e wz ⟨rfl, hbz⟩
                  have HBZ := Lib.hid (HBZ.out.trans (hbz.mono HBZ.out.size))
                  clear hbz
                  dsimp only
                  repeat (first | go_skip | go_guarded | go_step)
                  go_ret
                  exact ⟨rfl, HBZ.out⟩
      · obtain ⟨rfl, rfl⟩ := hnil he
        have hne0 : ((er : Int) != 0) = true := by simp; omega
        have hne11 : ((er : Int) != 11) = true := by
          have : er ≠ 11 := by
            have hcase : ∀ e, LevTold (C.map plainC) e [] → e ≠ 11 := fun e h => by
              cases h with
              | wrong q => exact rightM_err _
              | none _ q => exact absurd ⟨_, plain_valid C⟩ q
              | some _ _ _ _ _ => exact by omega
            exact hcase er HT2.out
          simp
          omega
        clear hnil
        repeat (first | go_skip | go_guarded | go_step)
        refine (WK.out _).mono ?_
        rintro e wz ⟨rfl, hbz⟩
        have HBZ := Lib.hid (HB3.out.trans (hbz.mono HB3.out.size))
        clear hbz
        dsimp only
        repeat (first | go_skip | go_guarded | go_step)
        go_ret
        exact ⟨rfl, HBZ.out⟩

theorem walkAll (ok : StratOk) (wk : TWorksOk) (A : Option Addr) (n c : Nat) (Q : List ClA) (C : List Cl) (w : World) (h : RdCs w w.heap.size A n Q C) (hnc : n ≤ c) (hcap : ∀ q ∈ Q, q.1.2.1 ≤ q.1.2.2 ∧ q.2.1.2.1 ≤ q.2.1.2.2) :
    Calls Try.prog 3 #[.slice A n c] w fun e w' => e = .returned (.bool true) ∧ Below w.heap.size w w' := by
  cases hb1 : fewB n 0 C [] with
  | false => exact walkFew wk A n c Q C w h (.inl hb1)
  | true =>
    by_cases h4 : 20 < n
    · exact walkFew wk A n c Q C w h (.inr h4)
    · have hs : Slim C := by
        unfold fewB at hb1
        simp only [Bool.and_eq_true] at hb1
        exact few_slim hb1.2.1
      exact walk ok wk A n c Q C w h hnc hb1 hs (by omega)

set_option maxRecDepth 100000 in
theorem lifted (ok : StratOk) (wk : TWorksOk) (os : Os) (started : os.Started) (H : Type) (enc : TypeId × Value → H) :
    ReturnsInHanded {} Try.checked os 3 .any (Rows.stratPlainSpec.pre6 enc Try.prog Try.f3 Rows.stratPlainRow.domain false) (Rows.stratPlainSpec.post enc Try.prog Try.f3 false true false false) := by
  refine returnsInHanded_of_change_sized (C := Try.checked) ownKA started (by kernel_rfl) Try.func3
    (ChangeSpec.witness6 (enc := enc) (C := Try.checked) false ⟨#[], #[.slice none 0 0], []⟩ 8 (by kernel_rfl) (by kernel_rfl) (by kernel_rfl) (by kernel_rfl)) ?_
  intro W base args ds gs before hval0 hW hcnd hsz0 _
  have hval : ∀ (j : Nat) t v, Try.f3.params[j]? = some t → args[j]? = some v → Value.okWide Try.prog W .any base t v := hval0
  have hlt : ∀ x ∈ before, x.block < W.heap.size := fun x hx => by simpa using hW.lt x hx
  have hW' := hW
  obtain ⟨p, q, hA0, hV, rfl, hfz, hnd⟩ := hW
  have hA : DataW.TrodAll enc Try.prog W 0 (fun _ => true) true Try.f3.params.toList args.toList ds p := hA0
  rw [Try.params3] at hA hval
  obtain ⟨v0, vs0, d0, ds0, p0, q0, hargs, rfl, rfl, h0, r0⟩ := trodAll_cons hA
  obtain ⟨rfl, rfl, rfl⟩ := trodAll_nil r0
  obtain rfl : args = #[v0] := by cases args; simp_all
  obtain ⟨rfl, rfl⟩ := trodVars_none hV
  obtain ⟨A, n, c, Q, C, rfl, hk1, hm1, hr1, hcap⟩ := open_clauses2 (hval 0 22 v0 rfl rfl) h0 (fun x hx => hlt x (by simp [hx]))
  refine (walkAll ok wk A n c Q C W hr1 hk1 hcap).mono fun e W' ⟨he, hg⟩ => ?_
  subst he
  exact ⟨_, rfl, post_law laidOutA rfl (by kernel_rfl) hW' hg rfl Try.underlying4 rfl rfl rfl⟩

theorem proved_of (ok : StratOk) (wk : TWorksOk) : Rows.StratPlainSaid :=
  OpenClaim.holds_of_wide 3 Try.f3 rfl rfl rfl rfl rfl rfl rfl ⟨rfl, rfl, rfl, rfl, rfl⟩ rfl rfl rfl rfl rfl (by kernel_rfl) Try.func3 (by kernel_rfl)
    (of_decide_eq_true (by kernel_rfl)) (by unfold Func.isWrapper; first | (rw [if_pos (by decide +kernel)]; kernel_rfl) | (rw [if_neg (by decide +kernel)]; exact ⟨rfl, rfl⟩))
    (fun os started H enc _ => lifted ok wk os started H enc)
#print axioms proved_of
end Go.Proofs.Ytfmghkplafploaa.stratPlain

