/- SafeNames: what predicates and variables are called says nothing. No condition. (Written by genSbF.py.) -/
import Derived.Test.YtggnhgfickkgdaaSbE
import Derived.Test.YtggnhgfickkgdaaSaP
import Derived.Test.YtggnhgfickkgdaaSaQ
import Derived.Test.YtggnhgfickkgdaaRows
set_option linter.unusedVariables false
set_option linter.unusedSimpArgs false
namespace Go.Proofs.Ytggnhgfickkgdaa.safeNames
open Go Go.RowKit Go.ChangeShapes Go.WideShapes Go.ChangeAt

def movedF (mv : UInt32) (y : AtR) : AtR := (y.1 + mv, y.2)
theorem moved_keys (mv : UInt32) (Y : List AtR) : (Y.map (movedF mv)).map keyR = (Y.map keyR).map (movedK mv) := by
  rw [List.map_map, List.map_map]
  rfl
set_option maxRecDepth 100000 in
set_option maxHeartbeats 2000000 in
theorem walkFew (wk : SWorksOk) (A : Option Addr) (n c : Nat) (Q : List ClA) (C : List Cl) (A2 : Option Addr) (nf c2 : Nat) (Y : List AtR) (mv : UInt32) (by_ : UInt8) (w : World) (h : RdCs w w.heap.size A n Q C) (h2 : Rd w w.heap.size 2 A2 nf (Y.flatMap atC)) (hY : Y.length = nf)
    (hf : fewB n nf C Y = false ∨ 40 < n ∨ 40 < nf) :
    Calls Try.prog 5 #[.slice A n c, .slice A2 nf c2, nv mv, .int .u8 (by_.toNat : Int)] w fun e w' => e = .returned (.bool true) ∧ Below w.heap.size w w' := by
  have f1 := few_any A n c Q C A2 nf c2 Y w h h2 hY
  have WK := Lib.hid wk
  clear h h2 hY wk
  cases hb1 : fewB n nf C Y with
  | false =>
    rw [hb1] at f1
    clear hb1 hf
    go_enter Try.func5, Try.ntmps5
    repeat (first | go_skip | go_guarded | go_step)
    refine f1.mono ?_
    rintro e w1 ⟨rfl, rfl⟩
    clear f1
    dsimp only
    repeat (first | go_skip | go_guarded | go_step)
    refine (WK.out _).mono ?_
    rintro e wz ⟨rfl, hbz⟩
    have HBZ := Lib.hid (hbz)
    clear hbz
    dsimp only
    repeat (first | go_skip | go_guarded | go_step)
    go_ret
    exact ⟨rfl, HBZ.out⟩
  | true =>
    rw [hb1] at f1 hf
    by_cases h4 : 40 < n
    · have h4i : (40 : Int) < (n : Int) := by omega
      clear hb1 hf h4
      go_enter Try.func5, Try.ntmps5
      repeat (first | go_skip | go_guarded | go_step)
      refine f1.mono ?_
      rintro e w1 ⟨rfl, rfl⟩
      clear f1
      dsimp only
      repeat (first | go_skip | go_guarded | go_step)
      refine (WK.out _).mono ?_
      rintro e wz ⟨rfl, hbz⟩
      have HBZ := Lib.hid (hbz)
      clear hbz
      dsimp only
      repeat (first | go_skip | go_guarded | go_step)
      go_ret
      exact ⟨rfl, HBZ.out⟩
    · have h4i : ¬ (40 : Int) < (n : Int) := by omega
      have h5i : (40 : Int) < (nf : Int) := by
        rcases hf with hf | hf | hf
        · cases hf
        · exact absurd hf h4
        · omega
      clear hb1 hf h4
      go_enter Try.func5, Try.ntmps5
      repeat (first | go_skip | go_guarded | go_step)
      refine f1.mono ?_
      rintro e w1 ⟨rfl, rfl⟩
      clear f1
      dsimp only
      repeat (first | go_skip | go_guarded | go_step)
      refine (WK.out _).mono ?_
      rintro e wz ⟨rfl, hbz⟩
      have HBZ := Lib.hid (hbz)
      clear hbz
      dsimp only
      repeat (first | go_skip | go_guarded | go_step)
      go_ret
      exact ⟨rfl, HBZ.out⟩
set_option maxRecDepth 100000 in
set_option maxHeartbeats 8000000 in
theorem walk (ok : SafeOk) (wk : SWorksOk) (A : Option Addr) (n c : Nat) (Q : List ClA) (C : List Cl) (A2 : Option Addr) (nf c2 : Nat) (Y : List AtR) (mv : UInt32) (by_ : UInt8) (w : World) (h : RdCs w w.heap.size A n Q C) (hnc : n ≤ c) (h2 : Rd w w.heap.size 2 A2 nf (Y.flatMap atC)) (hY : Y.length = nf)
    (hb1 : fewB n nf C Y = true) (hn : n ≤ 40) (hnf : nf ≤ 40) (hS : Slim C) :
    Calls Try.prog 5 #[.slice A n c, .slice A2 nf c2, nv mv, .int .u8 (by_.toNat : Int)] w fun e w' => e = .returned (.bool true) ∧ Below w.heap.size w w' := by
  have f1 := few_any A n c Q C A2 nf c2 Y w h h2 hY
  rw [hb1] at f1
  have HC := Lib.hid h
  have HF := Lib.hid h2
  have HY := Lib.hid hY
  have OK := Lib.hid ok
  have WK := Lib.hid wk
  have HS := Lib.hid hS
  have h4i : ¬ (40 : Int) < (n : Int) := by omega
  have h5i : ¬ (40 : Int) < (nf : Int) := by omega
  clear h h2 hY hb1 hS ok wk
  go_enter Try.func5, Try.ntmps5
  repeat (first | go_skip | go_guarded | go_step)
  refine f1.mono ?_
  rintro e w1 ⟨rfl, rfl⟩
  clear f1
  dsimp only
  repeat (first | go_skip | go_guarded | go_step)
  go_loopw [9, 10] (fun kv q wr => ∃ (i : Nat) (Ak : Option Addr) (ck : Nat) (Z : List ZC), i ≤ n ∧ kv = .slice Ak i ck ∧ q = .int .i64 (i : Int) ∧ OutZ wr w1.heap.size Ak ck i Z ∧ Z.map (·.1) = (C.take i).map (calledC mv by_) ∧ Below w1.heap.size w1 wr) (fun _ q _ => n - (intOf q).toNat)
  case atStart => exact ⟨0, none, 0, [], by omega, rfl, rfl, OutZ.nil _ _, rfl, Below.refl _ _⟩
  case round =>
    rename World => wr
    obtain ⟨i, Ak, ck, Z, hi, rfl, rfl, hoz, hzc, hbr⟩ := hrel
    have HOZ := Lib.hid hoz
    have HZC := Lib.hid hzc
    have HBR := Lib.hid hbr
    clear hoz hzc hbr
    by_cases hlt : i < n
    · have hii : (i : Int) < (n : Int) := by omega
      obtain ⟨b, o, p, l, L, A0, n0, c0, A1, n1, c1, R, hA, hb, hx, hq, hd0, hd1, hd2, hrt, hrl⟩ := (HC.out.below HBR.out).at_ hlt
      obtain ⟨hs1, hs2, hs3⟩ := HS.out _ (List.mem_of_getElem? hx)
      dsimp only at hs1 hs2 hs3
      have hn0 : n0 ≤ 1000000 := by have := rdT_len hrt; omega
      have hn1 : n1 ≤ 1000000 := by have := hrl.lenL; omega
      have HX := Lib.hid hx
      have HRL := Lib.hid hrl
      have HS3 := Lib.hid hs3
      have HBB := Lib.hid hb
      have HD2 := Lib.hid hd2
      obtain ⟨pm, hpm⟩ : ∃ pm, pm = p + mv := ⟨_, rfl⟩
      have hcall := called_any p A0 n0 c0 l mv by_ wr (Rd.more hrt HBR.out.size) hn0
      rw [← hpm] at hcall
      have HPM := Lib.hid hpm
      subst hA
      clear hx hq hrt hrl hs1 hs2 hs3 hpm hb
      repeat (first | go_skip | go_guarded | go_step)
      refine hcall.mono ?_
      rintro e w2 ⟨Ah, ch, rfl, hoh, hb2⟩
      have HOH := Lib.hid hoh
      have HB2 := Lib.hid hb2
      clear hcall hoh hb2 hd0 hd1 hd2
      dsimp only
      go_upto_region 8 with (fail)
      obtain ⟨wc, hwc, hbc, hbwc⟩ : ∃ W, W = w2.alloc (.cells #[nv pm, .slice Ah n0 ch, .slice none 0 0] 36) ∧ Bk W w2.heap.size 36 [nv pm, .slice Ah n0 ch, .slice none 0 0] ∧ Below w2.heap.size w2 W := box3 w2 pm (.slice Ah n0 ch) (.slice none 0 0) 36
      rw [← hwc]
      obtain ⟨gc, hgc⟩ : ∃ gc, gc = w2.heap.size := ⟨_, rfl⟩
      have hszc : wc.heap.size = gc + 1 := by rw [hwc, hgc]; simp
      rw [← hgc] at hbc ⊢
      have HW2C := Lib.hid (show Below w2.heap.size w2 wc from hbwc)
      have HGC2 := Lib.hid hgc
      have HWRC := Lib.hid (show Below wr.heap.size wr wc from HB2.out.trans (hbwc.mono HB2.out.size))
      have HBW1C := Lib.hid (HBR.out.trans (HWRC.out.mono HBR.out.size))
      have HGR := Lib.hid (show wr.heap.size ≤ gc by rw [hgc]; exact HB2.out.size)
      have HSZC := Lib.hid hszc
      have HBC := Lib.hid hbc
      have HOZC := Lib.hid (HOZ.out.later HWRC.out)
      have HOHC := Lib.hid (show OwT wc wr.heap.size Ah ch n0 (l.map (calledT by_)) from ownBelow HOH.out (show Below w2.heap.size w2 wc from hbwc) (Nat.le_refl _))
      have HLOH := Lib.hid (HOH.out.low.mono (P' := fun k => wr.heap.size ≤ k ∧ k < gc) (fun k hk => by rw [hgc]; exact hk))
      have HGW := Lib.hid (show w1.heap.size ≤ gc from Nat.le_trans HBR.out.size HGR.out)
      have HD2C := Lib.hid (show wc.cell? ⟨b, o + i * 3 + 2, none⟩ = some (.slice A1 n1 c1) from (HWRC.out.cell (p := ⟨b, o + i * 3 + 2, none⟩) (Nat.lt_of_lt_of_le HBB.out HBR.out.size)).trans HD2.out)
      have HRLC := Lib.hid (HRL.out.below (HWRC.out.mono HBR.out.size))
      clear hwc hbc hbwc hgc hszc HRL HD2
      repeat (first | go_skip | go_guarded | go_step)
      go_loopw [12] (fun q w4 => ∃ (j : Nat) (Ab : Option Addr) (cb : Nat) (X : List LX), j ≤ n1 ∧ q = .int .i64 (j : Int) ∧ Bk w4 gc 36 [nv pm, .slice Ah n0 ch, .slice Ab j cb] ∧ OutL w4 wc.heap.size Ab cb j X ∧ X.map (·.1) = (L.take j).map (calledI mv by_) ∧ Below gc wc w4 ∧ wc.heap.size ≤ w4.heap.size) (fun q _ => n1 - (intOf q).toNat)
      case atStart => exact ⟨0, none, 0, [], by omega, rfl, HBC.out, OutL.nil _ _, rfl, Below.refl _ _, Nat.le_refl _⟩
      case round =>
        rename World => w4
        obtain ⟨j, Ab, cb, X, hj, rfl, hbk, hol, hxl, hb4, hs4⟩ := hrel
        have HBK := Lib.hid hbk
        have HOL := Lib.hid hol
        have HXL := Lib.hid hxl
        have HB4 := Lib.hid hb4
        have HS4 := Lib.hid hs4
        have hbw : b < gc := Nat.lt_of_lt_of_le HBB.out HGW.out
        have qd2 : w4.cell? ⟨b, o + i * 3 + 2, none⟩ = some (.slice A1 n1 c1) := (HB4.out.cell (p := ⟨b, o + i * 3 + 2, none⟩) hbw).trans HD2C.out
        clear hbk hol hxl hb4 hs4
        by_cases hltj : j < n1
        · have hji : (j : Int) < (n1 : Int) := by omega
          obtain ⟨b3, o3, g3, p3, l3, Ai, ni, ci, hA1, hb3, hx3, hr3, he0, he1, he2, hrow3⟩ := (HRLC.out.below (HB4.out.mono HGW.out)).at2 hltj
          have hni : ni ≤ 1000000 := by
            have := HS3.out _ (List.mem_of_getElem? hx3)
            have := rdT_len hrow3
            dsimp only at *
            omega
          obtain ⟨pm3, hpm3⟩ : ∃ pm3, pm3 = p3 + mv := ⟨_, rfl⟩
          have HPM3 := Lib.hid hpm3
          have HX3 := Lib.hid hx3
          have HAB := Lib.hid (show ∀ k, Ab.map (·.block) = some k → gc < k ∧ k < w4.heap.size from fun k hk => by have h1 := HOL.out.own.low k hk; have h2 := HSZC.out; exact ⟨by omega, h1.2⟩)
          have HNG := Lib.hid (show ∀ k, k < w1.heap.size → ¬ (Ab.map (·.block) = some k ∨ k = gc) from fun k hk e => by
            have h1 := HGW.out
            rcases e with e | e
            · have := (HAB.out k e).1; omega
            · omega)
          have h1s : w1.heap.size ≤ w4.heap.size := by have := HGW.out; have := HSZC.out; have := HS4.out; omega
          have HT := Lib.hid (show ∀ V, Turn (fun k => Ab.map (·.block) = some k ∨ k = gc) w4 V → V.cell? ⟨b, o + i * 3 + 2, none⟩ = some (.slice A1 n1 c1) ∧ V.cell? ⟨b3, o3 + j * 3, none⟩ = some (.bool g3) ∧ V.cell? ⟨b3, o3 + j * 3 + 1, none⟩ = some (nv p3) ∧ V.cell? ⟨b3, o3 + j * 3 + 2, none⟩ = some (.slice Ai ni ci) from fun V hV =>
            ⟨(hV.cell (p := ⟨b, o + i * 3 + 2, none⟩) (Nat.lt_of_lt_of_le HBB.out h1s) (HNG.out _ HBB.out)).trans qd2, (hV.cell (p := ⟨b3, o3 + j * 3, none⟩) (Nat.lt_of_lt_of_le hb3 h1s) (HNG.out _ hb3)).trans he0, (hV.cell (p := ⟨b3, o3 + j * 3 + 1, none⟩) (Nat.lt_of_lt_of_le hb3 h1s) (HNG.out _ hb3)).trans he1, (hV.cell (p := ⟨b3, o3 + j * 3 + 2, none⟩) (Nat.lt_of_lt_of_le hb3 h1s) (HNG.out _ hb3)).trans he2⟩)
          have HCALL := Lib.hid (show ∀ V, Turn (fun k => Ab.map (·.block) = some k ∨ k = gc) w4 V → Calls Try.prog 12 #[.agg #[nv p3, .slice Ai ni ci], nv mv, .int .u8 (by_.toNat : Int)] V fun e w' => ∃ A' c', e = .returned (.agg #[nv pm3, .slice A' ni c']) ∧ OwT w' V.heap.size A' c' ni (l3.map (calledT by_)) ∧ Below V.heap.size V w' from fun V hV => by
            have := called_any p3 Ai ni ci l3 mv by_ V (Rd.more (hV.rd hrow3 h1s HNG.out) (Nat.le_trans h1s hV.size)) hni
            rwa [← hpm3] at this)
          subst hA1
          clear hx3 hr3 he0 he1 he2 hrow3 hpm3
          repeat (first | go_skip | go_guarded | go_step)
          refine wp_region_held_drew (S := fun V => Turn (fun k => Ab.map (·.block) = some k ∨ k = gc) w4 V) (by kernel_rfl) ?_ (fun hHeld => ?_)
          · exact (Turn.refl _ w4).drew
          refine wpAnyH_take (i := 0) (oi := ?oid1) (v := ?vd1) ?hod1 (by kernel_rfl) ?hfd1 ?hrd1 ?hQd1 ?hyd1 hHeld ?restd1
          case hod1 => (simp only [List.getElem?_toArray, List.getElem?_cons_succ, List.getElem?_cons_zero]; exact rfl)
          case hfd1 => kernel_rfl
          case hrd1 => kernel_rfl
          case hQd1 => exact fun _ _ _ h => h
          case hyd1 =>
            refine Or.inl ⟨by rfl, ?_⟩
            intro V hSV
            go_simp
            (try with_reducible rfl)
          try simp only [Act.put, List.setIfInBounds_toArray, List.set_cons_zero, List.set_cons_succ]
          refine wpAnyH_take (i := 2) (oi := ?oid2) (v := ?vd2) ?hod2 (by kernel_rfl) ?hfd2 ?hrd2 ?hQd2 ?hyd2 hHeld ?restd2
          case hod2 => (simp only [List.getElem?_toArray, List.getElem?_cons_succ, List.getElem?_cons_zero]; exact rfl)
          case hfd2 => kernel_rfl
          case hrd2 => kernel_rfl
          case hQd2 => exact fun _ _ _ h => h
          case hyd2 =>
            refine Or.inl ⟨by rfl, ?_⟩
            intro V hSV
            go_simp
            (try with_reducible rfl)
          try simp only [Act.put, List.setIfInBounds_toArray, List.set_cons_zero, List.set_cons_succ]
          refine wpAnyH_take (i := 3) (oi := ?oid3) (v := ?vd3) ?hod3 (by kernel_rfl) ?hfd3 ?hrd3 ?hQd3 ?hyd3 hHeld ?restd3
          case hod3 => (simp only [List.getElem?_toArray, List.getElem?_cons_succ, List.getElem?_cons_zero]; exact rfl)
          case hfd3 => kernel_rfl
          case hrd3 => kernel_rfl
          case hQd3 => exact fun _ _ _ h => h
          case hyd3 =>
            refine Or.inl ⟨by rfl, ?_⟩
            intro V hSV
            go_simp
            (try with_reducible rfl)
          try simp only [Act.put, List.setIfInBounds_toArray, List.set_cons_zero, List.set_cons_succ]
          refine wpAnyH_take (i := 4) (oi := ?oid4) (v := ?vd4) ?hod4 (by kernel_rfl) ?hfd4 ?hrd4 ?hQd4 ?hyd4 hHeld ?restd4
          case hod4 => (simp only [List.getElem?_toArray, List.getElem?_cons_succ, List.getElem?_cons_zero]; exact rfl)
          case hfd4 => kernel_rfl
          case hrd4 => kernel_rfl
          case hQd4 => exact fun _ _ _ h => h
          case hyd4 =>
            refine Or.inl ⟨by rfl, ?_⟩
            intro V hSV
            go_simp
            (try with_reducible rfl)
          try simp only [Act.put, List.setIfInBounds_toArray, List.set_cons_zero, List.set_cons_succ]
          refine wpAnyH_take (i := 5) (oi := ?oid5) (v := ?vd5) ?hod5 (by kernel_rfl) ?hfd5 ?hrd5 ?hQd5 ?hyd5 hHeld ?restd5
          case hod5 => (simp only [List.getElem?_toArray, List.getElem?_cons_succ, List.getElem?_cons_zero]; exact rfl)
          case hfd5 => kernel_rfl
          case hrd5 => kernel_rfl
          case hQd5 => exact fun _ _ _ h => h
          case hyd5 =>
            refine Or.inl ⟨by rfl, ?_⟩
            intro V hSV
            go_simp
            (try with_reducible rfl)
          try simp only [Act.put, List.setIfInBounds_toArray, List.set_cons_zero, List.set_cons_succ]
          refine wpAnyH_take (i := 6) (oi := ?oid6) (v := ?vd6) ?hod6 (by kernel_rfl) ?hfd6 ?hrd6 ?hQd6 ?hyd6 hHeld ?restd6
          case hod6 => (simp only [List.getElem?_toArray, List.getElem?_cons_succ, List.getElem?_cons_zero]; exact rfl)
          case hfd6 => kernel_rfl
          case hrd6 => kernel_rfl
          case hQd6 => exact fun _ _ _ h => h
          case hyd6 =>
            refine Or.inl ⟨by rfl, ?_⟩
            intro V hSV
            obtain ⟨e0, e1, e2, e3⟩ := HT.out V hSV
            go_simp
            (try with_reducible rfl)
          try simp only [Act.put, List.setIfInBounds_toArray, List.set_cons_zero, List.set_cons_succ]
          refine wpAnyH_take (i := 7) (oi := ?oid7) (v := ?vd7) ?hod7 (by kernel_rfl) ?hfd7 ?hrd7 ?hQd7 ?hyd7 hHeld ?restd7
          case hod7 => (simp only [List.getElem?_toArray, List.getElem?_cons_succ, List.getElem?_cons_zero]; exact rfl)
          case hfd7 => kernel_rfl
          case hrd7 => kernel_rfl
          case hQd7 => exact fun _ _ _ h => h
          case hyd7 =>
            refine Or.inl ⟨by rfl, ?_⟩
            intro V hSV
            go_simp
            (try with_reducible rfl)
          try simp only [Act.put, List.setIfInBounds_toArray, List.set_cons_zero, List.set_cons_succ]
          refine wpAnyH_take (i := 8) (oi := ?oid8) (v := ?vd8) ?hod8 (by kernel_rfl) ?hfd8 ?hrd8 ?hQd8 ?hyd8 hHeld ?restd8
          case hod8 => (simp only [List.getElem?_toArray, List.getElem?_cons_succ, List.getElem?_cons_zero]; exact rfl)
          case hfd8 => kernel_rfl
          case hrd8 => kernel_rfl
          case hQd8 => exact fun _ _ _ h => h
          case hyd8 =>
            refine Or.inl ⟨by rfl, ?_⟩
            intro V hSV
            go_simp
            (try with_reducible rfl)
          try simp only [Act.put, List.setIfInBounds_toArray, List.set_cons_zero, List.set_cons_succ]
          refine wpAnyH_take (i := 9) (oi := ?oid9) (v := ?vd9) ?hod9 (by kernel_rfl) ?hfd9 ?hrd9 ?hQd9 ?hyd9 hHeld ?restd9
          case hod9 => (simp only [List.getElem?_toArray, List.getElem?_cons_succ, List.getElem?_cons_zero]; exact rfl)
          case hfd9 => kernel_rfl
          case hrd9 => kernel_rfl
          case hQd9 => exact fun _ _ _ h => h
          case hyd9 =>
            refine Or.inl ⟨by rfl, ?_⟩
            intro V hSV
            go_simp
            (try with_reducible rfl)
          try simp only [Act.put, List.setIfInBounds_toArray, List.set_cons_zero, List.set_cons_succ]
          refine wpAnyH_take (i := 10) (oi := ?oid10) (v := ?vd10) ?hod10 (by kernel_rfl) ?hfd10 ?hrd10 ?hQd10 ?hyd10 hHeld ?restd10
          case hod10 => (simp only [List.getElem?_toArray, List.getElem?_cons_succ, List.getElem?_cons_zero]; exact rfl)
          case hfd10 => kernel_rfl
          case hrd10 => kernel_rfl
          case hQd10 => exact fun _ _ _ h => h
          case hyd10 =>
            refine Or.inl ⟨by rfl, ?_⟩
            intro V hSV
            obtain ⟨e0, e1, e2, e3⟩ := HT.out V hSV
            go_simp
            (try with_reducible rfl)
          try simp only [Act.put, List.setIfInBounds_toArray, List.set_cons_zero, List.set_cons_succ]
          refine wpAnyH_take (i := 11) (oi := ?oid11) (v := ?vd11) ?hod11 (by kernel_rfl) ?hfd11 ?hrd11 ?hQd11 ?hyd11 hHeld ?restd11
          case hod11 => (simp only [List.getElem?_toArray, List.getElem?_cons_succ, List.getElem?_cons_zero]; exact rfl)
          case hfd11 => kernel_rfl
          case hrd11 => kernel_rfl
          case hQd11 => exact fun _ _ _ h => h
          case hyd11 =>
            refine Or.inl ⟨by rfl, ?_⟩
            intro V hSV
            go_simp
            (try with_reducible rfl)
          try simp only [Act.put, List.setIfInBounds_toArray, List.set_cons_zero, List.set_cons_succ]
          refine wpAnyH_take (i := 12) (oi := ?oid12) (v := ?vd12) ?hod12 (by kernel_rfl) ?hfd12 ?hrd12 ?hQd12 ?hyd12 hHeld ?restd12
          case hod12 => (simp only [List.getElem?_toArray, List.getElem?_cons_succ, List.getElem?_cons_zero]; exact rfl)
          case hfd12 => kernel_rfl
          case hrd12 => kernel_rfl
          case hQd12 => exact fun _ _ _ h => h
          case hyd12 =>
            refine Or.inl ⟨by rfl, ?_⟩
            intro V hSV
            go_simp
            (try with_reducible rfl)
          try simp only [Act.put, List.setIfInBounds_toArray, List.set_cons_zero, List.set_cons_succ]
          refine wpAnyH_take (i := 13) (oi := ?oid13) (v := ?vd13) ?hod13 (by kernel_rfl) ?hfd13 ?hrd13 ?hQd13 ?hyd13 hHeld ?restd13
          case hod13 => (simp only [List.getElem?_toArray, List.getElem?_cons_succ, List.getElem?_cons_zero]; exact rfl)
          case hfd13 => kernel_rfl
          case hrd13 => kernel_rfl
          case hQd13 => exact fun _ _ _ h => h
          case hyd13 =>
            refine Or.inl ⟨by rfl, ?_⟩
            intro V hSV
            go_simp
            (try with_reducible rfl)
          try simp only [Act.put, List.setIfInBounds_toArray, List.set_cons_zero, List.set_cons_succ]
          refine wpAnyH_take (i := 14) (oi := ?oid14) (v := ?vd14) ?hod14 (by kernel_rfl) ?hfd14 ?hrd14 ?hQd14 ?hyd14 hHeld ?restd14
          case hod14 => (simp only [List.getElem?_toArray, List.getElem?_cons_succ, List.getElem?_cons_zero]; exact rfl)
          case hfd14 => kernel_rfl
          case hrd14 => kernel_rfl
          case hQd14 => exact fun _ _ _ h => h
          case hyd14 =>
            refine Or.inl ⟨by rfl, ?_⟩
            intro V hSV
            go_simp
            (try with_reducible rfl)
          try simp only [Act.put, List.setIfInBounds_toArray, List.set_cons_zero, List.set_cons_succ]
          refine wpAnyH_take (i := 15) (oi := ?oid15) (v := ?vd15) ?hod15 (by kernel_rfl) ?hfd15 ?hrd15 ?hQd15 ?hyd15 hHeld ?restd15
          case hod15 => (simp only [List.getElem?_toArray, List.getElem?_cons_succ, List.getElem?_cons_zero]; exact rfl)
          case hfd15 => kernel_rfl
          case hrd15 => kernel_rfl
          case hQd15 => exact fun _ _ _ h => h
          case hyd15 =>
            refine Or.inl ⟨by rfl, ?_⟩
            intro V hSV
            obtain ⟨e0, e1, e2, e3⟩ := HT.out V hSV
            go_simp
            (try with_reducible rfl)
          try simp only [Act.put, List.setIfInBounds_toArray, List.set_cons_zero, List.set_cons_succ]
          refine wpAnyH_take (i := 16) (oi := ?oid16) (v := ?vd16) ?hod16 (by kernel_rfl) ?hfd16 ?hrd16 ?hQd16 ?hyd16 hHeld ?restd16
          case hod16 => (simp only [List.getElem?_toArray, List.getElem?_cons_succ, List.getElem?_cons_zero]; exact rfl)
          case hfd16 => kernel_rfl
          case hrd16 => kernel_rfl
          case hQd16 => exact fun _ _ _ h => h
          case hyd16 =>
            refine Or.inl ⟨by rfl, ?_⟩
            intro V hSV
            go_simp
            (try with_reducible rfl)
          try simp only [Act.put, List.setIfInBounds_toArray, List.set_cons_zero, List.set_cons_succ]
          refine wpAnyH_take (i := 17) (oi := ?oid17) (v := ?vd17) ?hod17 (by kernel_rfl) ?hfd17 ?hrd17 ?hQd17 ?hyd17 hHeld ?restd17
          case hod17 => (simp only [List.getElem?_toArray, List.getElem?_cons_succ, List.getElem?_cons_zero]; exact rfl)
          case hfd17 => kernel_rfl
          case hrd17 => kernel_rfl
          case hQd17 => exact fun _ _ _ h => h
          case hyd17 =>
            refine Or.inl ⟨by rfl, ?_⟩
            intro V hSV
            go_simp
            (try with_reducible rfl)
          try simp only [Act.put, List.setIfInBounds_toArray, List.set_cons_zero, List.set_cons_succ]
          refine wpAnyH_take (i := 18) (oi := ?oid18) (v := ?vd18) ?hod18 (by kernel_rfl) ?hfd18 ?hrd18 ?hQd18 ?hyd18 hHeld ?restd18
          case hod18 => (simp only [List.getElem?_toArray, List.getElem?_cons_succ, List.getElem?_cons_zero]; exact rfl)
          case hfd18 => kernel_rfl
          case hrd18 => kernel_rfl
          case hQd18 => exact fun _ _ _ h => h
          case hyd18 =>
            refine Or.inl ⟨by rfl, ?_⟩
            intro V hSV
            go_simp
            (try with_reducible rfl)
          try simp only [Act.put, List.setIfInBounds_toArray, List.set_cons_zero, List.set_cons_succ]
          refine wpAnyH_take (i := 19) (oi := ?oid19) (v := ?vd19) ?hod19 (by kernel_rfl) ?hfd19 ?hrd19 ?hQd19 ?hyd19 hHeld ?restd19
          case hod19 => (simp only [List.getElem?_toArray, List.getElem?_cons_succ, List.getElem?_cons_zero]; exact rfl)
          case hfd19 => kernel_rfl
          case hrd19 => kernel_rfl
          case hQd19 => exact fun _ _ _ h => h
          case hyd19 =>
            refine Or.inl ⟨by rfl, ?_⟩
            intro V hSV
            obtain ⟨e0, e1, e2, e3⟩ := HT.out V hSV
            go_simp
            (try with_reducible rfl)
          try simp only [Act.put, List.setIfInBounds_toArray, List.set_cons_zero, List.set_cons_succ]
          refine wpAnyH_take (i := 20) (oi := ?oid20) (v := ?vd20) ?hod20 (by kernel_rfl) ?hfd20 ?hrd20 ?hQd20 ?hyd20 hHeld ?restd20
          case hod20 => (simp only [List.getElem?_toArray, List.getElem?_cons_succ, List.getElem?_cons_zero]; exact rfl)
          case hfd20 => kernel_rfl
          case hrd20 => kernel_rfl
          case hQd20 => exact fun _ _ _ h => h
          case hyd20 =>
            refine Or.inl ⟨by rfl, ?_⟩
            intro V hSV
            go_simp
            (try with_reducible rfl)
          try simp only [Act.put, List.setIfInBounds_toArray, List.set_cons_zero, List.set_cons_succ]
          refine wpAnyH_take (i := 21) (oi := ?oid21) (v := ?vd21) ?hod21 (by kernel_rfl) ?hfd21 ?hrd21 ?hQd21 ?hyd21 hHeld ?restd21
          case hod21 => (simp only [List.getElem?_toArray, List.getElem?_cons_succ, List.getElem?_cons_zero]; exact rfl)
          case hfd21 => kernel_rfl
          case hrd21 => kernel_rfl
          case hQd21 => exact fun _ _ _ h => h
          case hyd21 =>
            refine Or.inl ⟨by rfl, ?_⟩
            intro V hSV
            go_simp
            (try with_reducible rfl)
          try simp only [Act.put, List.setIfInBounds_toArray, List.set_cons_zero, List.set_cons_succ]
          refine wpAnyH_ready (rs := [1, 22]) (by kernel_rfl) (by simp) ?_
          refine AllReadyH.cons (o := ?od22) ?hod22 (fun K hK => ?kd22) ?md22
          case hod22 => (simp only [List.getElem?_toArray, List.getElem?_cons_succ, List.getElem?_cons_zero]; exact rfl)
          case kd22 =>
            have hfs : Below w4.heap.size w4 (World.drew w4) := belowDrews (Below.refl _ w4) 1
            refine anyd_ldL (by rfl) (.tmp 63) rfl gc 2 _ (by rfl) (HBK.out.read hfs 2 rfl) ?_
            refine hK.out _ _ ?_ (fun hHeld => ?_)
            · exact hHeld
            clear hK K
            try simp only [Act.put, List.setIfInBounds_toArray, List.set_cons_zero, List.set_cons_succ]
            refine wpAnyH_ready (rs := [22]) (by kernel_rfl) (by simp) ?_
            refine AllReadyH.cons (o := ?od23) ?hod23 (fun K hK => ?kd23) ?md23
            case hod23 => (simp only [List.getElem?_toArray, List.getElem?_cons_succ, List.getElem?_cons_zero]; exact rfl)
            case kd23 =>
              go_simp
              refine (HCALL.out _ hHeld).mono ?_
              rintro e Vd23 ⟨Ad23, cd23, rfl, hocd23, hvd23⟩
              have hfd23 : Below w4.heap.size w4 Vd23 := hfs.trans (hvd23.mono hfs.size)
              have hind23 : InS (fun x => w4.heap.size ≤ x ∧ x < Vd23.heap.size) Ad23 := fun x hx => ⟨Nat.le_trans hfs.size (hocd23.low x hx).1, (hocd23.low x hx).2⟩
              (try dsimp only)
              refine hK.out _ _ ?_ (fun hHeld => ?_)
              · exact Turn.trans hHeld (Turn.ofBelow hvd23)
              clear hK K
              try simp only [Act.put, List.setIfInBounds_toArray, List.set_cons_zero, List.set_cons_succ]
              refine wpAnyH_take (i := 23) (oi := ?oid24) (v := ?vd24) ?hod24 (by kernel_rfl) ?hfd24 ?hrd24 ?hQd24 ?hyd24 hHeld ?restd24
              case hod24 => (simp only [List.getElem?_toArray, List.getElem?_cons_succ, List.getElem?_cons_zero]; exact rfl)
              case hfd24 => kernel_rfl
              case hrd24 => kernel_rfl
              case hQd24 => exact fun _ _ _ h => h
              case hyd24 =>
                refine Or.inl ⟨by rfl, ?_⟩
                intro V hSV
                go_simp
                (try with_reducible rfl)
              try simp only [Act.put, List.setIfInBounds_toArray, List.set_cons_zero, List.set_cons_succ]
              refine wpAnyH_ready (rs := [24]) (by kernel_rfl) (by simp) ?_
              refine AllReadyH.cons (o := ?od25) ?hod25 (fun K hK => ?kd25) ?md25
              case hod25 => (simp only [List.getElem?_toArray, List.getElem?_cons_succ, List.getElem?_cons_zero]; exact rfl)
              case kd25 =>
                refine anyd_litL (by rfl) (.tmp 86) rfl g3 pm3 Ad23 ni cd23 (by rfl) (l3.map (calledT by_)) ?_
                intro Vd25 qd25 hld25 hvd25
                have hfd25 : Below w4.heap.size w4 Vd25 := hfd23.trans (hvd25.mono hfd23.size)
                have hind25 : InS (fun x => w4.heap.size ≤ x ∧ x < Vd25.heap.size) Ad23 := hind23.mono fun x hx => ⟨hx.1, Nat.lt_of_lt_of_le hx.2 hvd25.size⟩
                have hocd25 : OwT Vd25 _ Ad23 cd23 ni (l3.map (calledT by_)) := ownBelow hocd23 hvd25 (Nat.le_refl _)
                (try dsimp only)
                refine hK.out _ _ ?_ (fun hHeld => ?_)
                · exact Turn.trans hHeld (Turn.ofBelow hvd25)
                clear hK K
                try simp only [Act.put, List.setIfInBounds_toArray, List.set_cons_zero, List.set_cons_succ]
                refine wpAnyH_ready (rs := [25]) (by kernel_rfl) (by simp) ?_
                refine AllReadyH.cons (o := ?od26) ?hod26 (fun K hK => ?kd26) ?md26
                case hod26 => (simp only [List.getElem?_toArray, List.getElem?_cons_succ, List.getElem?_cons_zero]; exact rfl)
                case kd26 =>
                  refine anyd_appL (by rfl) (.tmp 64) (.tmp 87) rfl wc.heap.size Ab cb j X (by rfl) (HOL.out.later hfd25) _ _ 1 (((g3, pm3, l3.map (calledT by_)) : Li), ((Ad23, ni, cd23) : SlA)) (by rfl) hld25 (by omega) (Nat.le_trans HS4.out hfd25.size) hocd25.rd (hind25.mono fun x hx => ⟨Nat.le_trans HS4.out hx.1, hx.2, fun e => by have := (HAB.out x e).2; omega⟩) ?_
                  intro Ad26 cd26 Vd26 hold26 htd26
                  have hTd26 : Turn (fun k => Ab.map (·.block) = some k) w4 Vd26 := (Turn.ofBelow hfd25).trans htd26
                  have hbkd26 : Bk Vd26 gc 36 [nv pm, .slice Ah n0 ch, .slice Ab j cb] := hTd26.bk HBK.out (fun e => by have := (HAB.out gc e).1; omega)
                  (try dsimp only)
                  refine hK.out _ _ ?_ (fun hHeld => ?_)
                  · exact Turn.then_ hHeld htd26 (fun k _ e => .inl e)
                  clear hK K
                  try simp only [Act.put, List.setIfInBounds_toArray, List.set_cons_zero, List.set_cons_succ]
                  refine wpAnyH_take (i := 26) (oi := ?oid27) (v := ?vd27) ?hod27 (by kernel_rfl) ?hfd27 ?hrd27 ?hQd27 ?hyd27 hHeld ?restd27
                  case hod27 => (simp only [List.getElem?_toArray, List.getElem?_cons_succ, List.getElem?_cons_zero]; exact rfl)
                  case hfd27 => kernel_rfl
                  case hrd27 => kernel_rfl
                  case hQd27 => exact fun _ _ _ h => h
                  case hyd27 =>
                    refine Or.inl ⟨by rfl, ?_⟩
                    intro V hSV
                    go_simp
                    (try with_reducible rfl)
                  try simp only [Act.put, List.setIfInBounds_toArray, List.set_cons_zero, List.set_cons_succ]
                  refine wpAnyH_ready (rs := [27]) (by kernel_rfl) (by simp) ?_
                  refine AllReadyH.cons (o := ?od28) ?hod28 (fun K hK => ?kd28) ?md28
                  case hod28 => (simp only [List.getElem?_toArray, List.getElem?_cons_succ, List.getElem?_cons_zero]; exact rfl)
                  case kd28 =>
                    refine anyd_stL (by rfl) (.tmp 89) (.tmp 88) rfl gc 2 _ Ad26 (j + 1) cd26 (by rfl) (by rfl) (hbkd26.read (Below.refl _ _) 2 rfl) (hbkd26.frozen 2) ?_
                    refine hK.out _ _ ?_ (fun hHeld => ?_)
                    · exact Turn.setCell hHeld (fun _ => .inr rfl) _
                    clear hK K
                    try simp only [Act.put, List.setIfInBounds_toArray, List.set_cons_zero, List.set_cons_succ]
                    refine wpAnyH_done (by kernel_rfl) ?_ _
                    have hTg : Turn (fun k => k = gc) Vd26 (Vd26.setCell ⟨gc, 2, none⟩ (.slice Ad26 (j + 1) cd26)) := (Turn.refl (fun k => k = gc) Vd26).setCell (p := ⟨gc, 2, none⟩) (fun _ => rfl) _
                    have HBK6 := Lib.hid (hbkd26.set_ 2 (.slice Ad26 (j + 1) cd26))
                    have HOL6 := Lib.hid (hold26.turn hTg (by have := HSZC.out; omega))
                    have HB6 := Lib.hid (HB4.out.trans (Below.trans (hTd26.below (B := gc) (fun y _ e => Nat.le_of_lt (HAB.out y e).1) (by have := HSZC.out; have := HS4.out; omega)) (hTg.below (B := gc) (fun y _ e => Nat.le_of_eq e.symm) (by have := HSZC.out; have := HS4.out; have := hTd26.size; omega))))
                    have HS6 := Lib.hid (Nat.le_trans HS4.out (Nat.le_trans hTd26.size hTg.size))
                    clear hTg
                    repeat (first | go_skip | go_guarded | go_step)
                    go_roundw
                    case rel => exact ⟨j + 1, Ad26, cd26, _, by omega, by go_num, HBK6.out, HOL6.out, by
                      rw [List.map_append, HXL.out, List.take_add_one, HX3.out, List.map_append]
                      rw [HPM3.out]
                      rfl, HB6.out, HS6.out⟩
                    case measure => simp [intOf]; omega
                  exact AllReadyH.nil
                exact AllReadyH.nil
              exact AllReadyH.nil
            exact AllReadyH.nil
          refine AllReadyH.cons (o := ?od29) ?hod29 (fun K hK => ?kd29) ?md29
          case hod29 => (simp only [List.getElem?_toArray, List.getElem?_cons_succ, List.getElem?_cons_zero]; exact rfl)
          case kd29 =>
            have hfs : Below w4.heap.size w4 (World.drew w4) := belowDrews (Below.refl _ w4) 1
            go_simp
            refine (HCALL.out _ hHeld).mono ?_
            rintro e Vd29 ⟨Ad29, cd29, rfl, hocd29, hvd29⟩
            have hfd29 : Below w4.heap.size w4 Vd29 := hfs.trans (hvd29.mono hfs.size)
            have hind29 : InS (fun x => w4.heap.size ≤ x ∧ x < Vd29.heap.size) Ad29 := fun x hx => ⟨Nat.le_trans hfs.size (hocd29.low x hx).1, (hocd29.low x hx).2⟩
            (try dsimp only)
            refine hK.out _ _ ?_ (fun hHeld => ?_)
            · exact Turn.trans hHeld (Turn.ofBelow hvd29)
            clear hK K
            try simp only [Act.put, List.setIfInBounds_toArray, List.set_cons_zero, List.set_cons_succ]
            refine wpAnyH_take (i := 23) (oi := ?oid30) (v := ?vd30) ?hod30 (by kernel_rfl) ?hfd30 ?hrd30 ?hQd30 ?hyd30 hHeld ?restd30
            case hod30 => (simp only [List.getElem?_toArray, List.getElem?_cons_succ, List.getElem?_cons_zero]; exact rfl)
            case hfd30 => kernel_rfl
            case hrd30 => kernel_rfl
            case hQd30 => exact fun _ _ _ h => h
            case hyd30 =>
              refine Or.inl ⟨by rfl, ?_⟩
              intro V hSV
              go_simp
              (try with_reducible rfl)
            try simp only [Act.put, List.setIfInBounds_toArray, List.set_cons_zero, List.set_cons_succ]
            refine wpAnyH_ready (rs := [1, 24]) (by kernel_rfl) (by simp) ?_
            refine AllReadyH.cons (o := ?od31) ?hod31 (fun K hK => ?kd31) ?md31
            case hod31 => (simp only [List.getElem?_toArray, List.getElem?_cons_succ, List.getElem?_cons_zero]; exact rfl)
            case kd31 =>
              refine anyd_ldL (by rfl) (.tmp 63) rfl gc 2 _ (by rfl) (HBK.out.read hfd29 2 rfl) ?_
              refine hK.out _ _ ?_ (fun hHeld => ?_)
              · exact hHeld
              clear hK K
              try simp only [Act.put, List.setIfInBounds_toArray, List.set_cons_zero, List.set_cons_succ]
              refine wpAnyH_ready (rs := [24]) (by kernel_rfl) (by simp) ?_
              refine AllReadyH.cons (o := ?od32) ?hod32 (fun K hK => ?kd32) ?md32
              case hod32 => (simp only [List.getElem?_toArray, List.getElem?_cons_succ, List.getElem?_cons_zero]; exact rfl)
              case kd32 =>
                refine anyd_litL (by rfl) (.tmp 86) rfl g3 pm3 Ad29 ni cd29 (by rfl) (l3.map (calledT by_)) ?_
                intro Vd32 qd32 hld32 hvd32
                have hfd32 : Below w4.heap.size w4 Vd32 := hfd29.trans (hvd32.mono hfd29.size)
                have hind32 : InS (fun x => w4.heap.size ≤ x ∧ x < Vd32.heap.size) Ad29 := hind29.mono fun x hx => ⟨hx.1, Nat.lt_of_lt_of_le hx.2 hvd32.size⟩
                have hocd32 : OwT Vd32 _ Ad29 cd29 ni (l3.map (calledT by_)) := ownBelow hocd29 hvd32 (Nat.le_refl _)
                (try dsimp only)
                refine hK.out _ _ ?_ (fun hHeld => ?_)
                · exact Turn.trans hHeld (Turn.ofBelow hvd32)
                clear hK K
                try simp only [Act.put, List.setIfInBounds_toArray, List.set_cons_zero, List.set_cons_succ]
                refine wpAnyH_ready (rs := [25]) (by kernel_rfl) (by simp) ?_
                refine AllReadyH.cons (o := ?od33) ?hod33 (fun K hK => ?kd33) ?md33
                case hod33 => (simp only [List.getElem?_toArray, List.getElem?_cons_succ, List.getElem?_cons_zero]; exact rfl)
                case kd33 =>
                  refine anyd_appL (by rfl) (.tmp 64) (.tmp 87) rfl wc.heap.size Ab cb j X (by rfl) (HOL.out.later hfd32) _ _ 1 (((g3, pm3, l3.map (calledT by_)) : Li), ((Ad29, ni, cd29) : SlA)) (by rfl) hld32 (by omega) (Nat.le_trans HS4.out hfd32.size) hocd32.rd (hind32.mono fun x hx => ⟨Nat.le_trans HS4.out hx.1, hx.2, fun e => by have := (HAB.out x e).2; omega⟩) ?_
                  intro Ad33 cd33 Vd33 hold33 htd33
                  have hTd33 : Turn (fun k => Ab.map (·.block) = some k) w4 Vd33 := (Turn.ofBelow hfd32).trans htd33
                  have hbkd33 : Bk Vd33 gc 36 [nv pm, .slice Ah n0 ch, .slice Ab j cb] := hTd33.bk HBK.out (fun e => by have := (HAB.out gc e).1; omega)
                  (try dsimp only)
                  refine hK.out _ _ ?_ (fun hHeld => ?_)
                  · exact Turn.then_ hHeld htd33 (fun k _ e => .inl e)
                  clear hK K
                  try simp only [Act.put, List.setIfInBounds_toArray, List.set_cons_zero, List.set_cons_succ]
                  refine wpAnyH_take (i := 26) (oi := ?oid34) (v := ?vd34) ?hod34 (by kernel_rfl) ?hfd34 ?hrd34 ?hQd34 ?hyd34 hHeld ?restd34
                  case hod34 => (simp only [List.getElem?_toArray, List.getElem?_cons_succ, List.getElem?_cons_zero]; exact rfl)
                  case hfd34 => kernel_rfl
                  case hrd34 => kernel_rfl
                  case hQd34 => exact fun _ _ _ h => h
                  case hyd34 =>
                    refine Or.inl ⟨by rfl, ?_⟩
                    intro V hSV
                    go_simp
                    (try with_reducible rfl)
                  try simp only [Act.put, List.setIfInBounds_toArray, List.set_cons_zero, List.set_cons_succ]
                  refine wpAnyH_ready (rs := [27]) (by kernel_rfl) (by simp) ?_
                  refine AllReadyH.cons (o := ?od35) ?hod35 (fun K hK => ?kd35) ?md35
                  case hod35 => (simp only [List.getElem?_toArray, List.getElem?_cons_succ, List.getElem?_cons_zero]; exact rfl)
                  case kd35 =>
                    refine anyd_stL (by rfl) (.tmp 89) (.tmp 88) rfl gc 2 _ Ad33 (j + 1) cd33 (by rfl) (by rfl) (hbkd33.read (Below.refl _ _) 2 rfl) (hbkd33.frozen 2) ?_
                    refine hK.out _ _ ?_ (fun hHeld => ?_)
                    · exact Turn.setCell hHeld (fun _ => .inr rfl) _
                    clear hK K
                    try simp only [Act.put, List.setIfInBounds_toArray, List.set_cons_zero, List.set_cons_succ]
                    refine wpAnyH_done (by kernel_rfl) ?_ _
                    have hTg : Turn (fun k => k = gc) Vd33 (Vd33.setCell ⟨gc, 2, none⟩ (.slice Ad33 (j + 1) cd33)) := (Turn.refl (fun k => k = gc) Vd33).setCell (p := ⟨gc, 2, none⟩) (fun _ => rfl) _
                    have HBK6 := Lib.hid (hbkd33.set_ 2 (.slice Ad33 (j + 1) cd33))
                    have HOL6 := Lib.hid (hold33.turn hTg (by have := HSZC.out; omega))
                    have HB6 := Lib.hid (HB4.out.trans (Below.trans (hTd33.below (B := gc) (fun y _ e => Nat.le_of_lt (HAB.out y e).1) (by have := HSZC.out; have := HS4.out; omega)) (hTg.below (B := gc) (fun y _ e => Nat.le_of_eq e.symm) (by have := HSZC.out; have := HS4.out; have := hTd33.size; omega))))
                    have HS6 := Lib.hid (Nat.le_trans HS4.out (Nat.le_trans hTd33.size hTg.size))
                    clear hTg
                    repeat (first | go_skip | go_guarded | go_step)
                    go_roundw
                    case rel => exact ⟨j + 1, Ad33, cd33, _, by omega, by go_num, HBK6.out, HOL6.out, by
                      rw [List.map_append, HXL.out, List.take_add_one, HX3.out, List.map_append]
                      rw [HPM3.out]
                      rfl, HB6.out, HS6.out⟩
                    case measure => simp [intOf]; omega
                  exact AllReadyH.nil
                exact AllReadyH.nil
              exact AllReadyH.nil
            refine AllReadyH.cons (o := ?od36) ?hod36 (fun K hK => ?kd36) ?md36
            case hod36 => (simp only [List.getElem?_toArray, List.getElem?_cons_succ, List.getElem?_cons_zero]; exact rfl)
            case kd36 =>
              refine anyd_litL (by rfl) (.tmp 86) rfl g3 pm3 Ad29 ni cd29 (by rfl) (l3.map (calledT by_)) ?_
              intro Vd36 qd36 hld36 hvd36
              have hfd36 : Below w4.heap.size w4 Vd36 := hfd29.trans (hvd36.mono hfd29.size)
              have hind36 : InS (fun x => w4.heap.size ≤ x ∧ x < Vd36.heap.size) Ad29 := hind29.mono fun x hx => ⟨hx.1, Nat.lt_of_lt_of_le hx.2 hvd36.size⟩
              have hocd36 : OwT Vd36 _ Ad29 cd29 ni (l3.map (calledT by_)) := ownBelow hocd29 hvd36 (Nat.le_refl _)
              (try dsimp only)
              refine hK.out _ _ ?_ (fun hHeld => ?_)
              · exact Turn.trans hHeld (Turn.ofBelow hvd36)
              clear hK K
              try simp only [Act.put, List.setIfInBounds_toArray, List.set_cons_zero, List.set_cons_succ]
              refine wpAnyH_ready (rs := [1]) (by kernel_rfl) (by simp) ?_
              refine AllReadyH.cons (o := ?od37) ?hod37 (fun K hK => ?kd37) ?md37
              case hod37 => (simp only [List.getElem?_toArray, List.getElem?_cons_succ, List.getElem?_cons_zero]; exact rfl)
              case kd37 =>
                refine anyd_ldL (by rfl) (.tmp 63) rfl gc 2 _ (by rfl) (HBK.out.read hfd36 2 rfl) ?_
                refine hK.out _ _ ?_ (fun hHeld => ?_)
                · exact hHeld
                clear hK K
                try simp only [Act.put, List.setIfInBounds_toArray, List.set_cons_zero, List.set_cons_succ]
                refine wpAnyH_ready (rs := [25]) (by kernel_rfl) (by simp) ?_
                refine AllReadyH.cons (o := ?od38) ?hod38 (fun K hK => ?kd38) ?md38
                case hod38 => (simp only [List.getElem?_toArray, List.getElem?_cons_succ, List.getElem?_cons_zero]; exact rfl)
                case kd38 =>
                  refine anyd_appL (by rfl) (.tmp 64) (.tmp 87) rfl wc.heap.size Ab cb j X (by rfl) (HOL.out.later hfd36) _ _ 1 (((g3, pm3, l3.map (calledT by_)) : Li), ((Ad29, ni, cd29) : SlA)) (by rfl) hld36 (by omega) (Nat.le_trans HS4.out hfd36.size) hocd36.rd (hind36.mono fun x hx => ⟨Nat.le_trans HS4.out hx.1, hx.2, fun e => by have := (HAB.out x e).2; omega⟩) ?_
                  intro Ad38 cd38 Vd38 hold38 htd38
                  have hTd38 : Turn (fun k => Ab.map (·.block) = some k) w4 Vd38 := (Turn.ofBelow hfd36).trans htd38
                  have hbkd38 : Bk Vd38 gc 36 [nv pm, .slice Ah n0 ch, .slice Ab j cb] := hTd38.bk HBK.out (fun e => by have := (HAB.out gc e).1; omega)
                  (try dsimp only)
                  refine hK.out _ _ ?_ (fun hHeld => ?_)
                  · exact Turn.then_ hHeld htd38 (fun k _ e => .inl e)
                  clear hK K
                  try simp only [Act.put, List.setIfInBounds_toArray, List.set_cons_zero, List.set_cons_succ]
                  refine wpAnyH_take (i := 26) (oi := ?oid39) (v := ?vd39) ?hod39 (by kernel_rfl) ?hfd39 ?hrd39 ?hQd39 ?hyd39 hHeld ?restd39
                  case hod39 => (simp only [List.getElem?_toArray, List.getElem?_cons_succ, List.getElem?_cons_zero]; exact rfl)
                  case hfd39 => kernel_rfl
                  case hrd39 => kernel_rfl
                  case hQd39 => exact fun _ _ _ h => h
                  case hyd39 =>
                    refine Or.inl ⟨by rfl, ?_⟩
                    intro V hSV
                    go_simp
                    (try with_reducible rfl)
                  try simp only [Act.put, List.setIfInBounds_toArray, List.set_cons_zero, List.set_cons_succ]
                  refine wpAnyH_ready (rs := [27]) (by kernel_rfl) (by simp) ?_
                  refine AllReadyH.cons (o := ?od40) ?hod40 (fun K hK => ?kd40) ?md40
                  case hod40 => (simp only [List.getElem?_toArray, List.getElem?_cons_succ, List.getElem?_cons_zero]; exact rfl)
                  case kd40 =>
                    refine anyd_stL (by rfl) (.tmp 89) (.tmp 88) rfl gc 2 _ Ad38 (j + 1) cd38 (by rfl) (by rfl) (hbkd38.read (Below.refl _ _) 2 rfl) (hbkd38.frozen 2) ?_
                    refine hK.out _ _ ?_ (fun hHeld => ?_)
                    · exact Turn.setCell hHeld (fun _ => .inr rfl) _
                    clear hK K
                    try simp only [Act.put, List.setIfInBounds_toArray, List.set_cons_zero, List.set_cons_succ]
                    refine wpAnyH_done (by kernel_rfl) ?_ _
                    have hTg : Turn (fun k => k = gc) Vd38 (Vd38.setCell ⟨gc, 2, none⟩ (.slice Ad38 (j + 1) cd38)) := (Turn.refl (fun k => k = gc) Vd38).setCell (p := ⟨gc, 2, none⟩) (fun _ => rfl) _
                    have HBK6 := Lib.hid (hbkd38.set_ 2 (.slice Ad38 (j + 1) cd38))
                    have HOL6 := Lib.hid (hold38.turn hTg (by have := HSZC.out; omega))
                    have HB6 := Lib.hid (HB4.out.trans (Below.trans (hTd38.below (B := gc) (fun y _ e => Nat.le_of_lt (HAB.out y e).1) (by have := HSZC.out; have := HS4.out; omega)) (hTg.below (B := gc) (fun y _ e => Nat.le_of_eq e.symm) (by have := HSZC.out; have := HS4.out; have := hTd38.size; omega))))
                    have HS6 := Lib.hid (Nat.le_trans HS4.out (Nat.le_trans hTd38.size hTg.size))
                    clear hTg
                    repeat (first | go_skip | go_guarded | go_step)
                    go_roundw
                    case rel => exact ⟨j + 1, Ad38, cd38, _, by omega, by go_num, HBK6.out, HOL6.out, by
                      rw [List.map_append, HXL.out, List.take_add_one, HX3.out, List.map_append]
                      rw [HPM3.out]
                      rfl, HB6.out, HS6.out⟩
                    case measure => simp [intOf]; omega
                  exact AllReadyH.nil
                exact AllReadyH.nil
              exact AllReadyH.nil
            exact AllReadyH.nil
          exact AllReadyH.nil
        · obtain rfl : n1 = j := by omega
          have hji : ¬ (n1 : Int) < (n1 : Int) := by omega
          have k0 := HBK.out.read (Below.refl _ _) 0 rfl
          have k1 := HBK.out.read (Below.refl _ _) 1 rfl
          have k2 := HBK.out.read (Below.refl _ _) 2 rfl
          have HXF := Lib.hid (show X.map (·.1) = L.map (calledI mv by_) by
            have h := HXL.out
            rwa [List.take_of_length_le (by rw [HRLC.out.lenL]; exact Nat.le_refl _)] at h)
          have hZ : Below w4.heap.size w4 (w4.alloc (.cells #[nv pm, .slice Ah n0 ch, .slice Ab n1 cb] 36)) := (Below.refl _ _).alloc (Nat.le_refl _) _
          have hCZ : Below gc wc (w4.alloc (.cells #[nv pm, .slice Ah n0 ch, .slice Ab n1 cb] 36)) := HB4.out.trans (hZ.mono (by have := HSZC.out; have := HS4.out; omega))
          have hRZ : Below wr.heap.size wr (w4.alloc (.cells #[nv pm, .slice Ah n0 ch, .slice Ab n1 cb] 36)) := HWRC.out.trans (hCZ.mono HGR.out)
          have HOZZ := Lib.hid (HOZ.out.later hRZ)
          have HOLZ := Lib.hid (HOL.out.later hZ)
          have HOHZ := Lib.hid (show OwT (w4.alloc (.cells #[nv pm, .slice Ah n0 ch, .slice Ab n1 cb] 36)) wr.heap.size Ah ch n0 (l.map (calledT by_)) from ownBelow HOH.out (show Below w2.heap.size w2 _ from (HW2C.out.trans (hCZ.mono (Nat.le_of_eq HGC2.out.symm)))) (Nat.le_refl _))
          have HLIT := Lib.hid (litC w4 pm Ah n0 ch Ab n1 cb (l.map (calledT by_)) (L.map (calledI mv by_)) (X.map (·.2)))
          have HBRZ := Lib.hid (HBR.out.trans (hRZ.mono HBR.out.size))
          have hz4 : w4.heap.size ≤ (w4.alloc (.cells #[nv pm, .slice Ah n0 ch, .slice Ab n1 cb] 36)).heap.size := hZ.size
          clear hZ hCZ hRZ
          repeat (first
            | (at_builtin
               refine appC _ rfl (.tmp 90) (.tmp 92) rfl w1.heap.size Ak ck i Z rfl HOZZ.out.own _ _ 1 1 _ rfl HLIT.out (by omega) HBRZ.out.size ?_
               intro A5 c5 w5 ho5 ht5 hg5
               have hz : RowOf (w4.alloc (.cells #[nv pm, .slice Ah n0 ch, .slice Ab n1 cb] 36)) (w4.alloc (.cells #[nv pm, .slice Ah n0 ch, .slice Ab n1 cb] 36)).heap.size ((((pm, l.map (calledT by_)), L.map (calledI mv by_)) : Cl), (((Ah, n0, ch), (Ab, n1, cb), X.map (·.2)) : ClA)) :=
                 ⟨HOHZ.out.rd, by have h := rdL_of HOLZ.out.own.rd HOLZ.out.rows; rw [HXF.out] at h; exact h⟩
               have hp : InZ (fun x => x < (w4.alloc (.cells #[nv pm, .slice Ah n0 ch, .slice Ab n1 cb] 36)).heap.size ∧ ¬ Ak.map (·.block) = some x) ((((pm, l.map (calledT by_)), L.map (calledI mv by_)) : Cl), (((Ah, n0, ch), (Ab, n1, cb), X.map (·.2)) : ClA)) := by
                 have hak : ∀ x, Ak.map (·.block) = some x → x < wr.heap.size := fun x hx => (HOZ.out.own.low hx).2
                 have hg := HGR.out
                 have hs := HSZC.out
                 have hs4 := HS4.out
                 refine ⟨fun x hx => ?_, fun x hx => ?_, fun r hr x hx => ?_⟩
                 · have h1 := HLOH.out x hx
                   exact ⟨by omega, fun e => by have := hak x e; omega⟩
                 · have h1 := HOL.out.own.low x hx
                   exact ⟨by omega, fun e => by have := hak x e; omega⟩
                 · obtain ⟨y, hy, rfl⟩ := List.mem_map.1 hr
                   have h1 := HOL.out.apart y hy x hx
                   exact ⟨by omega, fun e => by have := hak x e; omega⟩
               have HO5 := Lib.hid (HOZZ.out.app hz hp ho5 ht5 hg5)
               have HB5 := Lib.hid (HBRZ.out.trans (ht5.below (B := w1.heap.size) (fun y _ e => (HOZZ.out.own.low e).1) HBRZ.out.size))
               clear ho5 ht5 hg5 hz hp k0 k1 k2 qd2)
            | go_skip | go_guarded | go_step)
          go_roundw
          case rel => exact ⟨i + 1, A5, c5, _, by omega, rfl, by go_num, HO5.out, by
            rw [List.map_append, HZC.out, List.take_add_one, HX.out, List.map_append]
            rw [HPM.out]
            rfl, HB5.out⟩
          case measure => simp [intOf]; omega
    · obtain rfl : n = i := by omega
      have hii : ¬ (n : Int) < (n : Int) := by omega
      have HZF := Lib.hid (show Z.map (·.1) = C.map (calledC mv by_) by
        have h := HZC.out
        rwa [List.take_of_length_le (by rw [HC.out.lenC]; exact Nat.le_refl _)] at h)
      repeat (first | go_skip | go_guarded | go_step)
      go_loopw [13, 14] (fun fv q w4 => ∃ (i : Nat) (Af : Option Addr) (cf : Nat), i ≤ nf ∧ fv = .slice Af i cf ∧ q = .int .i64 (i : Int) ∧ OwFa w4 wr.heap.size Af cf i ((Y.take i).map (movedF mv)) ∧ Below wr.heap.size wr w4) (fun _ q _ => nf - (intOf q).toNat)
      case atStart => exact ⟨0, none, 0, by omega, rfl, rfl, World.ownsRow_nil _ _ _ _, Below.refl _ _⟩
      case round =>
        rename World => w4
        obtain ⟨i, Af, cf, hi, rfl, rfl, hof, hb4⟩ := hrel
        have HOF := Lib.hid hof
        have HB4 := Lib.hid hb4
        clear hof hb4
        by_cases hltj : i < nf
        · have hji : (i : Int) < (nf : Int) := by omega
          obtain ⟨y, hy⟩ : ∃ y, Y[i]? = some y := ⟨_, List.getElem?_eq_getElem (by rw [HY.out]; exact hltj)⟩
          have hbw4 := HBR.out.trans (HB4.out.mono HBR.out.size)
          obtain ⟨b4, o4, hAl, hb4, hc0, hc1⟩ := rdAt (Rd.below HF.out hbw4) hltj hy
          obtain ⟨py, Ay, ny, cy⟩ := y
          dsimp only at hc0 hc1
          have HYI := Lib.hid hy
          obtain ⟨pm, hpm⟩ : ∃ pm, pm = py + mv := ⟨_, rfl⟩
          have hadd : ((py.toNat : Int) + (mv.toNat : Int)) % 4294967296 = (pm.toNat : Int) := by rw [hpm]; exact addU py mv
          have HPM := Lib.hid hpm
          have h4l : b4 < w4.heap.size := Nat.lt_of_lt_of_le hb4 hbw4.size
          have HNG := Lib.hid (show ¬ Af.map (·.block) = some b4 from fun e => by have := (HOF.out.low b4 e).1; have := HBR.out.size; omega)
          have HT := Lib.hid (show ∀ V, Turn (fun k => Af.map (·.block) = some k) w4 V → V.cell? ⟨b4, o4 + i * 2, none⟩ = some (nv py) ∧ V.cell? ⟨b4, o4 + i * 2 + 1, none⟩ = some (.slice Ay ny cy) from fun V hV =>
            ⟨(hV.cell (p := ⟨b4, o4 + i * 2, none⟩) h4l HNG.out).trans hc0, (hV.cell (p := ⟨b4, o4 + i * 2 + 1, none⟩) h4l HNG.out).trans hc1⟩)
          subst hAl
          clear hy hc0 hc1 hpm
          repeat (first | go_skip | go_guarded | go_step)
          refine wp_region_held_drew (S := fun V => Turn (fun k => Af.map (·.block) = some k) w4 V) (by kernel_rfl) ?_ (fun hHeld => ?_)
          · exact (Turn.refl _ w4).drew
          refine wpAnyH_take (i := 0) (oi := ?oid41) (v := ?vd41) ?hod41 (by kernel_rfl) ?hfd41 ?hrd41 ?hQd41 ?hyd41 hHeld ?restd41
          case hod41 => (simp only [List.getElem?_toArray, List.getElem?_cons_succ, List.getElem?_cons_zero]; exact rfl)
          case hfd41 => kernel_rfl
          case hrd41 => kernel_rfl
          case hQd41 => exact fun _ _ _ h => h
          case hyd41 =>
            refine Or.inl ⟨by rfl, ?_⟩
            intro V hSV
            go_simp
            (try with_reducible rfl)
          try simp only [Act.put, List.setIfInBounds_toArray, List.set_cons_zero, List.set_cons_succ]
          refine wpAnyH_take (i := 1) (oi := ?oid42) (v := ?vd42) ?hod42 (by kernel_rfl) ?hfd42 ?hrd42 ?hQd42 ?hyd42 hHeld ?restd42
          case hod42 => (simp only [List.getElem?_toArray, List.getElem?_cons_succ, List.getElem?_cons_zero]; exact rfl)
          case hfd42 => kernel_rfl
          case hrd42 => kernel_rfl
          case hQd42 => exact fun _ _ _ h => h
          case hyd42 =>
            refine Or.inl ⟨by rfl, ?_⟩
            intro V hSV
            go_simp
            (try with_reducible rfl)
          try simp only [Act.put, List.setIfInBounds_toArray, List.set_cons_zero, List.set_cons_succ]
          refine wpAnyH_take (i := 2) (oi := ?oid43) (v := ?vd43) ?hod43 (by kernel_rfl) ?hfd43 ?hrd43 ?hQd43 ?hyd43 hHeld ?restd43
          case hod43 => (simp only [List.getElem?_toArray, List.getElem?_cons_succ, List.getElem?_cons_zero]; exact rfl)
          case hfd43 => kernel_rfl
          case hrd43 => kernel_rfl
          case hQd43 => exact fun _ _ _ h => h
          case hyd43 =>
            refine Or.inl ⟨by rfl, ?_⟩
            intro V hSV
            go_simp
            (try with_reducible rfl)
          try simp only [Act.put, List.setIfInBounds_toArray, List.set_cons_zero, List.set_cons_succ]
          refine wpAnyH_take (i := 3) (oi := ?oid44) (v := ?vd44) ?hod44 (by kernel_rfl) ?hfd44 ?hrd44 ?hQd44 ?hyd44 hHeld ?restd44
          case hod44 => (simp only [List.getElem?_toArray, List.getElem?_cons_succ, List.getElem?_cons_zero]; exact rfl)
          case hfd44 => kernel_rfl
          case hrd44 => kernel_rfl
          case hQd44 => exact fun _ _ _ h => h
          case hyd44 =>
            refine Or.inl ⟨by rfl, ?_⟩
            intro V hSV
            go_simp
            (try with_reducible rfl)
          try simp only [Act.put, List.setIfInBounds_toArray, List.set_cons_zero, List.set_cons_succ]
          refine wpAnyH_take (i := 4) (oi := ?oid45) (v := ?vd45) ?hod45 (by kernel_rfl) ?hfd45 ?hrd45 ?hQd45 ?hyd45 hHeld ?restd45
          case hod45 => (simp only [List.getElem?_toArray, List.getElem?_cons_succ, List.getElem?_cons_zero]; exact rfl)
          case hfd45 => kernel_rfl
          case hrd45 => kernel_rfl
          case hQd45 => exact fun _ _ _ h => h
          case hyd45 =>
            refine Or.inl ⟨by rfl, ?_⟩
            intro V hSV
            go_simp
            (try with_reducible rfl)
          try simp only [Act.put, List.setIfInBounds_toArray, List.set_cons_zero, List.set_cons_succ]
          refine wpAnyH_take (i := 5) (oi := ?oid46) (v := ?vd46) ?hod46 (by kernel_rfl) ?hfd46 ?hrd46 ?hQd46 ?hyd46 hHeld ?restd46
          case hod46 => (simp only [List.getElem?_toArray, List.getElem?_cons_succ, List.getElem?_cons_zero]; exact rfl)
          case hfd46 => kernel_rfl
          case hrd46 => kernel_rfl
          case hQd46 => exact fun _ _ _ h => h
          case hyd46 =>
            refine Or.inl ⟨by rfl, ?_⟩
            intro V hSV
            have e0 := (HT.out V hSV).1
            go_simp
            (try with_reducible rfl)
          try simp only [Act.put, List.setIfInBounds_toArray, List.set_cons_zero, List.set_cons_succ]
          refine wpAnyH_take (i := 6) (oi := ?oid47) (v := ?vd47) ?hod47 (by kernel_rfl) ?hfd47 ?hrd47 ?hQd47 ?hyd47 hHeld ?restd47
          case hod47 => (simp only [List.getElem?_toArray, List.getElem?_cons_succ, List.getElem?_cons_zero]; exact rfl)
          case hfd47 => kernel_rfl
          case hrd47 => kernel_rfl
          case hQd47 => exact fun _ _ _ h => h
          case hyd47 =>
            refine Or.inl ⟨by rfl, ?_⟩
            intro V hSV
            go_simp
            (try with_reducible rfl)
          try simp only [Act.put, List.setIfInBounds_toArray, List.set_cons_zero, List.set_cons_succ]
          refine wpAnyH_take (i := 7) (oi := ?oid48) (v := nv pm) ?hod48 (by kernel_rfl) ?hfd48 ?hrd48 ?hQd48 ?hyd48 hHeld ?restd48
          case hod48 => (simp only [List.getElem?_toArray, List.getElem?_cons_succ, List.getElem?_cons_zero]; exact rfl)
          case hfd48 => kernel_rfl
          case hrd48 => kernel_rfl
          case hQd48 => exact fun _ _ _ h => h
          case hyd48 =>
            refine Or.inl ⟨by rfl, ?_⟩
            intro V hSV
            go_simp
            (rw [IntKind.wrap_u32]; exact hadd)
          try simp only [Act.put, List.setIfInBounds_toArray, List.set_cons_zero, List.set_cons_succ]
          refine wpAnyH_take (i := 8) (oi := ?oid49) (v := ?vd49) ?hod49 (by kernel_rfl) ?hfd49 ?hrd49 ?hQd49 ?hyd49 hHeld ?restd49
          case hod49 => (simp only [List.getElem?_toArray, List.getElem?_cons_succ, List.getElem?_cons_zero]; exact rfl)
          case hfd49 => kernel_rfl
          case hrd49 => kernel_rfl
          case hQd49 => exact fun _ _ _ h => h
          case hyd49 =>
            refine Or.inl ⟨by rfl, ?_⟩
            intro V hSV
            go_simp
            (try with_reducible rfl)
          try simp only [Act.put, List.setIfInBounds_toArray, List.set_cons_zero, List.set_cons_succ]
          refine wpAnyH_take (i := 9) (oi := ?oid50) (v := ?vd50) ?hod50 (by kernel_rfl) ?hfd50 ?hrd50 ?hQd50 ?hyd50 hHeld ?restd50
          case hod50 => (simp only [List.getElem?_toArray, List.getElem?_cons_succ, List.getElem?_cons_zero]; exact rfl)
          case hfd50 => kernel_rfl
          case hrd50 => kernel_rfl
          case hQd50 => exact fun _ _ _ h => h
          case hyd50 =>
            refine Or.inl ⟨by rfl, ?_⟩
            intro V hSV
            go_simp
            (try with_reducible rfl)
          try simp only [Act.put, List.setIfInBounds_toArray, List.set_cons_zero, List.set_cons_succ]
          refine wpAnyH_take (i := 10) (oi := ?oid51) (v := ?vd51) ?hod51 (by kernel_rfl) ?hfd51 ?hrd51 ?hQd51 ?hyd51 hHeld ?restd51
          case hod51 => (simp only [List.getElem?_toArray, List.getElem?_cons_succ, List.getElem?_cons_zero]; exact rfl)
          case hfd51 => kernel_rfl
          case hrd51 => kernel_rfl
          case hQd51 => exact fun _ _ _ h => h
          case hyd51 =>
            refine Or.inl ⟨by rfl, ?_⟩
            intro V hSV
            go_simp
            (try with_reducible rfl)
          try simp only [Act.put, List.setIfInBounds_toArray, List.set_cons_zero, List.set_cons_succ]
          refine wpAnyH_take (i := 11) (oi := ?oid52) (v := ?vd52) ?hod52 (by kernel_rfl) ?hfd52 ?hrd52 ?hQd52 ?hyd52 hHeld ?restd52
          case hod52 => (simp only [List.getElem?_toArray, List.getElem?_cons_succ, List.getElem?_cons_zero]; exact rfl)
          case hfd52 => kernel_rfl
          case hrd52 => kernel_rfl
          case hQd52 => exact fun _ _ _ h => h
          case hyd52 =>
            refine Or.inl ⟨by rfl, ?_⟩
            intro V hSV
            go_simp
            (try with_reducible rfl)
          try simp only [Act.put, List.setIfInBounds_toArray, List.set_cons_zero, List.set_cons_succ]
          refine wpAnyH_take (i := 12) (oi := ?oid53) (v := ?vd53) ?hod53 (by kernel_rfl) ?hfd53 ?hrd53 ?hQd53 ?hyd53 hHeld ?restd53
          case hod53 => (simp only [List.getElem?_toArray, List.getElem?_cons_succ, List.getElem?_cons_zero]; exact rfl)
          case hfd53 => kernel_rfl
          case hrd53 => kernel_rfl
          case hQd53 => exact fun _ _ _ h => h
          case hyd53 =>
            refine Or.inl ⟨by rfl, ?_⟩
            intro V hSV
            have e1 := (HT.out V hSV).2
            go_simp
            (try with_reducible rfl)
          try simp only [Act.put, List.setIfInBounds_toArray, List.set_cons_zero, List.set_cons_succ]
          refine wpAnyH_take (i := 13) (oi := ?oid54) (v := ?vd54) ?hod54 (by kernel_rfl) ?hfd54 ?hrd54 ?hQd54 ?hyd54 hHeld ?restd54
          case hod54 => (simp only [List.getElem?_toArray, List.getElem?_cons_succ, List.getElem?_cons_zero]; exact rfl)
          case hfd54 => kernel_rfl
          case hrd54 => kernel_rfl
          case hQd54 => exact fun _ _ _ h => h
          case hyd54 =>
            refine Or.inl ⟨by rfl, ?_⟩
            intro V hSV
            go_simp
            (try with_reducible rfl)
          try simp only [Act.put, List.setIfInBounds_toArray, List.set_cons_zero, List.set_cons_succ]
          refine wpAnyH_ready (rs := [14]) (by kernel_rfl) (by simp) ?_
          refine AllReadyH.cons (o := ?od55) ?hod55 (fun K hK => ?kd55) ?md55
          case hod55 => (simp only [List.getElem?_toArray, List.getElem?_cons_succ, List.getElem?_cons_zero]; exact rfl)
          case kd55 =>
            refine anyd_litF (by rfl) (.tmp 113) rfl pm Ay ny cy (by rfl) ?_
            intro Vd55 qd55 hld55 hvd55
            have hfs : Below w4.heap.size w4 (World.drew w4) := belowDrews (Below.refl _ w4) 1
            have HL := Lib.hid hld55
            have hv7 : Below w4.heap.size w4 Vd55 := hfs.trans (hvd55.mono hfs.size)
            have HO7 := Lib.hid (HOF.out.later hv7)
            have HV7 := Lib.hid hv7
            (try dsimp only)
            refine hK.out _ _ ?_ (fun hHeld => ?_)
            · exact Turn.trans hHeld (Turn.ofBelow hvd55)
            clear hK K
            try simp only [Act.put, List.setIfInBounds_toArray, List.set_cons_zero, List.set_cons_succ]
            refine wpAnyH_ready (rs := [15]) (by kernel_rfl) (by simp) ?_
            refine AllReadyH.cons (o := ?od56) ?hod56 (fun K hK => ?kd56) ?md56
            case hod56 => (simp only [List.getElem?_toArray, List.getElem?_cons_succ, List.getElem?_cons_zero]; exact rfl)
            case kd56 =>
              refine anyd_appF (by rfl) (.tmp 100) (.tmp 114) rfl wr.heap.size Af cf i _ (by rfl) HO7.out _ _ 1 1 _ (by rfl) HL.out (by omega) (Nat.le_trans HB4.out.size HV7.out.size) ?_
              intro A8 c8 w8 ho8 ht8
              have HO8 := Lib.hid ho8
              have HB8 := Lib.hid (HB4.out.trans ((HV7.out.mono HB4.out.size).trans (ht8.below (B := wr.heap.size) (fun y _ e => (HO7.out.low y e).1) (Nat.le_trans HB4.out.size HV7.out.size))))
              (try dsimp only)
              refine hK.out _ _ ?_ (fun hHeld => ?_)
              · exact Turn.trans hHeld ht8
              clear hK K
              try simp only [Act.put, List.setIfInBounds_toArray, List.set_cons_zero, List.set_cons_succ]
              refine wpAnyH_take (i := 16) (oi := ?oid57) (v := ?vd57) ?hod57 (by kernel_rfl) ?hfd57 ?hrd57 ?hQd57 ?hyd57 hHeld ?restd57
              case hod57 => (simp only [List.getElem?_toArray, List.getElem?_cons_succ, List.getElem?_cons_zero]; exact rfl)
              case hfd57 => kernel_rfl
              case hrd57 => kernel_rfl
              case hQd57 => exact fun _ _ _ h => h
              case hyd57 =>
                refine Or.inl ⟨by rfl, ?_⟩
                intro V hSV
                go_simp
                (try with_reducible rfl)
              try simp only [Act.put, List.setIfInBounds_toArray, List.set_cons_zero, List.set_cons_succ]
              refine wpAnyH_done (by kernel_rfl) ?_ _
              clear hadd
              repeat (first | go_skip | go_guarded | go_step)
              go_roundw
              case rel => exact ⟨i + 1, A8, c8, by omega, rfl, by go_num, by
                have h := HO8.out
                rw [List.take_add_one, HYI.out, List.map_append]
                rw [HPM.out] at h
                exact h, HB8.out⟩
              case measure => simp [intOf]; omega
            exact AllReadyH.nil
          exact AllReadyH.nil
        · obtain rfl : nf = i := by omega
          have hji : ¬ (nf : Int) < (nf : Int) := by omega
          have HFF := Lib.hid (show Rd w4 w4.heap.size 2 Af nf ((Y.map (movedF mv)).flatMap atC) by
            have h := HOF.out.rd
            rwa [List.take_of_length_le (by rw [HY.out]; exact Nat.le_refl _)] at h)
          have HBW4 := Lib.hid (HBR.out.trans (HB4.out.mono HBR.out.size))
          have HOZ4 := Lib.hid (HOZ.out.later HB4.out)
          obtain ⟨r1, hr1⟩ : ∃ r1 : Int, r1 = ((rightM C).1 : Int) := ⟨_, rfl⟩
          obtain ⟨r2, hr2⟩ : ∃ r2 : Int, r2 = ((rightM C).2 : Int) := ⟨_, rfl⟩
          have HR2 := Lib.hid hr2
          have c1 := OK.out.right A n c Q C w4 ((HC.out.below HBW4.out).more HBW4.out.size) hnc HS.out (by omega)
          rw [← hr1, ← hr2] at c1
          have HSZ := Lib.hid (show Slim (C.map (calledC mv by_)) from fun x hx => by
            obtain ⟨x0, hx0, rfl⟩ := List.mem_map.1 hx
            obtain ⟨q1, q2, q3⟩ := HS.out x0 hx0
            unfold calledC calledA
            refine ⟨by simpa using q1, by simpa using q2, fun y hy => ?_⟩
            obtain ⟨y0, hy0, rfl⟩ := List.mem_map.1 hy
            unfold calledI calledA
            simpa using q3 y0 hy0)
          have hne1 : (r1 != r1) = false := by simp
          have hne2 : (r2 != r2) = false := by simp
          repeat (first | go_skip | go_guarded | go_step)
          refine c1.mono ?_
          rintro e w5 ⟨rfl, hb5⟩
          have HOZ5 := Lib.hid (HOZ4.out.later hb5)
          have HB45 := Lib.hid hb5
          have HBW5 := Lib.hid (HBW4.out.trans (hb5.mono HBW4.out.size))
          have c2' := OK.out.right Ak n ck _ _ w5 (rdCs_of HOZ5.out.own.rd HOZ5.out.rows) HOZ5.out.own.le (by rw [HZF.out]; exact HSZ.out) (by omega)
          rw [HZF.out, rightM_called, ← hr1, ← hr2] at c2'
          clear c1 hb5 hr1 hr2
          dsimp only
          repeat (first | go_skip | go_guarded | go_step)
          refine c2'.mono ?_
          rintro e w6 ⟨rfl, hb6⟩
          have HOZ6 := Lib.hid (HOZ5.out.later hb6)
          have HB46 := Lib.hid (HB45.out.trans (hb6.mono HB45.out.size))
          have HBW6 := Lib.hid (HBW5.out.trans (hb6.mono HBW5.out.size))
          clear c2' hb6
          dsimp only
          by_cases h0 : r2 = 0
          · have hz : (r2 != 0) = false := by simp [h0]
            have HZ := Lib.hid (show (rightM C).2 = 0 by have := HR2.out; omega)
            have HZ2 := Lib.hid (show (rightM (C.map (calledC mv by_))).2 = 0 by rw [rightM_called]; exact HZ.out)
            clear h0
            obtain ⟨a1, ha1⟩ : ∃ a1 : Int, a1 = ((aritM C (Y.map keyR)).1 : Int) := ⟨_, rfl⟩
            obtain ⟨a2, ha2⟩ : ∃ a2 : Int, a2 = ((aritM C (Y.map keyR)).2 : Int) := ⟨_, rfl⟩
            have c3 := OK.out.arities A n c Q C A2 nf c2 Y w6 ((HC.out.below HBW6.out).more HBW6.out.size) (Rd.more (Rd.below HF.out HBW6.out) HBW6.out.size) HY.out hnc HS.out (by omega) (by omega)
            rw [← ha1, ← ha2] at c3
            have he1 : (a1 == a1) = true := by simp
            have he3 : (a2 == a2) = true := by simp
            repeat (first | go_skip | go_guarded | go_step)
            refine c3.mono ?_
            rintro e w7 ⟨-, he, hb7⟩
            have he2 := he HZ.out
            subst he2
            have HOZ7 := Lib.hid (HOZ6.out.later hb7)
            have HB47 := Lib.hid (HB46.out.trans (hb7.mono HB46.out.size))
            have HBW7 := Lib.hid (HBW6.out.trans (hb7.mono HBW6.out.size))
            have c4 := OK.out.arities Ak n ck _ _ Af nf cf (Y.map (movedF mv)) w7 (rdCs_of HOZ7.out.own.rd HOZ7.out.rows) (Rd.more (Rd.below HFF.out HB47.out) HB47.out.size) (by rw [List.length_map]; exact HY.out) HOZ7.out.own.le (by rw [HZF.out]; exact HSZ.out) (by omega) (by omega)
            rw [HZF.out, moved_keys, aritM_called, ← ha1, ← ha2] at c4
            clear c3 hb7 he ha1 ha2
            dsimp only
            repeat (first | go_skip | go_guarded | go_step)
            refine c4.mono ?_
            rintro e w8 ⟨-, he, hb8⟩
            have he2 := he HZ2.out
            subst he2
            have HBW8 := Lib.hid (HBW7.out.trans (hb8.mono HBW7.out.size))
            clear c4 hb8 he
            dsimp only
            repeat (first | go_skip | go_guarded | go_step)
            refine (WK.out _).mono ?_
            rintro e wz ⟨rfl, hbz⟩
            have HBZ := Lib.hid (HBW8.out.trans (hbz.mono HBW8.out.size))
            clear hbz
            dsimp only
            repeat (first | go_skip | go_guarded | go_step)
            go_ret
            exact ⟨rfl, HBZ.out⟩
          · have hz : (r2 != 0) = true := by simp [h0]
            repeat (first | go_skip | go_guarded | go_step)
            refine (WK.out _).mono ?_
            rintro e wz ⟨rfl, hbz⟩
            have HBZ := Lib.hid (HBW6.out.trans (hbz.mono HBW6.out.size))
            clear hbz
            dsimp only
            repeat (first | go_skip | go_guarded | go_step)
            go_ret
            exact ⟨rfl, HBZ.out⟩
end Go.Proofs.Ytggnhgfickkgdaa.safeNames
