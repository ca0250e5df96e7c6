/- Layer 6 (wire), the document's: Big, May and SameRule of rules. -/
import Derived.Test.YtcoafgnbmgndeaaWrJ
import Derived.Test.YtcoafgnbmgndeaaWrI
set_option linter.unusedVariables false
set_option linter.unusedSimpArgs false
namespace Go.Proofs.Ytcoafgnbmgndeaa
open Go Go.RowKit

def bigR (r : Rl) : Bool := decide (100 < r.2.length) || decide (100 < r.1.2.2.2.length) || r.2.any fun x => decide (100 < x.2.2.2.2.length)
instance : DecidableEq Sy := inferInstanceAs (DecidableEq (Bool × Tm × AtL))
instance : DecidableEq Co := inferInstanceAs (DecidableEq (Bool × Sy))
instance : DecidableEq Rl := inferInstanceAs (DecidableEq (Sy × List Co))
theorem box6 (w : World) (cs : List Value) (t : TypeId) : ∃ W, W = w.alloc (.cells cs.toArray t) ∧ Bk W w.heap.size t cs ∧ Below w.heap.size w W := ⟨_, rfl, Bk.new w _ _, (Below.refl _ _).alloc (Nat.le_refl _) _⟩

set_option maxRecDepth 100000 in
set_option maxHeartbeats 4000000 in
theorem rRBig_any (s0 : Bool) (x0 : Tm) (p : UInt32) (A : Option Addr) (n c : Nat) (l : List Tm) (A1 : Option Addr) (n1 c1 : Nat) (R : List SlA) (L : List Co) (w : World) (h : RdT w w.heap.size A n l) (h1 : RdK w w.heap.size A1 n1 R L) :
    Calls Try.prog 25 #[.agg #[.bool s0, .bool x0.1, nv x0.2, nv p, .slice A n c, .slice A1 n1 c1]] w fun e w' => e = .returned (.bool (bigR ((s0, x0, (p, l)), L))) ∧ Below w.heap.size w w' := by
  have HL := Lib.hid (rdT_len h)
  have HL1 := Lib.hid h1.lenL
  obtain ⟨W, hW, hb, hbw⟩ := box6 w [.bool s0, .bool x0.1, nv x0.2, nv p, .slice A n c, .slice A1 n1 c1] 59
  have HW := Lib.hid hW
  have HB := Lib.hid hb
  have HR1 := Lib.hid (h1.below hbw)
  have k4 := hb.read (Below.refl _ _) 4 rfl
  have k5 := hb.read (Below.refl _ _) 5 rfl
  clear hW hb h h1
  by_cases hn : 100 < n1
  · have hd : decide ((100 : Int) < (n1 : Int)) = true := by simp; omega
    have hv : bigR ((s0, x0, (p, l)), L) = true := by unfold bigR; rw [HL1.out, decide_eq_true hn]; rfl
    have HV := Lib.hid hv
    clear hv hn
    go_enter Try.func25, Try.ntmps25
    go_upto_region 1 with (fail)
    rw [← HW.out]
    repeat (first | go_skip | go_guarded | go_step)
    go_ret
    exact ⟨by rw [HV.out]; rfl, hbw⟩
  · have hd : decide ((100 : Int) < (n1 : Int)) = false := by simp; omega
    have hv : bigR ((s0, x0, (p, l)), L) = (decide (100 < n) || L.any fun x => decide (100 < x.2.2.2.2.length)) := by unfold bigR; rw [HL1.out, decide_eq_false hn, HL.out]; simp
    have HV := Lib.hid hv
    clear hv
    go_enter Try.func25, Try.ntmps25
    go_upto_region 1 with (fail)
    rw [← HW.out]
    by_cases hn1 : 100 < n
    · have hd1 : decide ((100 : Int) < (n : Int)) = true := by simp; omega
      have HN1 := Lib.hid (decide_eq_true hn1)
      clear hn1
      repeat (first | go_skip | go_guarded | go_step)
      go_ret
      exact ⟨by rw [HV.out, HN1.out]; rfl, hbw⟩
    · have hd1 : decide ((100 : Int) < (n : Int)) = false := by simp; omega
      have HN1 := Lib.hid (decide_eq_false hn1)
      clear hn1
      repeat (first | go_skip | go_guarded | go_step)
      go_loopw [3] (fun p wr => ∃ i : Nat, i ≤ n1 ∧ p = .int .i64 (i : Int) ∧ (L.take i).all (fun x => !decide (100 < x.2.2.2.2.length)) = true ∧ Below W.heap.size W wr) (fun p _ => n1 - (intOf p).toNat)
      case atStart => exact ⟨0, by omega, rfl, by simp, Below.refl _ _⟩
      case round =>
        obtain ⟨i, hi, rfl, hal, hbr⟩ := hrel
        have i5 := HB.out.read hbr 5 rfl
        have HBR := Lib.hid hbr
        have HAL := Lib.hid hal
        clear hal
        by_cases hlt : i < n1
        · have hci : (i : Int) < (n1 : Int) := by omega
          obtain ⟨b, o, g, s, x, q, l2, Ai, ni, ci, hA, hbb, hx, hc0, hc1, hc2, hc3, hc4, hc5, hrow⟩ := (HR1.out.below (hbr.mono hbw.size)).at_ hlt
          clear hbr
          subst hA
          have HX := Lib.hid hx
          have HLr := Lib.hid (rdT_len hrow)
          clear hx hrow
          by_cases hn2 : 100 < ni
          · have hd2 : decide ((100 : Int) < (ni : Int)) = true := by simp; omega
            have HN2 := Lib.hid hn2
            clear hn2
            repeat (first | go_skip | go_guarded | go_step)
            go_ret
            refine ⟨?_, hbw.trans (HBR.out.mono hbw.size)⟩
            have : (L.any fun x => decide (100 < x.2.2.2.2.length)) = true := by
              rw [List.any_eq_true]
              exact ⟨_, List.mem_of_getElem? HX.out, by have := HLr.out; have := HN2.out; simp; omega⟩
            rw [HV.out, this]
            simp
          · have hd2 : decide ((100 : Int) < (ni : Int)) = false := by simp; omega
            have HN2 := Lib.hid hn2
            clear hn2
            repeat (first | go_skip | go_guarded | go_step)
            go_roundw
            case rel => exact ⟨i + 1, by omega, by go_num, all_upto HX.out HAL.out (by have := HLr.out; have := HN2.out; simp; omega), HBR.out⟩
            case measure => simp [intOf]; omega
        · obtain rfl : i = n1 := by omega
          clear hbr
          repeat (first | go_skip | go_guarded | go_step)
          go_ret
          refine ⟨?_, hbw.trans (HBR.out.mono hbw.size)⟩
          have h := all_whole (by have := HL1.out; omega) HAL.out
          have : (L.any fun x => decide (100 < x.2.2.2.2.length)) = false := by
            rw [List.any_eq_false]
            intro x hx
            have := List.all_eq_true.1 h x hx
            simpa using this
          rw [HV.out, HN1.out, this]
          rfl

set_option maxRecDepth 100000 in
set_option maxHeartbeats 4000000 in
theorem rRMay_any (s0 : Bool) (x0 : Tm) (p : UInt32) (A : Option Addr) (n c : Nat) (l : List Tm) (A1 : Option Addr) (n1 c1 : Nat) (R : List SlA) (L : List Co) (w : World) (h : RdT w w.heap.size A n l) (h1 : RdK w w.heap.size A1 n1 R L) (hn : n ≤ 1000000) (hn1 : n1 ≤ 1000000) (hk : ∀ x ∈ L, x.2.2.2.2.length ≤ 1000000) :
    Calls Try.prog 28 #[.agg #[.bool s0, .bool x0.1, nv x0.2, nv p, .slice A n c, .slice A1 n1 c1]] w fun e w' => e = .returned (.bool (mayR ((s0, x0, (p, l)), L))) ∧ Below w.heap.size w w' := by
  have HL := Lib.hid (rdT_len h)
  have HL1 := Lib.hid h1.lenL
  have HK := Lib.hid hk
  obtain ⟨W, hW, hb, hbw⟩ := box6 w [.bool s0, .bool x0.1, nv x0.2, nv p, .slice A n c, .slice A1 n1 c1] 59
  have HW := Lib.hid hW
  have HB := Lib.hid hb
  have HR := Lib.hid (h.below hbw)
  have HR1 := Lib.hid (h1.below hbw)
  clear hW hb h h1 hk
  go_enter Try.func28, Try.ntmps28
  go_upto_region 1 with (fail)
  rw [← HW.out]
  repeat (first | go_skip | go_guarded | go_step)
  go_loopw [3] (fun p wr => ∃ i : Nat, i ≤ n1 ∧ p = .int .i64 (i : Int) ∧ (L.take i).all (fun x => mayS x.2) = true ∧ Below W.heap.size W wr) (fun p _ => n1 - (intOf p).toNat)
  case atStart => exact ⟨0, by omega, rfl, by simp, Below.refl _ _⟩
  case round =>
    obtain ⟨i, hi, rfl, hal, hbr⟩ := hrel
    have j0 := HB.out.read hbr 0 rfl
    have j1 := HB.out.read hbr 1 rfl
    have j2 := HB.out.read hbr 2 rfl
    have j3 := HB.out.read hbr 3 rfl
    have j4 := HB.out.read hbr 4 rfl
    have j5 := HB.out.read hbr 5 rfl
    have HAL := Lib.hid hal
    clear hal
    by_cases hlt : i < n1
    · have hci : (i : Int) < (n1 : Int) := by omega
      obtain ⟨b, o, g, s, x, q, l2, Ai, ni, ci, hA, hbb, hx, hc0, hc1, hc2, hc3, hc4, hc5, hrow⟩ := (HR1.out.below (hbr.mono hbw.size)).at_ hlt
      subst hA
      have hni : ni ≤ 1000000 := by
        have := HK.out _ (List.mem_of_getElem? hx)
        have := rdT_len hrow
        dsimp only at *
        omega
      have HX := Lib.hid hx
      have HRO := Lib.hid (hrow.more (Nat.le_trans hbw.size hbr.size))
      have HBR := Lib.hid hbr
      clear hx hrow hbr
      repeat (first | go_skip | go_guarded | go_step)
      refine (rMaySay_any s x q Ai ni ci l2 wr HRO.out hni).mono ?_
      rintro e W2 ⟨rfl, hb2⟩
      dsimp only
      have HB2 := Lib.hid hb2
      clear hb2
      cases hm : mayS (s, x, (q, l2)) with
      | false =>
        have HM := Lib.hid hm
        clear hm
        repeat (first | go_skip | go_guarded | go_step)
        go_ret
        refine ⟨?_, hbw.trans ((HBR.out.trans (HB2.out.mono HBR.out.size)).mono hbw.size)⟩
        unfold mayR
        rw [all_at HX.out HM.out]
        rfl
      | true =>
        have HM := Lib.hid hm
        clear hm
        repeat (first | go_skip | go_guarded | go_step)
        go_roundw
        case rel => exact ⟨i + 1, by omega, by go_num, all_upto HX.out HAL.out HM.out, HBR.out.trans (HB2.out.mono HBR.out.size)⟩
        case measure => simp [intOf]; omega
    · obtain rfl : i = n1 := by omega
      have HBR := Lib.hid hbr
      have HRO := Lib.hid ((HR.out.below (hbr.mono hbw.size)).more (Nat.le_trans hbw.size hbr.size))
      clear hbr
      have hv : mayR ((s0, x0, (p, l)), L) = (mayS (s0, x0, (p, l)) && decide (i ≤ 8)) := by
        unfold mayR
        rw [all_whole (by have := HL1.out; omega) HAL.out, HL1.out]
        rfl
      have HV := Lib.hid hv
      clear hv
      repeat (first | go_skip | go_guarded | go_step)
      refine (rMaySay_any s0 x0 p A n c l wr HRO.out hn).mono ?_
      rintro e W2 ⟨rfl, hb2⟩
      dsimp only
      have j5 := HB.out.read (HBR.out.trans (hb2.mono HBR.out.size)) 5 rfl
      have HB2 := Lib.hid hb2
      clear hb2
      cases hm : mayS (s0, x0, (p, l)) with
      | false =>
        have HM := Lib.hid hm
        clear hm
        repeat (first | go_skip | go_guarded | go_step)
        go_ret
        exact ⟨by rw [HV.out, HM.out]; rfl, hbw.trans ((HBR.out.trans (HB2.out.mono HBR.out.size)).mono hbw.size)⟩
      | true =>
        have HM := Lib.hid hm
        clear hm
        repeat (first | go_skip | go_guarded | go_step)
        go_ret
        exact ⟨by rw [HV.out, HM.out]; simp; omega, hbw.trans ((HBR.out.trans (HB2.out.mono HBR.out.size)).mono hbw.size)⟩

set_option maxRecDepth 100000 in
set_option maxHeartbeats 4000000 in
theorem rSameRule_any (s0 : Bool) (x0 : Tm) (p : UInt32) (A : Option Addr) (n c : Nat) (l : List Tm) (A1 : Option Addr) (n1 c1 : Nat) (R : List SlA) (L : List Co) (s0' : Bool) (x0' : Tm) (p' : UInt32) (A' : Option Addr) (n' c' : Nat) (l' : List Tm) (A1' : Option Addr) (n1' c1' : Nat) (R' : List SlA) (L' : List Co) (w : World)
    (h : RdT w w.heap.size A n l) (h1 : RdK w w.heap.size A1 n1 R L) (h' : RdT w w.heap.size A' n' l') (h1' : RdK w w.heap.size A1' n1' R' L') (hn : n ≤ 1000000) (hn1 : n1 ≤ 1000000) (hk : ∀ x ∈ L, x.2.2.2.2.length ≤ 1000000) :
    Calls Try.prog 32 #[.agg #[.bool s0, .bool x0.1, nv x0.2, nv p, .slice A n c, .slice A1 n1 c1], .agg #[.bool s0', .bool x0'.1, nv x0'.2, nv p', .slice A' n' c', .slice A1' n1' c1']] w fun e w' => e = .returned (.bool (decide ((((s0, x0, (p, l)), L) : Rl) = ((s0', x0', (p', l')), L')))) ∧ Below w.heap.size w w' := by
  have HL1 := Lib.hid h1.lenL
  have HL1' := Lib.hid h1'.lenL
  have HK := Lib.hid hk
  obtain ⟨W, hW, hb, hb', hbw⟩ : ∃ W, W = (w.alloc (.cells #[.bool s0, .bool x0.1, nv x0.2, nv p, .slice A n c, .slice A1 n1 c1] 59)).alloc (.cells #[.bool s0', .bool x0'.1, nv x0'.2, nv p', .slice A' n' c', .slice A1' n1' c1'] 59) ∧ Bk W w.heap.size 59 [.bool s0, .bool x0.1, nv x0.2, nv p, .slice A n c, .slice A1 n1 c1] ∧
      Bk W (w.heap.size + 1) 59 [.bool s0', .bool x0'.1, nv x0'.2, nv p', .slice A' n' c', .slice A1' n1' c1'] ∧ Below w.heap.size w W := ⟨_, rfl, (Bk.new w _ _).alloc _, Bk.second w _ _ _, below2 _ _ _⟩
  have HW := Lib.hid hW
  have HB := Lib.hid hb
  have HB' := Lib.hid hb'
  have HR := Lib.hid ((h.below hbw).more hbw.size)
  have HR' := Lib.hid ((h'.below hbw).more hbw.size)
  have HR1 := Lib.hid ((h1.below hbw).more hbw.size)
  have HR1' := Lib.hid ((h1'.below hbw).more hbw.size)
  have k0 := hb.read (Below.refl _ _) 0 rfl
  have k1 := hb.read (Below.refl _ _) 1 rfl
  have k2 := hb.read (Below.refl _ _) 2 rfl
  have k3 := hb.read (Below.refl _ _) 3 rfl
  have k4 := hb.read (Below.refl _ _) 4 rfl
  have k0' := hb'.read (Below.refl _ _) 0 rfl
  have k1' := hb'.read (Below.refl _ _) 1 rfl
  have k2' := hb'.read (Below.refl _ _) 2 rfl
  have k3' := hb'.read (Below.refl _ _) 3 rfl
  have k4' := hb'.read (Below.refl _ _) 4 rfl
  clear hW hb hb' h h' h1 h1' hk
  go_enter Try.func32, Try.ntmps32
  go_upto_region 1 with (fail)
  rw [← HW.out]
  repeat (first | go_skip | go_guarded | go_step)
  refine (rSameSay_any s0 s0' x0 x0' p p' A A' n c n' c' l l' W HR.out HR'.out hn).mono ?_
  rintro e W1 ⟨rfl, hb1⟩
  dsimp only
  have j2 := HB.out.read hb1 5 rfl
  have j2' := HB'.out.read hb1 5 rfl
  have HB1 := Lib.hid hb1
  clear hb1 k0 k1 k2 k3 k4 k0' k1' k2' k3' k4'
  by_cases hh : ((s0, x0, (p, l)) : Sy) = (s0', x0', (p', l'))
  · rw [decide_eq_true hh]
    have HH := Lib.hid hh
    clear hh
    by_cases hnn : n1 = n1'
    · subst hnn
      have hd : ((n1 : Int) != (n1 : Int)) = false := by simp
      repeat (first | go_skip | go_guarded | go_step)
      go_loopw [5] (fun p wr => ∃ i : Nat, i ≤ n1 ∧ p = .int .i64 (i : Int) ∧ L.take i = L'.take i ∧ Below W.heap.size W wr) (fun p _ => n1 - (intOf p).toNat)
      case atStart => exact ⟨0, by omega, rfl, by simp, HB1.out⟩
      case round =>
        obtain ⟨i, hi, rfl, htk, hbr⟩ := hrel
        clear j2 j2'
        have i2 := HB.out.read hbr 5 rfl
        have i2' := HB'.out.read hbr 5 rfl
        have HTK := Lib.hid htk
        clear htk
        by_cases hlt : i < n1
        · have hci : (i : Int) < (n1 : Int) := by omega
          obtain ⟨b, o, g, s, x, q, l2, Ai, ni, ci, hA, hbb, hx, hc0, hc1, hc2, hc3, hc4, hc5, hrow⟩ := (HR1.out.below hbr).at_ hlt
          obtain ⟨b', o', g', s', x', q', l2', Ai', ni', ci', hA', hbb', hx', hc0', hc1', hc2', hc3', hc4', hc5', hrow'⟩ := (HR1'.out.below hbr).at_ hlt
          subst hA hA'
          have hni : ni ≤ 1000000 := by
            have := HK.out _ (List.mem_of_getElem? hx)
            have := rdT_len hrow
            dsimp only at *
            omega
          have HX := Lib.hid hx
          have HX' := Lib.hid hx'
          have HRO := Lib.hid (hrow.more hbr.size)
          have HRO' := Lib.hid (hrow'.more hbr.size)
          have HBR := Lib.hid hbr
          clear hx hx' hrow hrow' hbr
          by_cases hg : g = g'
          · subst hg
            have hgg : (g != g) = false := by simp
            repeat (first | go_skip | go_guarded | go_step)
            go_still_tail 26, (by kernel_rfl)
            change wpList _ _ _ _ _ wr.drew
            have hdr : Below W.heap.size W wr.drew := belowDrewQ HBR.out 1
            have HDR := Lib.hid hdr
            clear hdr
            repeat (first | go_skip | go_guarded | go_step)
            refine (rSameSay_any s s' x x' q q' Ai Ai' ni ci ni' ci' l2 l2' wr.drew (HRO.out.below (belowDrewQ (Below.refl _ wr) 1)) (HRO'.out.below (belowDrewQ (Below.refl _ wr) 1)) hni).mono ?_
            rintro e W2 ⟨rfl, hb2⟩
            dsimp only
            have HB2 := Lib.hid (show Below W.heap.size W W2 from HDR.out.trans (hb2.mono HDR.out.size))
            clear hb2
            by_cases he : ((s, x, (q, l2)) : Sy) = (s', x', (q', l2'))
            · rw [decide_eq_true he]
              have HE := Lib.hid he
              clear he
              repeat (first | go_skip | go_guarded | go_step)
              go_roundw
              case rel => exact ⟨i + 1, by omega, by go_num, take_eq HX.out HX'.out HTK.out (by rw [HE.out]), HB2.out⟩
              case measure => simp [intOf]; omega
            · rw [decide_eq_false he]
              have HE := Lib.hid he
              clear he
              repeat (first | go_skip | go_guarded | go_step)
              go_ret
              refine ⟨?_, hbw.trans (HB2.out.mono hbw.size)⟩
              have hne := ne_at HX.out HX'.out (fun e => HE.out (Prod.mk.inj e).2)
              simp [hne]
          · have hne := ne_at HX.out HX'.out (fun e => hg (Prod.mk.inj e).1)
            have HNE := Lib.hid hne
            clear hne
            cases g <;> cases g'
            · exact absurd rfl hg
            · repeat (first | go_skip | go_guarded | go_step)
              go_quiet (fail)
              repeat (first | go_skip | go_guarded | go_step)
              go_ret
              exact ⟨by simp [HNE.out], hbw.trans ((belowDrewQ HBR.out _).mono hbw.size)⟩
            · repeat (first | go_skip | go_guarded | go_step)
              go_quiet (fail)
              repeat (first | go_skip | go_guarded | go_step)
              go_ret
              exact ⟨by simp [HNE.out], hbw.trans ((belowDrewQ HBR.out _).mono hbw.size)⟩
            · exact absurd rfl hg
        · obtain rfl : i = n1 := by omega
          have HBR := Lib.hid hbr
          clear hbr
          repeat (first | go_skip | go_guarded | go_step)
          go_ret
          have he := all_eq HL1.out HL1'.out HTK.out
          exact ⟨by simp [HH.out, he], hbw.trans (HBR.out.mono hbw.size)⟩
    · have hd : ((n1 : Int) != (n1' : Int)) = true := by simp; omega
      have hne : L ≠ L' := fun e => hnn (by rw [← HL1.out, ← HL1'.out, e])
      have HNE := Lib.hid hne
      clear hne hnn
      repeat (first | go_skip | go_guarded | go_step)
      go_ret
      exact ⟨by simp [HNE.out], hbw.trans (HB1.out.mono hbw.size)⟩
  · rw [decide_eq_false hh]
    have HH := Lib.hid hh
    clear hh
    repeat (first | go_skip | go_guarded | go_step)
    go_ret
    have hne : ¬ ((((s0, x0, (p, l)), L) : Rl) = ((s0', x0', (p', l')), L')) := fun e => HH.out (Prod.mk.inj e).1
    exact ⟨by rw [decide_eq_false hne] <;> first | rfl | simp, hbw.trans (HB1.out.mono hbw.size)⟩
end Go.Proofs.Ytcoafgnbmgndeaa
