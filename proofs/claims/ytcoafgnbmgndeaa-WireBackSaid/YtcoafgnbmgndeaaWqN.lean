/- Layer 6 (wire), the program's: which says and rules may be. -/
import Derived.Test.YtcoafgnbmgndeaaWqM
set_option linter.unusedVariables false
set_option linter.unusedSimpArgs false
namespace Go.Proofs.Ytcoafgnbmgndeaa
open Go Go.RowKit

set_option maxRecDepth 100000 in
set_option maxHeartbeats 4000000 in
theorem waMay_any (p : UInt32) (A : Option Addr) (n c : Nat) (l : List Tm) (w : World) (h : RdT w w.heap.size A n l) (hn : n ≤ 1000000) :
    Calls Try.prog 85 #[.agg #[nv p, .slice A n c]] w fun e w' => e = .returned (.bool (mayA (p, l))) ∧ Below w.heap.size w w' := by
  have HR := Lib.hid h
  have HM := Lib.hid (show mayC ((p, l), []) = mayA (p, l) by simp [mayC])
  clear h
  go_enter Try.func85, Try.ntmps85
  repeat (first | go_skip | go_guarded | go_step)
  refine (cMay_any p A n c l none 0 0 [] [] _ ((HR.out.below ((Below.refl _ _).alloc (Nat.le_refl _) _)).more (by simp)) (RdL.nil _ _) hn (by omega) (by simp)).mono ?_
  rintro e W2 ⟨rfl, hb2⟩
  have HB2 := Lib.hid (belowStep (Below.refl _ _) (Nat.le_refl _) hb2)
  clear hb2
  rw [HM.out]
  dsimp only
  repeat (first | go_skip | go_guarded | go_step)
  go_ret
  exact ⟨rfl, HB2.out⟩

set_option maxRecDepth 100000 in
set_option maxHeartbeats 4000000 in
theorem wtMay_any (x : Tm) (w : World) :
    Calls Try.prog 84 #[.agg #[.bool x.1, nv x.2]] w fun e w' => e = .returned (.bool (!x.1 || decide (x.2.toNat < 16))) ∧ Below w.heap.size w w' := by
  have HM := Lib.hid (show mayA (0, [x]) = (!x.1 || decide (x.2.toNat < 16)) by simp [mayA])
  have hl : ∀ W : World, _ := fun W => run_litW1 x W
  go_enter Try.func84, Try.ntmps84
  repeat (first | go_skip | go_guarded | go_step)
  have hr := litW_rd (w.alloc (.cells #[.bool x.1, nv x.2] 54)) [x] 1 rfl
  rw [World.size_alloc] at hr
  have hc : Calls Try.prog 85 #[.agg #[.int .u32 0, .slice (some ⟨w.heap.size + 1, 0, none⟩) 1 1]] ((w.alloc (.cells #[.bool x.1, nv x.2] 54)).alloc (.cells #[.bool x.1, nv x.2] 54)) _ := waMay_any 0 _ 1 1 [x] _ (hr.more (by simp)) (by omega)
  refine hc.mono ?_
  rintro e W2 ⟨rfl, hb2⟩
  have HB2 := Lib.hid (belowStep ((Below.refl w.heap.size w).alloc (Nat.le_refl _) _) (by simp) hb2)
  clear hb2
  rw [HM.out]
  dsimp only
  repeat (first | go_skip | go_guarded | go_step)
  go_ret
  exact ⟨rfl, HB2.out⟩

set_option maxRecDepth 100000 in
set_option maxHeartbeats 4000000 in
theorem sMay_any (b : Bool) (x : Tm) (p : UInt32) (A : Option Addr) (n c : Nat) (l : List Tm) (w : World) (h : RdT w w.heap.size A n l) (hn : n ≤ 1000000) :
    Calls Try.prog 56 #[.agg #[.bool b, .bool x.1, nv x.2, nv p, .slice A n c]] w fun e w' => e = .returned (.bool (mayS (b, x, (p, l)))) ∧ Below w.heap.size w w' := by
  obtain ⟨U, hU, hH, hbU⟩ : ∃ U, U = w.alloc (.cells #[.bool b, .bool x.1, nv x.2, nv p, .slice A n c] 56) ∧ Bk U w.heap.size 56 [.bool b, .bool x.1, nv x.2, nv p, .slice A n c] ∧ Below w.heap.size w U :=
    ⟨_, rfl, Bk.new w _ _, (Below.refl _ _).alloc (Nat.le_refl _) _⟩
  have HU := Lib.hid hU
  have HB := Lib.hid hbU
  have HR := Lib.hid (h.below hbU)
  have HH := Lib.hid hH
  have k0 := hH.readT (Below.refl _ _) 0 rfl
  have k1 := hH.readT (Below.refl _ _) 1 rfl
  have k2 := hH.readT (Below.refl _ _) 2 rfl
  clear hU hH hbU h
  go_enter Try.func56, Try.ntmps56
  go_upto_region 1 with (fail)
  rw [← HU.out]
  clear HU
  generalize hhb : w.heap.size = hb at HR HB HH k0 k1 k2 ⊢
  rw [← hhb] at HB HR
  obtain ⟨v, y⟩ := x
  dsimp only at k1 k2 HH
  have hy := n32_lt y
  cases b with
  | true =>
    repeat (first | go_skip | go_guarded | go_step)
    refine (wtMay_any (v, y) U).mono ?_
    rintro e W1 ⟨rfl, hb1⟩
    have HB1 := Lib.hid (HB.out.trans (hb1.mono HB.out.size))
    have hs1 : w.heap.size ≤ W1.heap.size := Nat.le_trans HB.out.size hb1.size
    have HR1 := Lib.hid ((HR.out.below (hb1.mono HB.out.size)).more hs1)
    have k3 := HH.out.readT hb1 3 rfl
    have k4 := HH.out.readT hb1 4 rfl
    clear hb1 k0 k1 k2
    dsimp only
    generalize hm : (!v || decide (y.toNat < 16)) = m
    cases m with
    | false =>
      repeat (first | go_skip | go_guarded | go_step)
      go_ret
      exact ⟨by unfold mayS; dsimp only; rw [hm]; simp, HB1.out⟩
    | true =>
      have HM := Lib.hid (show mayS (true, (v, y), (p, l)) = mayA (p, l) by unfold mayS; dsimp only; rw [hm]; simp )
      clear hm
      repeat (first | go_skip | go_guarded | go_step)
      refine (waMay_any p A n c l W1 HR1.out hn).mono ?_
      rintro e W2 ⟨rfl, hb2⟩
      have HB2 := Lib.hid (HB1.out.trans (hb2.mono hs1))
      clear hb2
      dsimp only
      repeat (first | go_skip | go_guarded | go_step)
      go_ret
      exact ⟨by rw [HM.out]; rfl, HB2.out⟩
  | false =>
    have heq : (Op.equalIn 10000 54 (.agg #[.bool v, nv y]) (.agg #[.bool false, .int .u32 0])).run Try.prog U = .ok (decide (((v, y) : Tm) = (false, 0))) U := by
      have h := run_eqT (v, y) (false, 0) U
      exact h
    by_cases he : (v, y) = ((false, 0) : Tm)
    · have de : decide (((v, y) : Tm) = (false, 0)) = true := decide_eq_true he
      rw [de] at heq
      have hv : v = false := congrArg Prod.fst he
      have hy0 : y = 0 := congrArg Prod.snd he
      subst hv hy0
      clear he
      repeat (first | go_skip | go_guarded | go_step)
      refine (wtMay_any (false, 0) U).mono ?_
      rintro e W1 ⟨rfl, hb1⟩
      have HB1 := Lib.hid (HB.out.trans (hb1.mono HB.out.size))
      have hs1 : w.heap.size ≤ W1.heap.size := Nat.le_trans HB.out.size hb1.size
      have HR1 := Lib.hid ((HR.out.below (hb1.mono HB.out.size)).more hs1)
      have k3 := HH.out.readT hb1 3 rfl
      have k4 := HH.out.readT hb1 4 rfl
      clear hb1 k0 k1 k2
      dsimp only
      generalize hm : (!(false, (0 : UInt32)).1 || decide ((false, (0 : UInt32)).2.toNat < 16)) = m
      cases m with
      | false =>
        repeat (first | go_skip | go_guarded | go_step)
        go_ret
        exact ⟨by unfold mayS; dsimp only; rw [hm]; simp, HB1.out⟩
      | true =>
        have HM := Lib.hid (show mayS (false, (false, 0), (p, l)) = mayA (p, l) by unfold mayS; dsimp only; rw [hm]; simp )
        clear hm
        repeat (first | go_skip | go_guarded | go_step)
        refine (waMay_any p A n c l W1 HR1.out hn).mono ?_
        rintro e W2 ⟨rfl, hb2⟩
        have HB2 := Lib.hid (HB1.out.trans (hb2.mono hs1))
        clear hb2
        dsimp only
        repeat (first | go_skip | go_guarded | go_step)
        go_ret
        exact ⟨by rw [HM.out]; rfl, HB2.out⟩
    · have de : decide (((v, y) : Tm) = (false, 0)) = false := decide_eq_false he
      rw [de] at heq
      have HM := Lib.hid (show mayS (false, (v, y), (p, l)) = false by unfold mayS; dsimp only; rw [de]; rfl)
      have HNE := Lib.hid (fun (hv : v = false) => show ((y.toNat : Int) == 0) = false from by
        rw [beq_eq_false_iff_ne]
        intro h
        exact he (by rw [hv, UInt32.toNat_inj.1 (show y.toNat = (0 : UInt32).toNat by simp; omega)]))
      clear he de
      cases v with
      | true =>
        repeat (first | go_skip | go_guarded | go_step)
        go_ret
        exact ⟨by rw [HM.out]; rfl, HB.out⟩
      | false =>
        have hyy : ((y.toNat : Int) == 0) = false := HNE.out rfl
        repeat (first | go_skip | go_guarded | go_step)
        go_ret
        exact ⟨by rw [HM.out]; rfl, HB.out⟩

set_option maxRecDepth 100000 in
set_option maxHeartbeats 4000000 in
theorem rulMay_any (s0 : Bool) (x0 : Tm) (p : UInt32) (A : Option Addr) (n c : Nat) (l : List Tm) (A1 : Option Addr) (n1 c1 : Nat) (R : List SlA) (L : List Co) (w : World) (h : RdT w w.heap.size A n l) (h1 : RdK w w.heap.size A1 n1 R L)
    (hn : n ≤ 1000000) (hn1 : n1 ≤ 1000000) (hk : ∀ x ∈ L, x.2.2.2.2.length ≤ 1000000) :
    Calls Try.prog 27 #[.agg #[.bool s0, .bool x0.1, nv x0.2, nv p, .slice A n c, .slice A1 n1 c1]] w fun e w' => e = .returned (.bool (mayR ((s0, x0, (p, l)), L))) ∧ Below w.heap.size w w' := by
  have HL := Lib.hid (rdT_len h)
  have HL1 := Lib.hid h1.lenL
  have HK := Lib.hid hk
  obtain ⟨W, hW, hb, hbw⟩ : ∃ W, W = w.alloc (.cells #[.bool s0, .bool x0.1, nv x0.2, nv p, .slice A n c, .slice A1 n1 c1] 59) ∧ Bk W w.heap.size 59 [.bool s0, .bool x0.1, nv x0.2, nv p, .slice A n c, .slice A1 n1 c1] ∧ Below w.heap.size w W := ⟨_, rfl, Bk.new w _ _, (Below.refl _ _).alloc (Nat.le_refl _) _⟩
  have HR := Lib.hid (h.below hbw)
  have HR1 := Lib.hid (h1.below hbw)
  have HW := Lib.hid hW
  have HB := Lib.hid hbw
  have HH := Lib.hid hb
  have k0 := hb.readT (Below.refl _ _) 0 rfl
  have k1 := hb.readT (Below.refl _ _) 1 rfl
  have k2 := hb.readT (Below.refl _ _) 2 rfl
  have k3 := hb.readT (Below.refl _ _) 3 rfl
  have k4 := hb.readT (Below.refl _ _) 4 rfl
  have k5 := hb.readT (Below.refl _ _) 5 rfl
  clear h h1 hk hW hb hbw
  go_enter Try.func27, Try.ntmps27
  go_upto_region 1 with (fail)
  rw [← HW.out]
  clear HW
  generalize hhb : w.heap.size = hb at HR HR1 HB HH k0 k1 k2 k3 k4 k5 ⊢
  have hs0 : hb ≤ W.heap.size := by rw [← hhb]; exact (show Below w.heap.size w W by rw [hhb]; exact HB.out).size
  by_cases h8 : n1 ≤ 8
  · have d8 : decide ((8 : Int) < (n1 : Int)) = false := by simp; omega
    repeat (first | go_skip | go_guarded | go_step)
    refine (sMay_any s0 x0 p A n c l W (HR.out.more hs0) hn).mono ?_
    rintro e W1 ⟨rfl, hb1⟩
    have HB1 := Lib.hid (HB.out.trans (hb1.mono hs0))
    have hs1 : hb ≤ W1.heap.size := Nat.le_trans hs0 hb1.size
    have HRL := Lib.hid (HR1.out.below (hb1.mono hs0))
    have k5 := HH.out.readT hb1 5 rfl
    have HMH := Lib.hid (show mayS (s0, x0, (p, l)) = mayS (s0, x0, (p, l)) from rfl)
    clear hb1 k0 k1 k2 k3 k4
    dsimp only
    generalize hm0 : mayS (s0, x0, (p, l)) = m0
    clear HMH
    cases m0 with
    | false =>
      repeat (first | go_skip | go_guarded | go_step)
      go_ret
      exact ⟨by unfold mayR; dsimp only; rw [hm0]; simp, by rw [hhb]; exact HB1.out⟩
    | true =>
      have HM0 := Lib.hid hm0
      clear hm0
      repeat (first | go_skip | go_guarded | go_step)
      go_loopw [18] (fun p wr => ∃ i : Nat, i ≤ n1 ∧ p = .int .i64 (i : Int) ∧ (L.take i).all (fun x => mayS x.2) = true ∧ Below W1.heap.size W1 wr) (fun p _ => n1 - (intOf p).toNat)
      case atStart => exact ⟨0, by omega, rfl, by simp, Below.refl _ _⟩
      case round =>
        obtain ⟨i, hi, rfl, hal, hbr⟩ := hrel
        have HAL := Lib.hid hal
        have HBR := Lib.hid hbr
        have hsr := hbr.size
        clear hal hbr
        by_cases hlt : i < n1
        · have hci : (i : Int) < (n1 : Int) := by omega
          obtain ⟨b, o, g, s, x, q, l2, Ai, ni, ci, hA, hbb, hx, hc0, hc1, hc2, hc3, hc4, hc5, hrow⟩ := (HRL.out.below (HBR.out.mono hs1)).at_ hlt
          subst hA
          have hni : ni ≤ 1000000 := by
            have := HK.out _ (List.mem_of_getElem? hx)
            have := rdT_len hrow
            dsimp only at *
            omega
          have HX := Lib.hid hx
          have HRO := Lib.hid hrow
          clear hx hrow k5
          repeat (first | go_skip | go_guarded | go_step)
          refine (sMay_any s x q Ai ni ci l2 _ ((HRO.out.below ((Below.refl _ _).alloc (by omega) _)).more (by simp; omega)) hni).mono ?_
          rintro e W2 ⟨rfl, hb2⟩
          have HB2 := Lib.hid (belowStep HBR.out hsr hb2)
          clear hb2 hc0 hc1 hc2 hc3 hc4 hc5
          dsimp only
          generalize hm : mayS (s, x, (q, l2)) = m
          cases m with
          | false =>
            repeat (first | go_skip | go_guarded | go_step)
            go_ret
            exact ⟨by unfold mayR; rw [all_at HX.out hm]; rfl, by rw [hhb]; exact HB1.out.trans (HB2.out.mono hs1)⟩
          | true =>
            have HM := Lib.hid hm
            clear hm
            repeat (first | go_skip | go_guarded | go_step)
            go_roundw
            case rel => exact ⟨i + 1, by omega, by go_num, all_upto HX.out HAL.out HM.out, HB2.out⟩
            case measure => simp [intOf] <;> omega
        · obtain rfl : i = n1 := by omega
          repeat (first | go_skip | go_guarded | go_step)
          go_ret
          exact ⟨by unfold mayR; rw [all_whole (by have := HL1.out; omega) HAL.out, HL1.out, HM0.out]; simp [h8], by rw [hhb]; exact HB1.out.trans (HBR.out.mono hs1)⟩
  · have d8 : decide ((8 : Int) < (n1 : Int)) = true := by simp; omega
    repeat (first | go_skip | go_guarded | go_step)
    go_ret
    exact ⟨by unfold mayR; rw [HL1.out]; simp; intros; omega, by rw [hhb]; exact HB.out⟩
end Go.Proofs.Ytcoafgnbmgndeaa
