/- Layer 11 (safe), the landed program: atoms.May. (Picked from PcM.) -/
import Derived.Test.YtggnhgfickkgdaaSaI
set_option linter.unusedVariables false
set_option linter.unusedSimpArgs false
namespace Go.Proofs.Ytggnhgfickkgdaa
open Go Go.RowKit

theorem belowStep {B : Nat} {w wr W2 : World} {o : Obj} (h : Below B w wr) (hB : B ≤ wr.heap.size) (h2 : Below (wr.alloc o).heap.size (wr.alloc o) W2) : Below B w W2 :=
  (h.alloc hB o).trans (h2.mono (by simp; omega))
set_option maxRecDepth 100000 in
set_option maxHeartbeats 4000000 in
theorem tMay_any (v : Bool) (x : UInt32) (w : World) :
    Calls Try.prog 35 #[.agg #[.bool v, nv x]] w fun e w' => e = .returned (.bool (!v || decide (x.toNat < 16))) ∧ Below w.heap.size w w' := by
  cases v with
  | false =>
    go_enter Try.func35, Try.ntmps35
    repeat (first | go_skip | go_guarded | go_step)
    go_ret
    exact ⟨rfl, (Below.refl _ _).alloc (Nat.le_refl _) _⟩
  | true =>
    by_cases h16 : x.toNat < 16
    · have d16 : decide ((x.toNat : Int) < 16) = true := by simp; omega
      have HM := Lib.hid (show decide (x.toNat < 16) = true by simp [h16])
      clear h16
      go_enter Try.func35, Try.ntmps35
      repeat (first | go_skip | go_guarded | go_step)
      go_ret
      exact ⟨by rw [HM.out]; rfl, (Below.refl _ _).alloc (Nat.le_refl _) _⟩
    · have d16 : decide ((x.toNat : Int) < 16) = false := by simp; omega
      have HM := Lib.hid (show decide (x.toNat < 16) = false by simp; omega)
      clear h16
      go_enter Try.func35, Try.ntmps35
      repeat (first | go_skip | go_guarded | go_step)
      go_ret
      exact ⟨by rw [HM.out]; rfl, (Below.refl _ _).alloc (Nat.le_refl _) _⟩
set_option maxRecDepth 100000 in
set_option maxHeartbeats 4000000 in
theorem aMay_any (p : UInt32) (A : Option Addr) (n c : Nat) (l : List Tm) (w : World) (h : RdT w w.heap.size A n l) (hn : n ≤ 1000000) :
    Calls Try.prog 31 #[.agg #[nv p, .slice A n c]] w fun e w' => e = .returned (.bool (mayA (p, l))) ∧ Below w.heap.size w w' := by
  have HL := Lib.hid (rdT_len h)
  obtain ⟨W, hW, hb, hbw⟩ : ∃ W, W = w.alloc (.cells #[nv p, .slice A n c] 33) ∧ Bk W w.heap.size 33 [nv p, .slice A n c] ∧ Below w.heap.size w W := ⟨_, rfl, Bk.new w _ _, (Below.refl _ _).alloc (Nat.le_refl _) _⟩
  have HR := Lib.hid (h.below hbw)
  have HW := Lib.hid hW
  have HB := Lib.hid hbw
  have c1 := hb.read (Below.refl _ _) 1 rfl
  clear h hW hb hbw
  go_enter Try.func31, Try.ntmps31
  go_upto_region 1 with (fail)
  rw [← HW.out]
  clear HW
  generalize hhb : w.heap.size = hb at HR HB c1 ⊢
  have hs0 : hb ≤ W.heap.size := by rw [← hhb]; exact (show Below w.heap.size w W by rw [hhb]; exact HB.out).size
  by_cases h6 : n ≤ 6
  · have d6 : decide ((6 : Int) < (n : Int)) = false := by simp; omega
    repeat (first | go_skip | go_guarded | go_step)
    go_loopw [12] (fun p wr => ∃ i : Nat, i ≤ n ∧ p = .int .i64 (i : Int) ∧ (l.take i).all (fun t => !t.1 || decide (t.2.toNat < 16)) = true ∧ Below W.heap.size W wr) (fun p _ => n - (intOf p).toNat)
    case atStart => exact ⟨0, by omega, rfl, by simp, Below.refl _ _⟩
    case round =>
      obtain ⟨i, hi, rfl, hal, hbr⟩ := hrel
      have HAL := Lib.hid hal
      have HBR := Lib.hid hbr
      have hsr := hbr.size
      clear hal hbr
      by_cases hlt : i < n
      · have hci : (i : Int) < (n : Int) := by omega
        obtain ⟨b, o, ⟨v, x⟩, hA, hbb, ht, hc0, hc1⟩ := rdT_at (HR.out.below (HBR.out.mono hs0)) hlt
        subst hA
        dsimp only at hc0 hc1
        have HT := Lib.hid ht
        clear ht c1
        repeat (first | go_skip | go_guarded | go_step)
        refine (tMay_any v x _).mono ?_
        rintro e W2 ⟨rfl, hb2⟩
        have HB2 := Lib.hid (belowStep HBR.out hsr hb2)
        clear hb2 hc0 hc1
        dsimp only
        generalize hm : (!v || decide (x.toNat < 16)) = m
        cases m with
        | false =>
          repeat (first | go_skip | go_guarded | go_step)
          go_ret
          exact ⟨by unfold mayA; rw [all_at HT.out hm]; rfl, by rw [hhb]; exact HB.out.trans (HB2.out.mono hs0)⟩
        | true =>
          have HM := Lib.hid hm
          clear hm
          repeat (first | go_skip | go_guarded | go_step)
          go_roundw
          case rel => exact ⟨i + 1, by omega, by go_num, all_upto HT.out HAL.out HM.out, HB2.out⟩
          case measure => simp [intOf] <;> omega
      · obtain rfl : i = n := by omega
        repeat (first | go_skip | go_guarded | go_step)
        go_ret
        exact ⟨by unfold mayA; rw [all_whole (by have := HL.out; omega) HAL.out, HL.out]; simp [h6], by rw [hhb]; exact HB.out.trans (HBR.out.mono hs0)⟩
  · have d6 : decide ((6 : Int) < (n : Int)) = true := by simp; omega
    repeat (first | go_skip | go_guarded | go_step)
    go_ret
    exact ⟨by unfold mayA; rw [HL.out]; simp; intros; omega, by rw [hhb]; exact HB.out⟩
set_option maxRecDepth 100000 in
set_option maxHeartbeats 4000000 in
theorem cMay_any (p : UInt32) (A : Option Addr) (n c : Nat) (l : List Tm) (A1 : Option Addr) (n1 c1 : Nat) (R : List SlA) (L : List Li) (w : World) (h : RdT w w.heap.size A n l) (h1 : RdL w w.heap.size A1 n1 R L)
    (hn : n ≤ 1000000) (hn1 : n1 ≤ 1000000) (hk : ∀ x ∈ L, x.2.2.length ≤ 1000000) :
    Calls Try.prog 26 #[.agg #[nv p, .slice A n c, .slice A1 n1 c1]] w fun e w' => e = .returned (.bool (mayC ((p, l), L))) ∧ Below w.heap.size w w' := by
  have HL := Lib.hid (rdT_len h)
  have HL1 := Lib.hid h1.lenL
  have HK := Lib.hid hk
  obtain ⟨W, hW, hb, hbw⟩ : ∃ W, W = w.alloc (.cells #[nv p, .slice A n c, .slice A1 n1 c1] 36) ∧ Bk W w.heap.size 36 [nv p, .slice A n c, .slice A1 n1 c1] ∧ Below w.heap.size w W := ⟨_, rfl, Bk.new w _ _, (Below.refl _ _).alloc (Nat.le_refl _) _⟩
  have HR := Lib.hid (h.below hbw)
  have HR1 := Lib.hid (h1.below hbw)
  have HW := Lib.hid hW
  have HB := Lib.hid hbw
  have HH := Lib.hid hb
  have k0 := hb.read (Below.refl _ _) 0 rfl
  have k1 := hb.read (Below.refl _ _) 1 rfl
  have k2 := hb.read (Below.refl _ _) 2 rfl
  clear h h1 hk hW hb hbw
  go_enter Try.func26, Try.ntmps26
  go_upto_region 1 with (fail)
  rw [← HW.out]
  clear HW
  generalize hhb : w.heap.size = hb at HR HR1 HB HH k0 k1 k2 ⊢
  have hs0 : hb ≤ W.heap.size := by rw [← hhb]; exact (show Below w.heap.size w W by rw [hhb]; exact HB.out).size
  by_cases h8 : n1 ≤ 8
  · have d8 : decide ((8 : Int) < (n1 : Int)) = false := by simp; omega
    repeat (first | go_skip | go_guarded | go_step)
    refine (aMay_any p A n c l W (HR.out.more hs0) hn).mono ?_
    rintro e W1 ⟨rfl, hb1⟩
    have HB1 := Lib.hid (HB.out.trans (hb1.mono hs0))
    have hs1 : hb ≤ W1.heap.size := Nat.le_trans hs0 hb1.size
    have HRL := Lib.hid (HR1.out.below (hb1.mono hs0))
    have k2 := HH.out.read hb1 2 rfl
    have HMH := Lib.hid (show mayA (p, l) = mayA (p, l) from rfl)
    clear hb1 k0 k1
    dsimp only
    generalize hm0 : mayA (p, l) = m0
    clear HMH
    cases m0 with
    | false =>
      repeat (first | go_skip | go_guarded | go_step)
      go_ret
      exact ⟨by unfold mayC; dsimp only; rw [hm0]; simp, by rw [hhb]; exact HB1.out⟩
    | true =>
      have HM0 := Lib.hid hm0
      clear hm0
      repeat (first | go_skip | go_guarded | go_step)
      go_loopw [18] (fun p wr => ∃ i : Nat, i ≤ n1 ∧ p = .int .i64 (i : Int) ∧ (L.take i).all (fun x => mayA x.2) = true ∧ Below W1.heap.size W1 wr) (fun p _ => n1 - (intOf p).toNat)
      case atStart => exact ⟨0, by omega, rfl, by simp, Below.refl _ _⟩
      case round =>
        obtain ⟨i, hi, rfl, hal, hbr⟩ := hrel
        have HAL := Lib.hid hal
        have HBR := Lib.hid hbr
        have hsr := hbr.size
        clear hal hbr
        by_cases hlt : i < n1
        · have hci : (i : Int) < (n1 : Int) := by omega
          obtain ⟨b, o, g, q, l2, Ai, ni, ci, hA, hbb, hx, hc0, hc1, hc2, hrow⟩ := (HRL.out.below (HBR.out.mono hs1)).at_ hlt
          subst hA
          have hni : ni ≤ 1000000 := by
            have := HK.out _ (List.mem_of_getElem? hx)
            have := rdT_len hrow
            dsimp only at *
            omega
          have HX := Lib.hid hx
          have HRO := Lib.hid hrow
          clear hx hrow k2
          repeat (first | go_skip | go_guarded | go_step)
          refine (aMay_any q Ai ni ci l2 _ ((HRO.out.below ((Below.refl _ _).alloc (by omega) _)).more (by simp; omega)) hni).mono ?_
          rintro e W2 ⟨rfl, hb2⟩
          have HB2 := Lib.hid (belowStep HBR.out hsr hb2)
          clear hb2 hc0 hc1 hc2
          dsimp only
          generalize hm : mayA (q, l2) = m
          cases m with
          | false =>
            repeat (first | go_skip | go_guarded | go_step)
            go_ret
            exact ⟨by unfold mayC; rw [all_at HX.out hm]; rfl, by rw [hhb]; exact HB1.out.trans (HB2.out.mono hs1)⟩
          | true =>
            have HM := Lib.hid hm
            clear hm
            repeat (first | go_skip | go_guarded | go_step)
            go_roundw
            case rel => exact ⟨i + 1, by omega, by go_num, all_upto HX.out HAL.out HM.out, HB2.out⟩
            case measure => simp [intOf] <;> omega
        · obtain rfl : i = n1 := by omega
          repeat (first | go_skip | go_guarded | go_step)
          go_ret
          exact ⟨by unfold mayC; rw [all_whole (by have := HL1.out; omega) HAL.out, HL1.out, HM0.out]; simp [h8], by rw [hhb]; exact HB1.out.trans (HBR.out.mono hs1)⟩
  · have d8 : decide ((8 : Int) < (n1 : Int)) = true := by simp; omega
    repeat (first | go_skip | go_guarded | go_step)
    go_ret
    exact ⟨by unfold mayC; rw [HL1.out]; simp; intros; omega, by rw [hhb]; exact HB.out⟩
end Go.Proofs.Ytggnhgfickkgdaa
