/- Texts, packed: PcF PcM PcG PcH -/
import Derived.Test.YtoigpbajefkpoaaGreatDoorPyQ
import Derived.Test.YtoigpbajefkpoaaGreatDoorPyH
import Derived.RangeFuncNested
import Derived.RangeFuncBound
import Derived.RangeFuncCalls
import Derived.RangeFuncLeaves
import Derived.Shelf.Abstract
import Derived.Shelf.RegionOpen
import Derived.OwnWalkIn
import Derived.TacticsInMore
import Derived.LoopNIn
import Derived.LoopIn
import Derived.WalkMore
import Derived.Deep.LoopGhost
import Derived.BigQuiet
import Derived.Deep.QuietTactic
import Derived.Deep.Cut
import Derived.Deep.DeepCutAuto
import Derived.Deep.RegionWith
import Derived.Deep.RegionHeld3
import Derived.StillTailTactics
import Derived.Great.BuildSlice
set_option linter.unusedVariables false
set_option linter.unusedSimpArgs false
namespace Go.Proofs.YtoigpbajefkpoaaGreatDoor
open Go Go.RowKit

theorem sayL_atom (names : List ByteArray) (y : Sy) : sayL names y = (if y.1 then termL names y.2.1 ++ saysW else []) ++ atomT names y.2.2 := by
 unfold sayL atomT
 rw [List.append_assoc]
theorem knownB_iff (names : List ByteArray) (y : Sy) : knownB names y = true ↔ (y.1 = true → termL names y.2.1 ≠ []) ∧ atomK names y.2.2 := by
 unfold knownB atomK
 simp only [Bool.and_eq_true, decide_eq_true_eq, Bool.or_eq_true, Bool.not_eq_true', List.all_eq_true]
 constructor
 ·
  rintro ⟨⟨h1, h2⟩, h3⟩
  refine ⟨fun h => h2.elim (fun e => by rw [h] at e; cases e) (fun e => e), h1, h3⟩
 ·
  rintro ⟨h1, h2, h3⟩
  refine ⟨⟨h2, ?_⟩, h3⟩
  cases hy : y.1 with
  | false => exact .inl rfl
  | true => exact .inr (h1 hy)
/-- Terms that may be. -/
def TmOk (t : Tm) : Prop := t.1 = true → t.2.toNat < 16
theorem mayS_ok {y : Sy} (h : mayS y = true) : TmOk y.2.1 ∧ (∀ t ∈ y.2.2.2, TmOk t) ∧ y.2.2.2.length ≤ 6 := by
 unfold mayS at h
 simp only [Bool.and_eq_true, Bool.or_eq_true, Bool.not_eq_true', decide_eq_true_eq] at h
 obtain ⟨⟨_, h2⟩, h3⟩ := h
 have h6 : y.2.2.2.length ≤ 6 := by
  unfold mayA at h3
  simp only [Bool.and_eq_true, decide_eq_true_eq] at h3
  exact h3.2
 refine ⟨fun e => h2.elim (fun e' => by rw [e] at e'; cases e') (fun e' => e'), ?_, h6⟩
 intro t ht e
 unfold mayA at h3
 simp only [Bool.and_eq_true, Bool.or_eq_true, Bool.not_eq_true', decide_eq_true_eq, List.all_eq_true] at h3
 rcases h3.1 t ht with h | h
 ·
  rw [e] at h; cases h
 ·
  exact h
section
variable {B b gt : Nat} {Ft : Nat → Prop} {l0 : List ByteArray} {l : List UInt8} {w : World}
theorem atomT_len (h : Good 4096 l0) (a : AtL) (hm : ∀ t ∈ a.2, TmOk t) (h6 : a.2.length ≤ 6) : (atomT l0 a).length ≤ 400 := by
 unfold atomT
 have h1 := named_len h a.1.toNat
 have h2 := argsP_len h a.2 hm
 rw [List.length_append, argsL_P]
 split
 ·
  simp
  omega
 ·
  simp
  omega
theorem sayL_lenP (h : Good 4096 l0) (y : Sy) (hm : mayS y = true) : (sayL l0 y).length ≤ 500 := by
 obtain ⟨h1, h2, h3⟩ := mayS_ok hm
 have h4 := atomT_len h y.2.2 h2 h3
 have h5 := term_len h y.2.1 h1
 rw [sayL_atom, List.length_append]
 split
 ·
  rw [List.length_append]
  simp [saysW]
  omega
 ·
  simp
  omega
set_option maxRecDepth 100000 in
set_option maxHeartbeats 8000000 in
theorem psay_any (y : Sy) (A : Option Addr) (m c : Nat) (hr : RdT w B A m y.2.2.2) (hm : mayS y = true) (h : PrS w B b (tpV gt) l) (ht : PrT w B gt Ft l0) (hBw : B ≤ w.heap.size) (hl : l.length ≤ 80000000000) :
  Calls Tryz.prog 88 #[.pointer (some ⟨b, 0, none⟩), .agg #[.bool y.1, .bool y.2.1.1, nv y.2.1.2, nv y.2.2.1, .slice A m c]] w fun e w' => PrE B b gt l (sayL l0 y) (knownB l0 y = true) w e w' := by
 obtain ⟨ho1, ho2, ho3⟩ := mayS_ok hm
 have HM1 := Lib.hid ho1
 have HM2 := Lib.hid ho2
 have HM3 := Lib.hid ho3
 have HR := Lib.hid hr
 have HS0 := Lib.hid h
 have HT0 := Lib.hid ht
 have HIF := Lib.hid (knownB_iff l0 y)
 have HTX := Lib.hid (sayL_atom l0 y)
 have HTL := Lib.hid (term_len ht.good y.2.1 ho1)
 clear h ht hr ho1 ho2 ho3 hm
 go_enter Tryz.func88, Tryz.ntmps88
 go_upto_region 1 with (fail)
 obtain ⟨U, a0, hU, hub, ha0, hb0⟩ : ∃ U a0, U = w.alloc (.cells #[.bool y.1, .bool y.2.1.1, nv y.2.1.2, nv y.2.2.1, .slice A m c] 51) ∧ Below w.heap.size w U ∧ w.heap.size = a0 ∧ Bk U a0 51 [.bool y.1, .bool y.2.1.1, nv y.2.1.2, nv y.2.2.1, .slice A m c] := ⟨_, _, rfl, (Below.refl _ _).alloc (Nat.le_refl _) _, rfl, Bk.new w _ _⟩
 rw [← hU, ha0]
 have HS := Lib.hid (HS0.out.later hub)
 have HT := Lib.hid (HT0.out.later hub)
 have HKU := Lib.hid (Kw.ofBelow hub hBw : Kw B b w U)
 have HBU := Lib.hid (show B ≤ U.heap.size by have := hub.size; omega)
 have HB0 := Lib.hid hb0
 have HNE := Lib.hid (show a0 ≠ b by have := HS0.out.lt; omega)
 clear hU hub ha0 hb0
 obtain ⟨bv, who, a⟩ := y
 have k0 := HB0.out.readT (Below.refl _ _) 0 rfl
 dsimp only at k0
 have HTM := Lib.hid (show (termL l0 who).length ≤ 40 from HTL.out)
 cases bv with
 | false =>
  have k3 := HB0.out.readT (Below.refl _ _) 3 rfl
  have k4 := HB0.out.readT (Below.refl _ _) 4 rfl
  have HX := Lib.hid (show sayL l0 (false, who, a) = atomT l0 a from HTX.out)
  have HK := Lib.hid (show knownB l0 (false, who, a) = true ↔ atomK l0 a from HIF.out.trans ⟨fun e => e.2, fun e => ⟨(fun h => by cases h), e⟩⟩)
  repeat (first | go_skip | go_guarded | go_step)
  refine (patom_any a.1 A m c a.2 (HR.out.below HKU.out.below) HM2.out HM3.out HS.out HT.out HBU.out (by omega)).mono ?_
  rintro e w1 ⟨hk, ⟨hok, rfl, hs⟩ | ⟨hno, rfl⟩⟩
  ·
   have HS1 := Lib.hid hs
   have HK1 := Lib.hid (HKU.out.trans hk)
   have HOK := Lib.hid hok
   clear hs hk hok
   dsimp only
   repeat (first | go_skip | go_guarded | go_step)
   go_end0
   exact ⟨HK1.out, .inl ⟨HK.out.2 HOK.out, rfl, by rw [HX.out]; exact HS1.out⟩⟩
  ·
   exact ⟨rfl, HKU.out.trans hk, .inr ⟨fun e => hno (HK.out.1 e), rfl⟩⟩
 | true =>
  have k1 := HB0.out.readT (Below.refl _ _) 1 rfl
  have k2 := HB0.out.readT (Below.refl _ _) 2 rfl
  have HX := Lib.hid (show sayL l0 (true, who, a) = termL l0 who ++ saysW ++ atomT l0 a from HTX.out)
  have HK := Lib.hid (show knownB l0 (true, who, a) = true ↔ termL l0 who ≠ [] ∧ atomK l0 a from HIF.out.trans ⟨fun e => ⟨e.1 rfl, e.2⟩, fun e => ⟨fun _ => e.1, e.2⟩⟩)
  repeat (first | go_skip | go_guarded | go_step)
  refine (pterm_any who HM1.out HS.out HT.out HBU.out (by omega)).mono ?_
  rintro e w1 ⟨hk, ⟨hok, rfl, hs⟩ | ⟨hno, rfl⟩⟩
  ·
   have HS1 := Lib.hid hs
   have HK1 := Lib.hid (HKU.out.trans hk)
   have HB1 := Lib.hid (hk.bk HB0.out HNE.out (by decide))
   have HBW1 := Lib.hid (show B ≤ w1.heap.size by have := hk.below.size; have := HBU.out; omega)
   have HOK := Lib.hid hok
   clear hs hk hok k0 k1 k2
   dsimp only
   repeat (first | go_skip | go_guarded | go_step)
   refine (pString_any B b (tpV gt) (l ++ termL l0 who) ⟨#[32, 115, 97, 121, 115, 32]⟩ w1 HS1.out (by have := HTM.out; have : (⟨#[32, 115, 97, 121, 115, 32]⟩ : ByteArray).size = 6 := rfl; simp only [List.length_append]; omega) HBW1.out (by decide)).mono ?_
   rintro e w2 ⟨rfl, hs2, hk2⟩
   have HS2 := Lib.hid hs2
   have HK2 := Lib.hid (HK1.out.trans hk2)
   have HB2 := Lib.hid (hk2.bk HB1.out HNE.out (by decide))
   have HBW2 := Lib.hid (show B ≤ w2.heap.size by have := hk2.below.size; have := HBW1.out; omega)
   have k3 := HB2.out.readT (Below.refl _ _) 3 rfl
   have k4 := HB2.out.readT (Below.refl _ _) 4 rfl
   clear hs2 hk2
   dsimp only
   repeat (first | go_skip | go_guarded | go_step)
   refine (patom_any a.1 A m c a.2 (HR.out.below HK2.out.below) HM2.out HM3.out HS2.out (HT0.out.kw HK2.out) HBW2.out (by have := HTM.out; rw [List.length_append, List.length_append, show (tb (⟨#[32, 115, 97, 121, 115, 32]⟩ : ByteArray)).length = 6 from rfl]; omega)).mono ?_
   rintro e w3 ⟨hk, ⟨hok, rfl, hs⟩ | ⟨hno, rfl⟩⟩
   ·
    have HS3 := Lib.hid (show PrS w3 B b (tpV gt) (l ++ (termL l0 who ++ saysW ++ atomT l0 a)) by
     have := hs
     simp only [List.append_assoc] at this ⊢
     exact this)
    have HK3 := Lib.hid (HK2.out.trans hk)
    have HOK3 := Lib.hid hok
    clear hs hk hok
    dsimp only
    repeat (first | go_skip | go_guarded | go_step)
    go_end0
    exact ⟨HK3.out, .inl ⟨HK.out.2 ⟨HOK.out, HOK3.out⟩, rfl, by rw [HX.out]; exact HS3.out⟩⟩
   ·
    exact ⟨rfl, HK2.out.trans hk, .inr ⟨fun e => hno (HK.out.1 e).2, rfl⟩⟩
  ·
   exact ⟨rfl, HKU.out.trans hk, .inr ⟨fun e => hno (HK.out.1 e).1, rfl⟩⟩
end
end Go.Proofs.YtoigpbajefkpoaaGreatDoor

set_option linter.unusedVariables false
set_option linter.unusedSimpArgs false
namespace Go.Proofs.YtoigpbajefkpoaaGreatDoor
open Go Go.RowKit

theorem termInfo : (Tryz.prog.info? 46).map (fun i => (i.zero, i.size, i.bytes)) = some (some (.agg #[.bool false, .int .u32 0]), 2, 8) := by kernel_rfl
abbrev tmW (t : Tm) : Value := .agg #[.bool t.1, nv t.2]
theorem run_litW1 (t0 : Tm) (w : World) : (Instr.buildSlice 47 1 #[(0, tmW t0)]).run Tryz.prog w = .ok (.slice (some ⟨w.heap.size, 0, none⟩) 1 1) (w.alloc (.cells (tmCs [t0]).toArray 46)) := by
 obtain ⟨i0, hi, hz0, hz1, hz2⟩ := info_parts termInfo
 simp [Instr.buildSlice, run_underlying Tryz.underlying47, sizeOf, typeInfo, zeroValue, hi, hz0, hz1, newRow, Instr.fill]
 kernel_rfl
theorem litW_rd (w : World) (l : List Tm) (n : Nat) (hn : l.length = n) : RdT (w.alloc (.cells (tmCs l).toArray 46)) (w.heap.size + 1) (some ⟨w.heap.size, 0, none⟩) n l := by
 have hb := Bk.new w 46 (tmCs l)
 refine ⟨by rw [tmCs_len, hn], fun _ => ⟨w.heap.size, 0, rfl, by omega, fun j u hu => ?_⟩⟩
 rw [Nat.zero_add, hb.cell]
 exact hu
instance : DecidableEq Sy := inferInstanceAs (DecidableEq (Bool × Tm × AtL))
instance : DecidableEq Co := inferInstanceAs (DecidableEq (Bool × Sy))
instance : DecidableEq Rl := inferInstanceAs (DecidableEq (Sy × List Co))
theorem belowStep {B : Nat} {w wr W2 : World} {o : Obj} (h : Below B w wr) (hB : B ≤ wr.heap.size) (h2 : Below (wr.alloc o).heap.size (wr.alloc o) W2) : Below B w W2 :=
 (h.alloc hB o).trans (h2.mono (by simp; omega))
set_option maxRecDepth 100000 in
set_option maxHeartbeats 4000000 in
theorem tMay_any (v : Bool) (x : UInt32) (w : World) :
  Calls Tryz.prog 136 #[.agg #[.bool v, nv x]] w fun e w' => e = .returned (.bool (!v || decide (x.toNat < 16))) ∧ Below w.heap.size w w' := by
 cases v with
 | false =>
  go_enter Tryz.func136, Tryz.ntmps136
  repeat (first | go_skip | go_guarded | go_step)
  go_ret
  exact ⟨rfl, (Below.refl _ _).alloc (Nat.le_refl _) _⟩
 | true =>
  by_cases h16 : x.toNat < 16
  ·
   have d16 : decide ((x.toNat : Int) < 16) = true := by simp; omega
   have HM := Lib.hid (show decide (x.toNat < 16) = true by simp [h16])
   clear h16
   go_enter Tryz.func136, Tryz.ntmps136
   repeat (first | go_skip | go_guarded | go_step)
   go_ret
   exact ⟨by rw [HM.out]; rfl, (Below.refl _ _).alloc (Nat.le_refl _) _⟩
  ·
   have d16 : decide ((x.toNat : Int) < 16) = false := by simp; omega
   have HM := Lib.hid (show decide (x.toNat < 16) = false by simp; omega)
   clear h16
   go_enter Tryz.func136, Tryz.ntmps136
   repeat (first | go_skip | go_guarded | go_step)
   go_ret
   exact ⟨by rw [HM.out]; rfl, (Below.refl _ _).alloc (Nat.le_refl _) _⟩
set_option maxRecDepth 100000 in
set_option maxHeartbeats 4000000 in
theorem aMay_any (p : UInt32) (A : Option Addr) (n c : Nat) (l : List Tm) (w : World) (h : RdT w w.heap.size A n l) (hn : n ≤ 1000000) :
  Calls Tryz.prog 131 #[.agg #[nv p, .slice A n c]] w fun e w' => e = .returned (.bool (mayA (p, l))) ∧ Below w.heap.size w w' := by
 have HL := Lib.hid (rdT_len h)
 obtain ⟨W, hW, hb, hbw⟩ : ∃ W, W = w.alloc (.cells #[nv p, .slice A n c] 49) ∧ Bk W w.heap.size 49 [nv p, .slice A n c] ∧ Below w.heap.size w W := ⟨_, rfl, Bk.new w _ _, (Below.refl _ _).alloc (Nat.le_refl _) _⟩
 have HR := Lib.hid (h.below hbw)
 have HW := Lib.hid hW
 have HB := Lib.hid hbw
 have c1 := hb.readT (Below.refl _ _) 1 rfl
 clear h hW hb hbw
 go_enter Tryz.func131, Tryz.ntmps131
 go_upto_region 1 with (fail)
 rw [← HW.out]
 clear HW
 generalize hhb : w.heap.size = hb at HR HB c1 ⊢
 have hs0 : hb ≤ W.heap.size := by rw [← hhb]; exact (show Below w.heap.size w W by rw [hhb]; exact HB.out).size
 by_cases h6 : n ≤ 6
 ·
  have d6 : decide ((6 : Int) < (n : Int)) = false := by simp; omega
  repeat (first | go_skip | go_guarded | go_step)
  go_loopw [12] (fun p wr => ∃ i : Nat, i ≤ n ∧ p = .int .i64 (i : Int) ∧ (l.take i).all (fun t => !t.1 || decide (t.2.toNat < 16)) = true ∧ Below W.heap.size W wr) (fun p _ => n - (intOf p).toNat)
  case atStart => exact ⟨0, by omega, rfl, by simp, Below.refl _ _⟩
  case round =>
   obtain ⟨i, hi, rfl, hal, hbr⟩ := hrel
   have HAL := Lib.hid hal
   have HBR := Lib.hid hbr
   have hsr := hbr.size
   clear hal hbr
   by_cases hlt : i < n
   ·
    have hci : (i : Int) < (n : Int) := by omega
    obtain ⟨b, o, ⟨v, x⟩, hA, hbb, ht, hc0, hc1⟩ := rdT_at (HR.out.below (HBR.out.mono hs0)) hlt
    subst hA
    dsimp only at hc0 hc1
    have HT := Lib.hid ht
    clear ht c1
    repeat (first | go_skip | go_guarded | go_step)
    refine (tMay_any v x _).mono ?_
    rintro e W2 ⟨rfl, hb2⟩
    have HB2 := Lib.hid (belowStep HBR.out hsr hb2)
    clear hb2 hc0 hc1
    dsimp only
    generalize hm : (!v || decide (x.toNat < 16)) = m
    cases m with
    | false =>
     repeat (first | go_skip | go_guarded | go_step)
     go_ret
     exact ⟨by unfold mayA; rw [all_at HT.out hm]; rfl, by rw [hhb]; exact HB.out.trans (HB2.out.mono hs0)⟩
    | true =>
     have HM := Lib.hid hm
     clear hm
     repeat (first | go_skip | go_guarded | go_step)
     go_roundw
     case rel => exact ⟨i + 1, by omega, by go_num, all_upto HT.out HAL.out HM.out, HB2.out⟩
     case measure => simp [intOf] <;> omega
   ·
    obtain rfl : i = n := by omega
    repeat (first | go_skip | go_guarded | go_step)
    go_ret
    exact ⟨by unfold mayA; rw [all_whole (by have := HL.out; omega) HAL.out, HL.out]; simp [h6], by rw [hhb]; exact HB.out.trans (HBR.out.mono hs0)⟩
 ·
  have d6 : decide ((6 : Int) < (n : Int)) = true := by simp; omega
  repeat (first | go_skip | go_guarded | go_step)
  go_ret
  exact ⟨by unfold mayA; rw [HL.out]; simp; intros; omega, by rw [hhb]; exact HB.out⟩
set_option maxRecDepth 100000 in
set_option maxHeartbeats 4000000 in
theorem cMay_any (p : UInt32) (A : Option Addr) (n c : Nat) (l : List Tm) (A1 : Option Addr) (n1 c1 : Nat) (R : List SlA) (L : List Li) (w : World) (h : RdT w w.heap.size A n l) (h1 : RdL w w.heap.size A1 n1 R L)
  (hn : n ≤ 1000000) (hn1 : n1 ≤ 1000000) (hk : ∀ x ∈ L, x.2.2.length ≤ 1000000) :
  Calls Tryz.prog 127 #[.agg #[nv p, .slice A n c, .slice A1 n1 c1]] w fun e w' => e = .returned (.bool (mayC ((p, l), L))) ∧ Below w.heap.size w w' := by
 have HL := Lib.hid (rdT_len h)
 have HL1 := Lib.hid h1.lenL
 have HK := Lib.hid hk
 obtain ⟨W, hW, hb, hbw⟩ : ∃ W, W = w.alloc (.cells #[nv p, .slice A n c, .slice A1 n1 c1] 204) ∧ Bk W w.heap.size 204 [nv p, .slice A n c, .slice A1 n1 c1] ∧ Below w.heap.size w W := ⟨_, rfl, Bk.new w _ _, (Below.refl _ _).alloc (Nat.le_refl _) _⟩
 have HR := Lib.hid (h.below hbw)
 have HR1 := Lib.hid (h1.below hbw)
 have HW := Lib.hid hW
 have HB := Lib.hid hbw
 have HH := Lib.hid hb
 have k0 := hb.readT (Below.refl _ _) 0 rfl
 have k1 := hb.readT (Below.refl _ _) 1 rfl
 have k2 := hb.readT (Below.refl _ _) 2 rfl
 clear h h1 hk hW hb hbw
 go_enter Tryz.func127, Tryz.ntmps127
 go_upto_region 1 with (fail)
 rw [← HW.out]
 clear HW
 generalize hhb : w.heap.size = hb at HR HR1 HB HH k0 k1 k2 ⊢
 have hs0 : hb ≤ W.heap.size := by rw [← hhb]; exact (show Below w.heap.size w W by rw [hhb]; exact HB.out).size
 by_cases h8 : n1 ≤ 8
 ·
  have d8 : decide ((8 : Int) < (n1 : Int)) = false := by simp; omega
  repeat (first | go_skip | go_guarded | go_step)
  refine (aMay_any p A n c l W (HR.out.more hs0) hn).mono ?_
  rintro e W1 ⟨rfl, hb1⟩
  have HB1 := Lib.hid (HB.out.trans (hb1.mono hs0))
  have hs1 : hb ≤ W1.heap.size := Nat.le_trans hs0 hb1.size
  have HRL := Lib.hid (HR1.out.below (hb1.mono hs0))
  have k2 := HH.out.readT hb1 2 rfl
  have HMH := Lib.hid (show mayA (p, l) = mayA (p, l) from rfl)
  clear hb1 k0 k1
  dsimp only
  generalize hm0 : mayA (p, l) = m0
  clear HMH
  cases m0 with
  | false =>
   repeat (first | go_skip | go_guarded | go_step)
   go_ret
   exact ⟨by unfold mayC; dsimp only; rw [hm0]; simp, by rw [hhb]; exact HB1.out⟩
  | true =>
   have HM0 := Lib.hid hm0
   clear hm0
   repeat (first | go_skip | go_guarded | go_step)
   go_loopw [18] (fun p wr => ∃ i : Nat, i ≤ n1 ∧ p = .int .i64 (i : Int) ∧ (L.take i).all (fun x => mayA x.2) = true ∧ Below W1.heap.size W1 wr) (fun p _ => n1 - (intOf p).toNat)
   case atStart => exact ⟨0, by omega, rfl, by simp, Below.refl _ _⟩
   case round =>
    obtain ⟨i, hi, rfl, hal, hbr⟩ := hrel
    have HAL := Lib.hid hal
    have HBR := Lib.hid hbr
    have hsr := hbr.size
    clear hal hbr
    by_cases hlt : i < n1
    ·
     have hci : (i : Int) < (n1 : Int) := by omega
     obtain ⟨b, o, g, q, l2, Ai, ni, ci, hA, hbb, hx, hc0, hc1, hc2, hrow⟩ := (HRL.out.below (HBR.out.mono hs1)).at_ hlt
     subst hA
     have hni : ni ≤ 1000000 := by
      have := HK.out _ (List.mem_of_getElem? hx)
      have := rdT_len hrow
      dsimp only at *
      omega
     have HX := Lib.hid hx
     have HRO := Lib.hid hrow
     clear hx hrow k2
     repeat (first | go_skip | go_guarded | go_step)
     refine (aMay_any q Ai ni ci l2 _ ((HRO.out.below ((Below.refl _ _).alloc (by omega) _)).more (by simp; omega)) hni).mono ?_
     rintro e W2 ⟨rfl, hb2⟩
     have HB2 := Lib.hid (belowStep HBR.out hsr hb2)
     clear hb2 hc0 hc1 hc2
     dsimp only
     generalize hm : mayA (q, l2) = m
     cases m with
     | false =>
      repeat (first | go_skip | go_guarded | go_step)
      go_ret
      exact ⟨by unfold mayC; rw [all_at HX.out hm]; rfl, by rw [hhb]; exact HB1.out.trans (HB2.out.mono hs1)⟩
     | true =>
      have HM := Lib.hid hm
      clear hm
      repeat (first | go_skip | go_guarded | go_step)
      go_roundw
      case rel => exact ⟨i + 1, by omega, by go_num, all_upto HX.out HAL.out HM.out, HB2.out⟩
      case measure => simp [intOf] <;> omega
    ·
     obtain rfl : i = n1 := by omega
     repeat (first | go_skip | go_guarded | go_step)
     go_ret
     exact ⟨by unfold mayC; rw [all_whole (by have := HL1.out; omega) HAL.out, HL1.out, HM0.out]; simp [h8], by rw [hhb]; exact HB1.out.trans (HBR.out.mono hs1)⟩
 ·
  have d8 : decide ((8 : Int) < (n1 : Int)) = true := by simp; omega
  repeat (first | go_skip | go_guarded | go_step)
  go_ret
  exact ⟨by unfold mayC; rw [HL1.out]; simp; intros; omega, by rw [hhb]; exact HB.out⟩
set_option maxRecDepth 100000 in
set_option maxHeartbeats 4000000 in
theorem waMay_any (p : UInt32) (A : Option Addr) (n c : Nat) (l : List Tm) (w : World) (h : RdT w w.heap.size A n l) (hn : n ≤ 1000000) :
  Calls Tryz.prog 119 #[.agg #[nv p, .slice A n c]] w fun e w' => e = .returned (.bool (mayA (p, l))) ∧ Below w.heap.size w w' := by
 have HR := Lib.hid h
 have HM := Lib.hid (show mayC ((p, l), []) = mayA (p, l) by simp [mayC])
 clear h
 go_enter Tryz.func119, Tryz.ntmps119
 repeat (first | go_skip | go_guarded | go_step)
 refine (cMay_any p A n c l none 0 0 [] [] _ ((HR.out.below ((Below.refl _ _).alloc (Nat.le_refl _) _)).more (by simp)) (RdL.nil _ _) hn (by omega) (by simp)).mono ?_
 rintro e W2 ⟨rfl, hb2⟩
 have HB2 := Lib.hid (belowStep (Below.refl _ _) (Nat.le_refl _) hb2)
 clear hb2
 rw [HM.out]
 dsimp only
 repeat (first | go_skip | go_guarded | go_step)
 go_ret
 exact ⟨rfl, HB2.out⟩
set_option maxRecDepth 100000 in
set_option maxHeartbeats 4000000 in
theorem wtMay_any (x : Tm) (w : World) :
  Calls Tryz.prog 118 #[.agg #[.bool x.1, nv x.2]] w fun e w' => e = .returned (.bool (!x.1 || decide (x.2.toNat < 16))) ∧ Below w.heap.size w w' := by
 have HM := Lib.hid (show mayA (0, [x]) = (!x.1 || decide (x.2.toNat < 16)) by simp [mayA])
 have hl : ∀ W : World, _ := fun W => run_litW1 x W
 go_enter Tryz.func118, Tryz.ntmps118
 repeat (first | go_skip | go_guarded | go_step)
 have hr := litW_rd (w.alloc (.cells #[.bool x.1, nv x.2] 46)) [x] 1 rfl
 rw [World.size_alloc] at hr
 have hc : Calls Tryz.prog 119 #[.agg #[.int .u32 0, .slice (some ⟨w.heap.size + 1, 0, none⟩) 1 1]] ((w.alloc (.cells #[.bool x.1, nv x.2] 46)).alloc (.cells #[.bool x.1, nv x.2] 46)) _ := waMay_any 0 _ 1 1 [x] _ (hr.more (by simp)) (by omega)
 refine hc.mono ?_
 rintro e W2 ⟨rfl, hb2⟩
 have HB2 := Lib.hid (belowStep ((Below.refl w.heap.size w).alloc (Nat.le_refl _) _) (by simp) hb2)
 clear hb2
 rw [HM.out]
 dsimp only
 repeat (first | go_skip | go_guarded | go_step)
 go_ret
 exact ⟨rfl, HB2.out⟩
set_option maxRecDepth 100000 in
set_option maxHeartbeats 4000000 in
theorem sMay_any (b : Bool) (x : Tm) (p : UInt32) (A : Option Addr) (n c : Nat) (l : List Tm) (w : World) (h : RdT w w.heap.size A n l) (hn : n ≤ 1000000) :
  Calls Tryz.prog 107 #[.agg #[.bool b, .bool x.1, nv x.2, nv p, .slice A n c]] w fun e w' => e = .returned (.bool (mayS (b, x, (p, l)))) ∧ Below w.heap.size w w' := by
 obtain ⟨U, hU, hH, hbU⟩ : ∃ U, U = w.alloc (.cells #[.bool b, .bool x.1, nv x.2, nv p, .slice A n c] 51) ∧ Bk U w.heap.size 51 [.bool b, .bool x.1, nv x.2, nv p, .slice A n c] ∧ Below w.heap.size w U :=
  ⟨_, rfl, Bk.new w _ _, (Below.refl _ _).alloc (Nat.le_refl _) _⟩
 have HU := Lib.hid hU
 have HB := Lib.hid hbU
 have HR := Lib.hid (h.below hbU)
 have HH := Lib.hid hH
 have k0 := hH.readT (Below.refl _ _) 0 rfl
 have k1 := hH.readT (Below.refl _ _) 1 rfl
 have k2 := hH.readT (Below.refl _ _) 2 rfl
 clear hU hH hbU h
 go_enter Tryz.func107, Tryz.ntmps107
 go_upto_region 1 with (fail)
 rw [← HU.out]
 clear HU
 generalize hhb : w.heap.size = hb at HR HB HH k0 k1 k2 ⊢
 rw [← hhb] at HB HR
 obtain ⟨v, y⟩ := x
 dsimp only at k1 k2 HH
 have hy := n32_lt y
 cases b with
 | true =>
  repeat (first | go_skip | go_guarded | go_step)
  refine (wtMay_any (v, y) U).mono ?_
  rintro e W1 ⟨rfl, hb1⟩
  have HB1 := Lib.hid (HB.out.trans (hb1.mono HB.out.size))
  have hs1 : w.heap.size ≤ W1.heap.size := Nat.le_trans HB.out.size hb1.size
  have HR1 := Lib.hid ((HR.out.below (hb1.mono HB.out.size)).more hs1)
  have k3 := HH.out.readT hb1 3 rfl
  have k4 := HH.out.readT hb1 4 rfl
  clear hb1 k0 k1 k2
  dsimp only
  generalize hm : (!v || decide (y.toNat < 16)) = m
  cases m with
  | false =>
   repeat (first | go_skip | go_guarded | go_step)
   go_ret
   exact ⟨by unfold mayS; dsimp only; rw [hm]; simp, HB1.out⟩
  | true =>
   have HM := Lib.hid (show mayS (true, (v, y), (p, l)) = mayA (p, l) by unfold mayS; dsimp only; rw [hm]; simp )
   clear hm
   repeat (first | go_skip | go_guarded | go_step)
   refine (waMay_any p A n c l W1 HR1.out hn).mono ?_
   rintro e W2 ⟨rfl, hb2⟩
   have HB2 := Lib.hid (HB1.out.trans (hb2.mono hs1))
   clear hb2
   dsimp only
   repeat (first | go_skip | go_guarded | go_step)
   go_ret
   exact ⟨by rw [HM.out]; rfl, HB2.out⟩
 | false =>
  have heq : (Op.equalIn 10000 46 (.agg #[.bool v, nv y]) (.agg #[.bool false, .int .u32 0])).run Tryz.prog U = .ok (decide (((v, y) : Tm) = (false, 0))) U := by
   have h := run_eqT (v, y) (false, 0) U
   exact h
  by_cases he : (v, y) = ((false, 0) : Tm)
  ·
   have de : decide (((v, y) : Tm) = (false, 0)) = true := decide_eq_true he
   rw [de] at heq
   have hv : v = false := congrArg Prod.fst he
   have hy0 : y = 0 := congrArg Prod.snd he
   subst hv hy0
   clear he
   repeat (first | go_skip | go_guarded | go_step)
   refine (wtMay_any (false, 0) U).mono ?_
   rintro e W1 ⟨rfl, hb1⟩
   have HB1 := Lib.hid (HB.out.trans (hb1.mono HB.out.size))
   have hs1 : w.heap.size ≤ W1.heap.size := Nat.le_trans HB.out.size hb1.size
   have HR1 := Lib.hid ((HR.out.below (hb1.mono HB.out.size)).more hs1)
   have k3 := HH.out.readT hb1 3 rfl
   have k4 := HH.out.readT hb1 4 rfl
   clear hb1 k0 k1 k2
   dsimp only
   generalize hm : (!(false, (0 : UInt32)).1 || decide ((false, (0 : UInt32)).2.toNat < 16)) = m
   cases m with
   | false =>
    repeat (first | go_skip | go_guarded | go_step)
    go_ret
    exact ⟨by unfold mayS; dsimp only; rw [hm]; simp, HB1.out⟩
   | true =>
    have HM := Lib.hid (show mayS (false, (false, 0), (p, l)) = mayA (p, l) by unfold mayS; dsimp only; rw [hm]; simp )
    clear hm
    repeat (first | go_skip | go_guarded | go_step)
    refine (waMay_any p A n c l W1 HR1.out hn).mono ?_
    rintro e W2 ⟨rfl, hb2⟩
    have HB2 := Lib.hid (HB1.out.trans (hb2.mono hs1))
    clear hb2
    dsimp only
    repeat (first | go_skip | go_guarded | go_step)
    go_ret
    exact ⟨by rw [HM.out]; rfl, HB2.out⟩
  ·
   have de : decide (((v, y) : Tm) = (false, 0)) = false := decide_eq_false he
   rw [de] at heq
   have HM := Lib.hid (show mayS (false, (v, y), (p, l)) = false by unfold mayS; dsimp only; rw [de]; rfl)
   have HNE := Lib.hid (fun (hv : v = false) => show ((y.toNat : Int) == 0) = false from by
    rw [beq_eq_false_iff_ne]
    intro h
    exact he (by rw [hv, UInt32.toNat_inj.1 (show y.toNat = (0 : UInt32).toNat by simp; omega)]))
   clear he de
   cases v with
   | true =>
    repeat (first | go_skip | go_guarded | go_step)
    go_ret
    exact ⟨by rw [HM.out]; rfl, HB.out⟩
   | false =>
    have hyy : ((y.toNat : Int) == 0) = false := HNE.out rfl
    repeat (first | go_skip | go_guarded | go_step)
    go_ret
    exact ⟨by rw [HM.out]; rfl, HB.out⟩
set_option maxRecDepth 100000 in
set_option maxHeartbeats 4000000 in
theorem rulMay_any (s0 : Bool) (x0 : Tm) (p : UInt32) (A : Option Addr) (n c : Nat) (l : List Tm) (A1 : Option Addr) (n1 c1 : Nat) (R : List SlA) (L : List Co) (w : World) (h : RdT w w.heap.size A n l) (h1 : RdK w w.heap.size A1 n1 R L)
  (hn : n ≤ 1000000) (hn1 : n1 ≤ 1000000) (hk : ∀ x ∈ L, x.2.2.2.2.length ≤ 1000000) :
  Calls Tryz.prog 87 #[.agg #[.bool s0, .bool x0.1, nv x0.2, nv p, .slice A n c, .slice A1 n1 c1]] w fun e w' => e = .returned (.bool (mayR ((s0, x0, (p, l)), L))) ∧ Below w.heap.size w w' := by
 have HL := Lib.hid (rdT_len h)
 have HL1 := Lib.hid h1.lenL
 have HK := Lib.hid hk
 obtain ⟨W, hW, hb, hbw⟩ : ∃ W, W = w.alloc (.cells #[.bool s0, .bool x0.1, nv x0.2, nv p, .slice A n c, .slice A1 n1 c1] 54) ∧ Bk W w.heap.size 54 [.bool s0, .bool x0.1, nv x0.2, nv p, .slice A n c, .slice A1 n1 c1] ∧ Below w.heap.size w W := ⟨_, rfl, Bk.new w _ _, (Below.refl _ _).alloc (Nat.le_refl _) _⟩
 have HR := Lib.hid (h.below hbw)
 have HR1 := Lib.hid (h1.below hbw)
 have HW := Lib.hid hW
 have HB := Lib.hid hbw
 have HH := Lib.hid hb
 have k0 := hb.readT (Below.refl _ _) 0 rfl
 have k1 := hb.readT (Below.refl _ _) 1 rfl
 have k2 := hb.readT (Below.refl _ _) 2 rfl
 have k3 := hb.readT (Below.refl _ _) 3 rfl
 have k4 := hb.readT (Below.refl _ _) 4 rfl
 have k5 := hb.readT (Below.refl _ _) 5 rfl
 clear h h1 hk hW hb hbw
 go_enter Tryz.func87, Tryz.ntmps87
 go_upto_region 1 with (fail)
 rw [← HW.out]
 clear HW
 generalize hhb : w.heap.size = hb at HR HR1 HB HH k0 k1 k2 k3 k4 k5 ⊢
 have hs0 : hb ≤ W.heap.size := by rw [← hhb]; exact (show Below w.heap.size w W by rw [hhb]; exact HB.out).size
 by_cases h8 : n1 ≤ 8
 ·
  have d8 : decide ((8 : Int) < (n1 : Int)) = false := by simp; omega
  repeat (first | go_skip | go_guarded | go_step)
  refine (sMay_any s0 x0 p A n c l W (HR.out.more hs0) hn).mono ?_
  rintro e W1 ⟨rfl, hb1⟩
  have HB1 := Lib.hid (HB.out.trans (hb1.mono hs0))
  have hs1 : hb ≤ W1.heap.size := Nat.le_trans hs0 hb1.size
  have HRL := Lib.hid (HR1.out.below (hb1.mono hs0))
  have k5 := HH.out.readT hb1 5 rfl
  have HMH := Lib.hid (show mayS (s0, x0, (p, l)) = mayS (s0, x0, (p, l)) from rfl)
  clear hb1 k0 k1 k2 k3 k4
  dsimp only
  generalize hm0 : mayS (s0, x0, (p, l)) = m0
  clear HMH
  cases m0 with
  | false =>
   repeat (first | go_skip | go_guarded | go_step)
   go_ret
   exact ⟨by unfold mayR; dsimp only; rw [hm0]; simp, by rw [hhb]; exact HB1.out⟩
  | true =>
   have HM0 := Lib.hid hm0
   clear hm0
   repeat (first | go_skip | go_guarded | go_step)
   go_loopw [18] (fun p wr => ∃ i : Nat, i ≤ n1 ∧ p = .int .i64 (i : Int) ∧ (L.take i).all (fun x => mayS x.2) = true ∧ Below W1.heap.size W1 wr) (fun p _ => n1 - (intOf p).toNat)
   case atStart => exact ⟨0, by omega, rfl, by simp, Below.refl _ _⟩
   case round =>
    obtain ⟨i, hi, rfl, hal, hbr⟩ := hrel
    have HAL := Lib.hid hal
    have HBR := Lib.hid hbr
    have hsr := hbr.size
    clear hal hbr
    by_cases hlt : i < n1
    ·
     have hci : (i : Int) < (n1 : Int) := by omega
     obtain ⟨b, o, g, s, x, q, l2, Ai, ni, ci, hA, hbb, hx, hc0, hc1, hc2, hc3, hc4, hc5, hrow⟩ := (HRL.out.below (HBR.out.mono hs1)).at_ hlt
     subst hA
     have hni : ni ≤ 1000000 := by
      have := HK.out _ (List.mem_of_getElem? hx)
      have := rdT_len hrow
      dsimp only at *
      omega
     have HX := Lib.hid hx
     have HRO := Lib.hid hrow
     clear hx hrow k5
     repeat (first | go_skip | go_guarded | go_step)
     refine (sMay_any s x q Ai ni ci l2 _ ((HRO.out.below ((Below.refl _ _).alloc (by omega) _)).more (by simp; omega)) hni).mono ?_
     rintro e W2 ⟨rfl, hb2⟩
     have HB2 := Lib.hid (belowStep HBR.out hsr hb2)
     clear hb2 hc0 hc1 hc2 hc3 hc4 hc5
     dsimp only
     generalize hm : mayS (s, x, (q, l2)) = m
     cases m with
     | false =>
      repeat (first | go_skip | go_guarded | go_step)
      go_ret
      exact ⟨by unfold mayR; rw [all_at HX.out hm]; rfl, by rw [hhb]; exact HB1.out.trans (HB2.out.mono hs1)⟩
     | true =>
      have HM := Lib.hid hm
      clear hm
      repeat (first | go_skip | go_guarded | go_step)
      go_roundw
      case rel => exact ⟨i + 1, by omega, by go_num, all_upto HX.out HAL.out HM.out, HB2.out⟩
      case measure => simp [intOf] <;> omega
    ·
     obtain rfl : i = n1 := by omega
     repeat (first | go_skip | go_guarded | go_step)
     go_ret
     exact ⟨by unfold mayR; rw [all_whole (by have := HL1.out; omega) HAL.out, HL1.out, HM0.out]; simp [h8], by rw [hhb]; exact HB1.out.trans (HBR.out.mono hs1)⟩
 ·
  have d8 : decide ((8 : Int) < (n1 : Int)) = true := by simp; omega
  repeat (first | go_skip | go_guarded | go_step)
  go_ret
  exact ⟨by unfold mayR; rw [HL1.out]; simp; intros; omega, by rw [hhb]; exact HB.out⟩
end Go.Proofs.YtoigpbajefkpoaaGreatDoor

set_option linter.unusedVariables false
set_option linter.unusedSimpArgs false
namespace Go.Proofs.YtoigpbajefkpoaaGreatDoor
open Go Go.RowKit

theorem bodyL_snocP (names : List ByteArray) (l : List Co) (c : Co) : bodyL names (l ++ [c]) = bodyL names l ++ (if l.length = 0 then [32, 58, 45, 32] else [44, 32]) ++ condL names c := by
 cases l with
 | nil => simp [bodyL]
 | cons x l => simp [bodyL]
/-- What is wrong with a rule. -/
def ruleZ (names : List ByteArray) (r : Rl) : Nat := if !mayR r then 8 else if !knownR names r then 4 else 0
theorem ruleZ4 {names : List ByteArray} {r : Rl} (h : ruleZ names r = if !knownR names r then 4 else 0) (hk : knownR names r = false) : ruleZ names r = 4 := by rw [h, hk]; rfl
theorem mayR_ok {r : Rl} (h : mayR r = true) : mayS r.1 = true ∧ (∀ x ∈ r.2, mayS x.2 = true) ∧ r.2.length ≤ 8 := by
 unfold mayR at h
 simp only [Bool.and_eq_true, List.all_eq_true, decide_eq_true_eq] at h
 exact ⟨h.1.2, h.1.1, h.2⟩
section
variable {B b gt : Nat} {Ft : Nat → Prop} {l0 : List ByteArray} {l : List UInt8} {w : World}
theorem condL_len (h : Good 4096 l0) (c : Co) (hm : mayS c.2 = true) : (condL l0 c).length ≤ 504 := by
 have := sayL_lenP h c.2 hm
 unfold condL
 rw [List.length_append]
 split <;> simp [notW] <;> omega
theorem bodyL_lenP (h : Good 4096 l0) : ∀ (L : List Co), (∀ x ∈ L, mayS x.2 = true) → (bodyL l0 L).length ≤ 600 * L.length
 | [], _ => by simp [bodyL]
 | c :: L, hm => by
  have h1 := condL_len h c (hm c (by simp))
  have h2 : (L.flatMap (fun d => [44, 32] ++ condL l0 d)).length ≤ 600 * L.length := by
   have : ∀ (q : List Co), (∀ t ∈ q, mayS t.2 = true) → (q.flatMap (fun u => [44, 32] ++ condL l0 u)).length ≤ 600 * q.length := by
    intro q
    induction q with
    | nil => intro _; simp
    | cons y q ih =>
     intro hq
     have h3 := condL_len h y (hq y (by simp))
     have h4 := ih (fun t ht => hq t (by simp [ht]))
     rw [List.flatMap_cons, List.length_append]
     have h5 : ([44, 32] ++ condL l0 y).length = 2 + (condL l0 y).length := by rw [List.length_append]; rfl
     have h6 : (y :: q).length = q.length + 1 := rfl
     omega
   exact this L (fun t ht => hm t (by simp [ht]))
  unfold bodyL
  have h5 : ([32, 58, 45, 32] ++ condL l0 c).length = 4 + (condL l0 c).length := by rw [List.length_append]; rfl
  rw [List.length_append, List.length_cons, h5]
  omega
theorem ruleL_len (h : Good 4096 l0) (r : Rl) (hm : mayR r = true) : (ruleL l0 r).length ≤ 6000 := by
 obtain ⟨h1, h2, h3⟩ := mayR_ok hm
 have h4 := sayL_lenP h r.1 h1
 have h5 := bodyL_lenP h r.2 h2
 unfold ruleL
 rw [List.length_append, List.length_append]
 simp
 omega
set_option maxRecDepth 100000 in
set_option maxHeartbeats 8000000 in
theorem prule_any (r : Rl) (A : Option Addr) (m c : Nat) (A1 : Option Addr) (m1 c1 : Nat) (R : List SlA) (hr : RdT w B A m r.1.2.2.2) (hr1 : RdK w B A1 m1 R r.2) (hs : r.1.2.2.2.length ≤ 1000 ∧ r.2.length ≤ 1000 ∧ ∀ x ∈ r.2, x.2.2.2.2.length ≤ 1000)
  (h : PrS w B b (tpV gt) l) (ht : PrT w B gt Ft l0) (hBw : B ≤ w.heap.size) (hl : l.length ≤ 70000000000) :
  Calls Tryz.prog 63 #[.pointer (some ⟨b, 0, none⟩), .agg #[.bool r.1.1, .bool r.1.2.1.1, nv r.1.2.1.2, nv r.1.2.2.1, .slice A m c, .slice A1 m1 c1]] w fun e w' =>
   Kw B b w w' ∧ ((ruleZ l0 r = 0 ∧ e = .returned (.tuple #[]) ∧ PrS w' B b (tpV gt) (l ++ ruleL l0 r)) ∨ (ruleZ l0 r ≠ 0 ∧ e = pnc (ruleZ l0 r, 0))) := by
 have HLN := Lib.hid (show r.1.2.2.2.length = m by have := hr.1; unfold tmCs at this; rw [tm_flat] at this; omega)
 have HR := Lib.hid hr
 have HR1 := Lib.hid hr1
 have HSM := Lib.hid hs
 have HS0 := Lib.hid h
 have HT0 := Lib.hid ht
 have HLN1 := Lib.hid hr1.lenL
 clear h ht hr hr1 hs
 go_enter Tryz.func63, Tryz.ntmps63
 go_upto_region 1 with (fail)
 obtain ⟨U, a0, hU, hub, ha0, hb0⟩ : ∃ U a0, U = w.alloc (.cells #[.bool r.1.1, .bool r.1.2.1.1, nv r.1.2.1.2, nv r.1.2.2.1, .slice A m c, .slice A1 m1 c1] 54) ∧ Below w.heap.size w U ∧ w.heap.size = a0 ∧ Bk U a0 54 [.bool r.1.1, .bool r.1.2.1.1, nv r.1.2.1.2, nv r.1.2.2.1, .slice A m c, .slice A1 m1 c1] := ⟨_, _, rfl, (Below.refl _ _).alloc (Nat.le_refl _) _, rfl, Bk.new w _ _⟩
 rw [← hU, ha0]
 have HS := Lib.hid (HS0.out.later hub)
 have HT := Lib.hid (HT0.out.later hub)
 have HKU := Lib.hid (Kw.ofBelow hub hBw : Kw B b w U)
 have HBU := Lib.hid (show B ≤ U.heap.size by have := hub.size; omega)
 have HB0 := Lib.hid hb0
 have HNE := Lib.hid (show a0 ≠ b by have := HS0.out.lt; omega)
 have k0 := hb0.readT (Below.refl _ _) 0 rfl
 have k1 := hb0.readT (Below.refl _ _) 1 rfl
 have k2 := hb0.readT (Below.refl _ _) 2 rfl
 have k3 := hb0.readT (Below.refl _ _) 3 rfl
 have k4 := hb0.readT (Below.refl _ _) 4 rfl
 have k5 := hb0.readT (Below.refl _ _) 5 rfl
 clear hU hub ha0 hb0
 repeat (first | go_skip | go_guarded | go_step)
 refine (rulMay_any r.1.1 r.1.2.1 r.1.2.2.1 A m c r.1.2.2.2 A1 m1 c1 R r.2 U ((HR.out.below HKU.out.below).more HBU.out) ((HR1.out.below HKU.out.below).more HBU.out) (by have := HLN.out; have := HSM.out.1; omega) (by have := HLN1.out; have := HSM.out.2.1; omega) (fun x hx => by have := HSM.out.2.2 x hx; omega)).mono ?_
 rintro e w1 ⟨rfl, hb1⟩
 obtain ⟨mv, hmv⟩ : ∃ mv, mv = mayR ((r.1.1, r.1.2.1, (r.1.2.2.1, r.1.2.2.2)), r.2) := ⟨_, rfl⟩
 rw [← hmv]
 have hmv' : mv = mayR r := hmv
 have HB1 := Lib.hid hb1
 have HK1 := Lib.hid (HKU.out.later hb1 HBU.out)
 clear hmv hb1 k0 k1 k2 k3 k4 k5
 cases mv with
 | false =>
  have HZ := Lib.hid (show ruleZ l0 r = 8 by unfold ruleZ; rw [← hmv']; rfl)
  clear hmv'
  dsimp only
  repeat (first | go_skip | go_guarded | go_step)
  exact ⟨rfl, HK1.out, .inr ⟨by rw [HZ.out]; decide, by rw [HZ.out]; rfl⟩⟩
 | true =>
  have HZ := Lib.hid (show ruleZ l0 r = if !knownR l0 r then 4 else 0 by unfold ruleZ; rw [← hmv']; rfl)
  have HKN := Lib.hid (show knownR l0 r = (knownB l0 r.1 && r.2.all (fun c => knownB l0 c.2)) from rfl)
  obtain ⟨hm1, hm2, hm3⟩ := mayR_ok hmv'.symm
  have HM1 := Lib.hid hm1
  have HM2 := Lib.hid hm2
  have hm18 : m1 ≤ 8 := by rw [← HLN1.out]; exact hm3
  have HS1 := Lib.hid (HS.out.later HB1.out)
  have HB2 := Lib.hid (HB0.out.later HB1.out)
  have HBW1 := Lib.hid (show B ≤ w1.heap.size by have := HB1.out.size; have := HBU.out; omega)
  have k0 := HB2.out.readT (Below.refl _ _) 0 rfl
  have k1 := HB2.out.readT (Below.refl _ _) 1 rfl
  have k2 := HB2.out.readT (Below.refl _ _) 2 rfl
  have k3 := HB2.out.readT (Below.refl _ _) 3 rfl
  have k4 := HB2.out.readT (Below.refl _ _) 4 rfl
  clear hmv' hm1 hm2 hm3
  dsimp only
  repeat (first | go_skip | go_guarded | go_step)
  refine (psay_any r.1 A m c (HR.out.below HK1.out.below) HM1.out HS1.out (HT0.out.kw HK1.out) HBW1.out (by omega)).mono ?_
  rintro e w2 ⟨hk, ⟨hok, rfl, hs⟩ | ⟨hno, rfl⟩⟩
  ·
   have HS2 := Lib.hid hs
   have HK2 := Lib.hid (HK1.out.trans hk)
   have HB3 := Lib.hid (hk.bk HB2.out HNE.out (by decide))
   have HOK := Lib.hid hok
   have HSL := Lib.hid (sayL_lenP HT0.out.good r.1 HM1.out)
   have k5 := HB3.out.readT (Below.refl _ _) 5 rfl
   clear hs hk hok k0 k1 k2 k3 k4
   dsimp only
   repeat (first | go_skip | go_guarded | go_step)
   go_loopw [18] (fun q wr => ∃ i : Nat, i ≤ m1 ∧ q = .int .i64 (i : Int) ∧ PrS wr B b (tpV gt) (l ++ sayL l0 r.1 ++ bodyL l0 (r.2.take i)) ∧ Kw B b w wr ∧ (∀ x ∈ r.2.take i, knownB l0 x.2 = true)) (fun q _ => m1 - (intOf q).toNat)
   case atStart => exact ⟨0, by omega, rfl, by simpa [bodyL] using HS2.out, HK2.out, by simp⟩
   case round =>
    obtain ⟨i, hi, rfl, hs, hk, hall⟩ := hrel
    have HS3 := Lib.hid hs
    have HK3 := Lib.hid hk
    have HALL := Lib.hid hall
    have HBW := Lib.hid (show B ≤ wr.heap.size by have := hk.below.size; omega)
    have HBL := Lib.hid (bodyL_lenP HT0.out.good (r.2.take i) (fun x hx => HM2.out x (List.mem_of_mem_take hx)))
    clear hs hk hall
    by_cases hlt : i < m1
    ·
     have hci : (i : Int) < (m1 : Int) := by omega
     obtain ⟨bb, oo, g0, s0, x0, p0, ll, Ai, ni, ci, hA, hbb, hx, e0, e1, e2, e3, e4, e5, hrt⟩ := (HR1.out.below HK3.out.below).at_ hlt
     subst hA
     obtain ⟨cd, hcd⟩ : ∃ cd : Co, cd = (g0, s0, x0, p0, ll) := ⟨_, rfl⟩
     rw [← hcd] at hx
     have HX := Lib.hid hx
     have HRT := Lib.hid (show RdT wr B Ai ni cd.2.2.2.2 by rw [hcd]; exact hrt)
     have HTK := Lib.hid (show r.2.take (i + 1) = r.2.take i ++ [cd] by rw [List.take_add_one, hx]; rfl)
     have HLT := Lib.hid (show (r.2.take i).length = i by rw [List.length_take, HLN1.out]; omega)
     have HXM := Lib.hid (HM2.out cd (List.mem_of_getElem? hx))
     have HCD := Lib.hid hcd
     clear hx hrt hcd
     go_upto_region 7 with (fail)
     obtain ⟨V, a1, hV, hv, ha1, hb1⟩ : ∃ V a1, V = wr.alloc (.cells #[.bool g0, .bool s0, .bool x0.1, nv x0.2, nv p0, .slice Ai ni ci] 103) ∧ Below wr.heap.size wr V ∧ wr.heap.size = a1 ∧ Bk V a1 103 [.bool g0, .bool s0, .bool x0.1, nv x0.2, nv p0, .slice Ai ni ci] := ⟨_, _, rfl, (Below.refl _ _).alloc (Nat.le_refl _) _, rfl, Bk.new wr _ _⟩
     rw [← hV, ha1]
     have HS4 := Lib.hid (HS3.out.later hv)
     have HK4 := Lib.hid (HK3.out.later hv HBW.out)
     have HV1 := Lib.hid hb1
     have HNE1 := Lib.hid (show a1 ≠ b by have := HS3.out.lt; omega)
     have HBV := Lib.hid (show B ≤ V.heap.size by have := hv.size; have := HBW.out; omega)
     have HRV := Lib.hid (HRT.out.below ((hv.mono HBW.out)))
     clear hV hv ha1 hb1 e0 e1 e2 e3 e4 e5
     repeat (first | go_skip | go_guarded | go_step)
     refine (between_any i ⟨#[32, 58, 45, 32]⟩ HS4.out HBV.out (by have := HSL.out; have := HBL.out; have := HLT.out; rw [List.length_append, List.length_append]; omega) (by decide) (by decide)).mono ?_
     rintro e w4 ⟨rfl, hs4, hk4⟩
     have HS5 := Lib.hid hs4
     have HK5 := Lib.hid (HK4.out.trans hk4)
     have HV2 := Lib.hid (hk4.bk HV1.out HNE1.out (by decide))
     have HR4 := Lib.hid (HRV.out.below hk4.below)
     have HBW4 := Lib.hid (show B ≤ w4.heap.size by have := hk4.below.size; have := HBV.out; omega)
     have d0 := HV2.out.readT (Below.refl _ _) 0 rfl
     obtain ⟨pre, hpre⟩ : ∃ pre, pre = l ++ sayL l0 r.1 ++ bodyL l0 (r.2.take i) ++ (if i = 0 then tb (⟨#[32, 58, 45, 32]⟩ : ByteArray) else [44, 32]) := ⟨_, rfl⟩
     rw [← hpre] at HS5
     have HPRE := Lib.hid hpre
     have HPL := Lib.hid (show pre.length ≤ 75000000000 by
      rw [hpre]
      have := HSL.out; have := HBL.out; have := HLT.out
      rw [List.length_append, List.length_append, List.length_append]
      split
      ·
       rw [show (tb (⟨#[32, 58, 45, 32]⟩ : ByteArray)).length = 4 from rfl]
       omega
      ·
       simp
       omega)
     clear hs4 hk4 hpre
     dsimp only
     cases g0 with
     | true =>
      repeat (first | go_skip | go_guarded | go_step)
      refine (pString_any B b (tpV gt) pre ⟨#[110, 111, 116, 32]⟩ w4 HS5.out (by have := HPL.out; have : (⟨#[110, 111, 116, 32]⟩ : ByteArray).size = 4 := rfl; omega) HBW4.out (by decide)).mono ?_
      rintro e w5 ⟨rfl, hs5, hk5⟩
      have HS7 := Lib.hid hs5
      have HK7 := Lib.hid (HK5.out.trans hk5)
      have HV7 := Lib.hid (hk5.bk HV2.out HNE1.out (by decide))
      have HR7 := Lib.hid (HR4.out.below hk5.below)
      have HBW7 := Lib.hid (show B ≤ w5.heap.size by have := hk5.below.size; have := HBW4.out; omega)
      clear hs5 hk5
      dsimp only
      have d1 := HV7.out.readT (Below.refl _ _) 1 rfl
      have d2 := HV7.out.readT (Below.refl _ _) 2 rfl
      have d3 := HV7.out.readT (Below.refl _ _) 3 rfl
      have d4 := HV7.out.readT (Below.refl _ _) 4 rfl
      have d5 := HV7.out.readT (Below.refl _ _) 5 rfl
      repeat (first | go_skip | go_guarded | go_step)
      refine (psay_any (s0, x0, p0, ll) Ai ni ci (by have := HR7.out; rw [HCD.out] at this; exact this) (by have := HXM.out; rw [HCD.out] at this; exact this) HS7.out (HT0.out.kw HK7.out) HBW7.out (by have := HPL.out; rw [List.length_append, show (tb (⟨#[110, 111, 116, 32]⟩ : ByteArray)).length = 4 from rfl]; omega)).mono ?_
      rintro e w6 ⟨hk, ⟨hok, rfl, hs⟩ | ⟨hno, rfl⟩⟩
      ·
       have HS6 := Lib.hid (show PrS w6 B b (tpV gt) (l ++ sayL l0 r.1 ++ bodyL l0 (r.2.take (i + 1))) by
        rw [HTK.out, bodyL_snocP, HLT.out, condL, HCD.out]
        have := hs
        rw [HPRE.out] at this
        simp only [List.append_assoc] at this ⊢
        exact this)
       have HK6 := Lib.hid (HK7.out.trans hk)
       have HOK6 := Lib.hid (show knownB l0 cd.2 = true by rw [HCD.out]; exact hok)
       clear hs hk hok d0 d1 d2 d3 d4 d5
       dsimp only
       repeat (first | go_skip | go_guarded | go_step)
       go_roundw
       case rel => exact ⟨i + 1, by omega, by go_num, HS6.out, HK6.out, fun x hx => by
        rw [HTK.out] at hx
        rcases List.mem_append.1 hx with h | h
        ·
         exact HALL.out x h
        ·
         rw [List.mem_singleton] at h
         rw [h]
         exact HOK6.out⟩
       case measure => simp [intOf] <;> omega
      ·
       have HZ4 := ruleZ4 HZ.out (show knownR l0 r = false by
        rw [HKN.out]
        have h1 : (r.2.all fun c => knownB l0 c.2) = false := by
         rw [List.all_eq_false]
         exact ⟨cd, List.mem_of_getElem? HX.out, by rw [HCD.out]; exact hno⟩
        rw [h1, Bool.and_false])
       exact ⟨rfl, HK7.out.trans hk, .inr ⟨by rw [HZ4]; decide, by rw [HZ4]⟩⟩
     | false =>
      have d1 := HV2.out.readT (Below.refl _ _) 1 rfl
      have d2 := HV2.out.readT (Below.refl _ _) 2 rfl
      have d3 := HV2.out.readT (Below.refl _ _) 3 rfl
      have d4 := HV2.out.readT (Below.refl _ _) 4 rfl
      have d5 := HV2.out.readT (Below.refl _ _) 5 rfl
      repeat (first | go_skip | go_guarded | go_step)
      refine (psay_any (s0, x0, p0, ll) Ai ni ci (by have := HR4.out; rw [HCD.out] at this; exact this) (by have := HXM.out; rw [HCD.out] at this; exact this) HS5.out (HT0.out.kw HK5.out) HBW4.out (by have := HPL.out; omega)).mono ?_
      rintro e w6 ⟨hk, ⟨hok, rfl, hs⟩ | ⟨hno, rfl⟩⟩
      ·
       have HS6 := Lib.hid (show PrS w6 B b (tpV gt) (l ++ sayL l0 r.1 ++ bodyL l0 (r.2.take (i + 1))) by
        rw [HTK.out, bodyL_snocP, HLT.out, condL, HCD.out]
        have := hs
        rw [HPRE.out] at this
        simp only [List.append_assoc] at this ⊢
        exact this)
       have HK6 := Lib.hid (HK5.out.trans hk)
       have HOK6 := Lib.hid (show knownB l0 cd.2 = true by rw [HCD.out]; exact hok)
       clear hs hk hok d0 d1 d2 d3 d4 d5
       dsimp only
       repeat (first | go_skip | go_guarded | go_step)
       go_roundw
       case rel => exact ⟨i + 1, by omega, by go_num, HS6.out, HK6.out, fun x hx => by
        rw [HTK.out] at hx
        rcases List.mem_append.1 hx with h | h
        ·
         exact HALL.out x h
        ·
         rw [List.mem_singleton] at h
         rw [h]
         exact HOK6.out⟩
       case measure => simp [intOf] <;> omega
      ·
       have HZ4 := ruleZ4 HZ.out (show knownR l0 r = false by
        rw [HKN.out]
        have h1 : (r.2.all fun c => knownB l0 c.2) = false := by
         rw [List.all_eq_false]
         exact ⟨cd, List.mem_of_getElem? HX.out, by rw [HCD.out]; exact hno⟩
        rw [h1, Bool.and_false])
       exact ⟨rfl, HK5.out.trans hk, .inr ⟨by rw [HZ4]; decide, by rw [HZ4]⟩⟩
    ·
     obtain rfl : i = m1 := by omega
     have HF := Lib.hid (show r.2.take i = r.2 by rw [← HLN1.out, List.take_length])
     have HBL2 := Lib.hid (bodyL_lenP HT0.out.good r.2 HM2.out)
     have HZ0 := Lib.hid (show ruleZ l0 r = 0 by
      have h1 : (r.2.all fun c => knownB l0 c.2) = true := by
       rw [List.all_eq_true]
       intro x hx
       exact HALL.out x (by rw [HF.out]; exact hx)
      rw [HZ.out, HKN.out, HOK.out, h1]
      rfl)
     repeat (first | go_skip | go_guarded | go_step)
     refine (pString_any B b (tpV gt) _ ⟨#[46, 10]⟩ wr HS3.out (by have := HSL.out; have := HBL2.out; have := HLN1.out; have : (⟨#[46, 10]⟩ : ByteArray).size = 2 := rfl; rw [HF.out, List.length_append, List.length_append]; omega) HBW.out (by decide)).mono ?_
     rintro e w5 ⟨rfl, hs5, hk5⟩
     have HS7 := Lib.hid (show PrS w5 B b (tpV gt) (l ++ ruleL l0 r) by
      unfold ruleL
      rw [HF.out] at hs5
      simp only [List.append_assoc] at hs5 ⊢
      exact hs5)
     have HK7 := Lib.hid (HK3.out.trans hk5)
     clear hs5 hk5
     dsimp only
     repeat (first | go_skip | go_guarded | go_step)
     go_end0
     exact ⟨HK7.out, .inl ⟨HZ0.out, rfl, HS7.out⟩⟩
  ·
   have HZ4 := ruleZ4 HZ.out (show knownR l0 r = false by
    rw [HKN.out, show knownB l0 r.1 = false from by simpa using hno]
    rfl)
   exact ⟨rfl, HK1.out.trans hk, .inr ⟨by rw [HZ4]; decide, by rw [HZ4]⟩⟩
end
end Go.Proofs.YtoigpbajefkpoaaGreatDoor

set_option linter.unusedVariables false
set_option linter.unusedSimpArgs false
namespace Go.Proofs.YtoigpbajefkpoaaGreatDoor
open Go Go.RowKit

theorem printL_z (names : List ByteArray) (r : Rl) (l : List Rl) : printL names (r :: l) = if ruleZ names r ≠ 0 then ([], ruleZ names r) else match (printL names l).2 with | 0 => (ruleL names r ++ (printL names l).1, 0) | e => ([], e) := by
 rw [printL]
 unfold ruleZ
 cases hm : mayR r with
 | false => rfl
 | true =>
  cases hk : knownR names r with
  | false => rfl
  | true => rfl
theorem printL_bad (names : List ByteArray) : ∀ (i : Nat) (l : List Rl) (r : Rl), l[i]? = some r → ruleZ names r ≠ 0 → (∀ x ∈ l.take i, ruleZ names x = 0) → printL names l = ([], ruleZ names r)
 | 0, [], r, h, _, _ => by simp at h
 | 0, x :: l, r, h, hz, _ => by
  simp only [List.getElem?_cons_zero, Option.some.injEq] at h
  subst h
  rw [printL_z, if_pos hz]
 | i + 1, [], r, h, _, _ => by simp at h
 | i + 1, x :: l, r, h, hz, ha => by
  have h0 := ha x (by simp)
  have ih := printL_bad names i l r (by simpa using h) hz (fun y hy => ha y (by rw [List.take_succ_cons]; exact List.mem_cons_of_mem _ hy))
  rw [printL_z, if_neg (fun e => e h0), ih]
  dsimp only
  split
  ·
   rename_i e
   exact absurd e hz
  ·
   rfl
theorem printL_good (names : List ByteArray) : ∀ (l : List Rl), (∀ x ∈ l, ruleZ names x = 0) → printL names l = (l.flatMap (ruleL names), 0)
 | [], _ => rfl
 | r :: l, h => by
  have ih := printL_good names l (fun x hx => h x (List.mem_cons_of_mem _ hx))
  rw [printL_z, if_neg (fun e => e (h r (by simp))), ih]
  rfl
section
variable {B b gt : Nat} {Ft : Nat → Prop} {l0 : List ByteArray} {w : World}
theorem rules_len6 (h : Good 4096 l0) : ∀ (l : List Rl), (∀ x ∈ l, ruleZ l0 x = 0) → (l.flatMap (ruleL l0)).length ≤ 6000 * l.length
 | [], _ => by simp
 | r :: l, hz => by
  have ih := rules_len6 h l (fun x hx => hz x (List.mem_cons_of_mem _ hx))
  have h1 : mayR r = true := by
   have := hz r (by simp)
   unfold ruleZ at this
   cases hm : mayR r with
   | true => rfl
   | false => simp [hm] at this
  have h2 := ruleL_len h r h1
  rw [List.flatMap_cons, List.length_append, List.length_cons]
  omega
set_option maxRecDepth 100000 in
set_option maxHeartbeats 8000000 in
theorem ppolicy_any (A : Option Addr) (n c : Nat) (Q : List RlA) (rs : List Rl) (hr : RdRs w B A n Q rs) (hn : n ≤ 100000) (hsm : smallR rs) (h : PrS w B b (tpV gt) []) (ht : PrT w B gt Ft l0) (hBw : B ≤ w.heap.size) :
  Calls Tryz.prog 38 #[.pointer (some ⟨b, 0, none⟩), .slice A n c] w fun e w' =>
   Kw B b w w' ∧ (((printL l0 rs).2 = 0 ∧ e = .returned (strV (printL l0 rs).1)) ∨ ((printL l0 rs).2 ≠ 0 ∧ (printL l0 rs).1 = [] ∧ e = pnc ((printL l0 rs).2, 0))) := by
 have HR := Lib.hid hr
 have HSM := Lib.hid hsm
 have HS0 := Lib.hid h
 have HT0 := Lib.hid ht
 have HLN := Lib.hid hr.lenL
 clear h ht hr hsm
 go_enter Tryz.func38, Tryz.ntmps38
 repeat (first | go_skip | go_guarded | go_step)
 go_loopw [9] (fun q wr => ∃ i : Nat, i ≤ n ∧ q = .int .i64 (i : Int) ∧ PrS wr B b (tpV gt) ((rs.take i).flatMap (ruleL l0)) ∧ Kw B b w wr ∧ (∀ x ∈ rs.take i, ruleZ l0 x = 0)) (fun q _ => n - (intOf q).toNat)
 case atStart => exact ⟨0, by omega, rfl, by simpa using HS0.out, Kw.refl _ _ _, by simp⟩
 case round =>
  obtain ⟨i, hi, rfl, hs, hk, hall⟩ := hrel
  have HS := Lib.hid hs
  have HK := Lib.hid hk
  have HALL := Lib.hid hall
  have HBW := Lib.hid (show B ≤ wr.heap.size by have := hk.below.size; omega)
  have HTL := Lib.hid (rules_len6 HT0.out.good (rs.take i) hall)
  clear hs hk hall
  by_cases hlt : i < n
  ·
   have hci : (i : Int) < (n : Int) := by omega
   obtain ⟨bb, oo, sd, tm, p, ll, M, Ai, ni, ci, Bi, mi, di, Ri, hA, hbb, hx, e0, e1, e2, e3, e4, e5, hrt, hrk⟩ := (HR.out.below HK.out.below).at_ hlt
   subst hA
   have HX := Lib.hid hx
   have HRT := Lib.hid hrt
   have HRK := Lib.hid hrk
   have HTK := Lib.hid (show rs.take (i + 1) = rs.take i ++ [((sd, tm, (p, ll)), M)] by rw [List.take_add_one, hx]; rfl)
   have HLT := Lib.hid (show (rs.take i).length = i by rw [List.length_take, HLN.out]; omega)
   have HXM := Lib.hid (HSM.out _ (List.mem_of_getElem? hx))
   clear hx hrt hrk
   go_upto_region 4 with (fail)
   obtain ⟨V, a1, hV, hv, ha1, hb1⟩ : ∃ V a1, V = wr.alloc (.cells #[.bool sd, .bool tm.1, nv tm.2, nv p, .slice Ai ni ci, .slice Bi mi di] 54) ∧ Below wr.heap.size wr V ∧ wr.heap.size = a1 ∧ Bk V a1 54 [.bool sd, .bool tm.1, nv tm.2, nv p, .slice Ai ni ci, .slice Bi mi di] := ⟨_, _, rfl, (Below.refl _ _).alloc (Nat.le_refl _) _, rfl, Bk.new wr _ _⟩
   rw [← hV, ha1]
   have HSV := Lib.hid (HS.out.later hv)
   have HKV := Lib.hid (HK.out.later hv HBW.out)
   have HBV := Lib.hid (show B ≤ V.heap.size by have := hv.size; have := HBW.out; omega)
   have HRT2 := Lib.hid (HRT.out.below (hv.mono HBW.out))
   have HRK2 := Lib.hid (HRK.out.below (hv.mono HBW.out))
   have k0 := hb1.readT (Below.refl _ _) 0 rfl
   have k1 := hb1.readT (Below.refl _ _) 1 rfl
   have k2 := hb1.readT (Below.refl _ _) 2 rfl
   have k3 := hb1.readT (Below.refl _ _) 3 rfl
   have k4 := hb1.readT (Below.refl _ _) 4 rfl
   have k5 := hb1.readT (Below.refl _ _) 5 rfl
   clear hV hv ha1 hb1 e0 e1 e2 e3 e4 e5
   repeat (first | go_skip | go_guarded | go_step)
   refine (prule_any ((sd, tm, (p, ll)), M) Ai ni ci Bi mi di Ri HRT2.out HRK2.out HXM.out HSV.out (HT0.out.kw HKV.out) HBV.out (by have := HTL.out; have := HLT.out; omega)).mono ?_
   rintro e w2 ⟨hk, ⟨hz, rfl, hs⟩ | ⟨hz, rfl⟩⟩
   ·
    have HS2 := Lib.hid (show PrS w2 B b (tpV gt) ((rs.take (i + 1)).flatMap (ruleL l0)) by
     rw [HTK.out, List.flatMap_append, List.flatMap_cons, List.flatMap_nil, List.append_nil]
     exact hs)
    have HK2 := Lib.hid (HKV.out.trans hk)
    have HZ := Lib.hid hz
    clear hs hk hz k0 k1 k2 k3 k4 k5
    dsimp only
    repeat (first | go_skip | go_guarded | go_step)
    go_roundw
    case rel => exact ⟨i + 1, by omega, by go_num, HS2.out, HK2.out, fun x hx => by
     rw [HTK.out] at hx
     rcases List.mem_append.1 hx with h | h
     ·
      exact HALL.out x h
     ·
      rw [List.mem_singleton] at h
      rw [h]
      exact HZ.out⟩
    case measure => simp [intOf] <;> omega
   ·
    have hp := printL_bad l0 i rs _ HX.out hz HALL.out
    exact ⟨rfl, HKV.out.trans hk, .inr ⟨by rw [hp]; exact hz, by rw [hp], by rw [hp]⟩⟩
  ·
   obtain rfl : i = n := by omega
   have HF := Lib.hid (show rs.take i = rs by rw [← HLN.out, List.take_length])
   have hp := printL_good l0 rs (by have := HALL.out; rw [HF.out] at this; exact this)
   have HP := Lib.hid hp
   clear hp
   repeat (first | go_skip | go_guarded | go_step)
   refine (pTold_any B b (tpV gt) _ wr HS.out HBW.out).mono ?_
   rintro e w2 ⟨rfl, hk⟩
   have HK2 := Lib.hid (HK.out.trans hk)
   clear hk
   dsimp only
   repeat (first | go_skip | go_guarded | go_step)
   go_ret
   exact ⟨HK2.out, .inl ⟨by rw [HP.out], by rw [HP.out, HF.out]; rfl⟩⟩
end
end Go.Proofs.YtoigpbajefkpoaaGreatDoor

