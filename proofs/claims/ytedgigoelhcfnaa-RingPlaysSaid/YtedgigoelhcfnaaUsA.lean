/- slices.Sort of numbers of 32 bits, however many: a block of them; cmp.Less; the insertion sort; a range turned round. -/
import Derived.Test.YtedgigoelhcfnaaAid
import Derived.Test.YtedgigoelhcfnaaBlk
import Derived.Test.YtedgigoelhcfnaaFp
import Derived.Test.YtedgigoelhcfnaaRows
import Derived.Sort.AssemblyPlain
import Derived.Deep.QuietTactic
import Derived.BigQuiet
import Derived.StillTailTactics
import Derived.Deep.Cut
import Derived.Deep.RegionHeld3
set_option linter.unusedVariables false
set_option linter.unusedSimpArgs false
namespace Go.Proofs.Ytedgigoelhcfnaa
open Go Go.RowKit

abbrev nu (x : UInt32) : Value := .int .u32 (x.toNat : Int)
def ltU (x y : UInt32) : Bool := decide (x.toNat < y.toNat)
theorem swo_ltU : Go.Sort.SWO ltU where
  irrefl x := by unfold ltU; simp
  trans x y z h k := by unfold ltU at *; simp only [decide_eq_true_eq] at *; omega
  ntrans x y z h k := by unfold ltU at *; simp only [decide_eq_false_iff_not] at *; omega
theorem usNan (x : UInt32) (w : World) : Calls Try.prog 44 #[nu x] w fun e w' => e = .returned (.bool false) ∧ w' = w := by
  have hb : ((x.toNat : Int) != (x.toNat : Int)) = false := by simp
  go_enter Try.func44, Try.ntmps44
  repeat (first | go_skip | go_guarded | go_step)
  go_ret
  exact ⟨rfl, rfl⟩
theorem usLess (x y : UInt32) (w : World) : Calls Try.prog 34 #[nu x, nu y] w fun e w' => e = .returned (.bool (ltU x y)) ∧ w' = w := by
  go_enter Try.func34, Try.ntmps34
  repeat (first | go_skip | go_guarded | go_step)
  refine (usNan x w).mono ?_
  rintro e w' ⟨rfl, rfl⟩
  dsimp only
  repeat (first | go_skip | go_guarded | go_step)
  go_ret
  exact ⟨by unfold ltU; (first | rfl | simp), rfl⟩
/-- A block of numbers, with what lies behind them. -/
abbrev BkA (w : World) (g : Nat) (d : Array UInt32) (rest : List Value) : Prop := Bk w g 31 (d.toList.map nu ++ rest)
section
variable {w w' : World} {g : Nat} {d : Array UInt32} {rest : List Value}
theorem BkA.at_ (h : BkA w g d rest) {i : Nat} (hi : i < d.size) : w.cell? ⟨g, i, none⟩ = some (nu d[i]!) := by
  rw [h.cell, List.getElem?_append_left (by simpa using hi), List.getElem?_map, Array.getElem?_toList, getElem!_pos d i hi, Array.getElem?_eq_getElem hi]
  rfl
theorem BkA.set1 (h : BkA w g d rest) {i : Nat} (hi : i < d.size) (y : UInt32) : BkA (w.setCell ⟨g, i, none⟩ (nu y)) g (d.setIfInBounds i y) rest := by
  have h2 := h.set_ i (nu y)
  rw [List.set_append_left _ _ (by simpa using hi), ← List.map_set, ← Array.toList_setIfInBounds] at h2
  exact h2
theorem BkA.swp (h : BkA w g d rest) {i j : Nat} {x y : UInt32} (hi : i < d.size) (hj : j < d.size) (hx : d[i]! = x) (hy : d[j]! = y) :
    BkA ((w.setCell ⟨g, i, none⟩ (nu y)).setCell ⟨g, j, none⟩ (nu x)) g (Go.Sort.swp d i j) rest := by
  subst hx hy
  exact (h.set1 hi _).set1 (by simpa using hj) _
theorem usDrew {G : Nat → Prop} {a w : World} (h : Turn G a w) (n : Nat) : Turn G a (w.drewN n) := ⟨h.os, h.tape, h.output, h.size, h.block⟩
theorem usSwpT {G : Nat → Prop} {a w : World} (h : Turn G a w) (g i j : Nat) (hg : G g) (x y : Value) : Turn G a (((w.setCell ⟨g, i, none⟩ x).setCell ⟨g, j, none⟩ y)) :=
  (h.setCell (p := ⟨g, i, none⟩) (fun _ => hg) _).setCell (p := ⟨g, j, none⟩) (fun _ => hg) _
end
theorem insInner_step {lt : UInt32 → UInt32 → Bool} {a j : Nat} {d : Array UInt32} (ha : a < j) (h : lt d[j]! d[j - 1]! = true) : Go.Sort.insInner lt a j d = Go.Sort.insInner lt a (j - 1) (Go.Sort.swp d j (j - 1)) := by
  obtain ⟨k, rfl⟩ : ∃ k, j = k + 1 := ⟨j - 1, by omega⟩
  simp only [Nat.add_sub_cancel] at h ⊢
  rw [Go.Sort.insInner, if_pos (by simp [h]; omega)]
theorem insInner_end {lt : UInt32 → UInt32 → Bool} {a j : Nat} {d : Array UInt32} (h : j ≤ a ∨ lt d[j]! d[j - 1]! = false) : Go.Sort.insInner lt a j d = d := by
  cases j with
  | zero => rfl
  | succ k =>
    simp only [Nat.add_sub_cancel] at h
    rw [Go.Sort.insInner, if_neg]
    rcases h with h | h
    · simp; omega
    · simp [h]
theorem insOuter_step {lt : UInt32 → UInt32 → Bool} {a b i : Nat} {d : Array UInt32} (h : i < b) : Go.Sort.insOuter lt a b i d = Go.Sort.insOuter lt a b (i + 1) (Go.Sort.insInner lt a i d) := by
  rw [Go.Sort.insOuter, if_pos h]
theorem insOuter_end {lt : UInt32 → UInt32 → Bool} {a b i : Nat} {d : Array UInt32} (h : ¬ i < b) : Go.Sort.insOuter lt a b i d = d := by
  rw [Go.Sort.insOuter, if_neg h]
set_option maxRecDepth 100000 in
set_option maxHeartbeats 4000000 in
theorem usIns (g c a b : Nat) (d : Array UInt32) (rest : List Value) (w : World) (hb : BkA w g d rest) (hab : a ≤ b) (hbd : b ≤ d.size) (hsz : d.size ≤ 1000000000000) :
    Calls Try.prog 28 #[.slice (some ⟨g, 0, none⟩) d.size c, .int .i64 (a : Int), .int .i64 (b : Int)] w fun e w' => e = .returned (.tuple #[]) ∧ BkA w' g (Go.Sort.insertionSort ltU d a b) rest ∧ Turn (fun k => k = g) w w' := by
  have HB := Lib.hid hb
  clear hb
  obtain ⟨n, hn⟩ : ∃ n, n = d.size := ⟨_, rfl⟩
  rw [← hn] at hbd hsz ⊢
  have HN := Lib.hid hn
  clear hn
  go_enter Try.func28, Try.ntmps28
  repeat (first | go_skip | go_guarded | go_step)
  go_loopw [6] (fun q wr => ∃ (i : Nat) (dk : Array UInt32), q = .int .i64 (i : Int) ∧ a + 1 ≤ i ∧ i ≤ b + 1 ∧ dk.size = n ∧ Go.Sort.insOuter ltU a b i dk = Go.Sort.insOuter ltU a b (a + 1) d ∧ BkA wr g dk rest ∧ Turn (fun k => k = g) w wr) (fun q _ => b + 1 - (intOf q).toNat)
  case atStart => exact ⟨a + 1, d, by go_num, by omega, by omega, HN.out.symm, rfl, HB.out, Turn.refl _ _⟩
  case round =>
    obtain ⟨i, dk, rfl, hi1, hi2, hdk, hO, hbk, ht⟩ := hrel
    have HO := Lib.hid hO
    have HK := Lib.hid hbk
    have HT := Lib.hid ht
    have HDK := Lib.hid hdk
    clear hO hbk ht hdk
    by_cases hlt : i < b
    · have hci : (i : Int) < (b : Int) := by omega
      repeat (first | go_skip | go_guarded | go_step)
      rename World => w1
      go_loopw [7] (fun q wr => ∃ (j : Nat) (dj : Array UInt32), q = .int .i64 (j : Int) ∧ a ≤ j ∧ j ≤ i ∧ dj.size = n ∧ Go.Sort.insInner ltU a j dj = Go.Sort.insInner ltU a i dk ∧ BkA wr g dj rest ∧ Turn (fun k => k = g) w wr) (fun q _ => (intOf q).toNat)
      case atStart => exact ⟨i, dk, rfl, by omega, Nat.le_refl _, HDK.out, rfl, HK.out, HT.out⟩
      case round =>
        obtain ⟨j, dj, rfl, hja, hji, hdj, hI, hbk, ht⟩ := hrel
        have HI := Lib.hid hI
        have HK2 := Lib.hid hbk
        have HT2 := Lib.hid ht
        have HDJ := Lib.hid hdj
        have HEND := Lib.hid (show (j ≤ a ∨ ltU dj[j]! dj[j - 1]! = false) → Go.Sort.insOuter ltU a b (i + 1) dj = Go.Sort.insOuter ltU a b (a + 1) d from fun h => by
          rw [← HO.out, insOuter_step hlt, ← hI, insInner_end h])
        clear hI ht
        by_cases hja0 : a < j
        · have hjd : decide ((a : Int) < (j : Int)) = true := by simp; omega
          have c1 := hbk.at_ (i := j) (by omega)
          have c2 := hbk.at_ (i := j - 1) (by omega)
          have f1 := hbk.frozen j
          have f2 := hbk.frozen (j - 1)
          generalize hx : dj[j]! = x at c1
          generalize hy : dj[j - 1]! = y at c2
          have HX := Lib.hid hx
          have HY := Lib.hid hy
          have hjw : ((j : Int) - 1) = ((j - 1 : Nat) : Int) := by omega
          clear hbk hx hy hdj
          go_upto_region 4 with (fail)
          go_quiet (refine Calls.quiet_of_same (usLess _ _ _))
          cases hxy : ltU x y with
          | true =>
            have HL := Lib.hid hxy
            clear hxy
            obtain ⟨V, hV, hkV, htV⟩ : ∃ V, V = wr.drewN nq ∧ BkA V g dj rest ∧ Turn (fun k => k = g) w V := ⟨_, rfl, HK2.out, usDrew HT2.out _⟩
            rw [← hV]
            have HKV := Lib.hid hkV
            have HTV := Lib.hid htV
            have d1 := hkV.at_ (i := j) (by rw [HDJ.out]; omega)
            have d2 := hkV.at_ (i := j - 1) (by rw [HDJ.out]; omega)
            rw [HX.out] at d1
            rw [HY.out] at d2
            have e1 := hkV.frozen j
            have e2 := hkV.frozen (j - 1)
            clear hV hkV htV c1 c2 f1 f2
            repeat (first | go_skip | go_guarded | go_step)
            go_region
            obtain ⟨Z, hZ, hkZ, htZ⟩ : ∃ Z, Z = ((V.setCell { block := g, off := j } (Value.int IntKind.u32 y.toNat)).setCell { block := g, off := j - 1 } (Value.int IntKind.u32 x.toNat)).drew ∧ BkA Z g (Go.Sort.swp dj j (j - 1)) rest ∧ Turn (fun k => k = g) w Z :=
              ⟨_, rfl, HKV.out.swp (by rw [HDJ.out]; omega) (by rw [HDJ.out]; omega) HX.out HY.out, (usSwpT HTV.out g j (j - 1) rfl _ _).drew⟩
            rw [← hZ]
            have HKZ := Lib.hid hkZ
            have HTZ := Lib.hid htZ
            clear hZ hkZ htZ d1 d2 e1 e2
            repeat (first | go_skip | go_guarded | go_step)
            go_roundw
            case rel => exact ⟨j - 1, _, by go_num, by omega, by omega, by rw [Go.Sort.size_swp]; exact HDJ.out, by rw [← HI.out, insInner_step hja0 (by rw [HX.out, HY.out]; exact HL.out)], HKZ.out, HTZ.out⟩
            case measure => simp [intOf]; omega
          | false =>
            have HL := Lib.hid hxy
            clear hxy
            repeat (first | go_skip | go_guarded | go_step)
            go_roundw
            case rel => exact ⟨i + 1, dj, by go_num, by omega, by omega, HDJ.out, HEND.out (.inr (by rw [HX.out, HY.out]; exact HL.out)), HK2.out, usDrew HT2.out _⟩
            case measure => simp [intOf]; omega
        · have hjd : decide ((a : Int) < (j : Int)) = false := by simp; omega
          clear hbk hdj
          go_upto_region 4 with (fail)
          go_quiet (fail)
          repeat (first | go_skip | go_guarded | go_step)
          go_roundw
          case rel => exact ⟨i + 1, dj, by go_num, by omega, by omega, HDJ.out, HEND.out (.inl (by omega)), HK2.out, usDrew HT2.out _⟩
          case measure => simp [intOf]; omega
    · have hci : ¬ (i : Int) < (b : Int) := by omega
      have HE := Lib.hid (show Go.Sort.insertionSort ltU d a b = dk by unfold Go.Sort.insertionSort; rw [← HO.out, insOuter_end hlt])
      repeat (first | go_skip | go_guarded | go_step)
      go_end0
      exact ⟨rfl, by rw [HE.out]; exact HK.out, HT.out⟩
set_option maxRecDepth 100000 in
set_option maxHeartbeats 4000000 in
theorem usRev (g c a b : Nat) (d : Array UInt32) (rest : List Value) (w : World) (hb : BkA w g d rest) (hab : a < b) (hbd : b ≤ d.size) (hsz : d.size ≤ 1000000000000) :
    Calls Try.prog 32 #[.slice (some ⟨g, 0, none⟩) d.size c, .int .i64 (a : Int), .int .i64 (b : Int)] w fun e w' => e = .returned (.tuple #[]) ∧ BkA w' g (Go.Sort.reverseRange d a b) rest ∧ Turn (fun k => k = g) w w' := by
  have HB := Lib.hid hb
  clear hb
  obtain ⟨n, hn⟩ : ∃ n, n = d.size := ⟨_, rfl⟩
  rw [← hn] at hbd hsz ⊢
  have HN := Lib.hid hn
  clear hn
  have hb1 : ((b : Int) - 1) = ((b - 1 : Nat) : Int) := by omega
  go_enter Try.func32, Try.ntmps32
  repeat (first | go_skip | go_guarded | go_step)
  go_loopw [6, 7] (fun p q wr => ∃ (i j : Nat) (dk : Array UInt32), p = .int .i64 (i : Int) ∧ q = .int .i64 (j : Int) ∧ a ≤ i ∧ j ≤ b - 1 ∧ i ≤ j + 1 ∧ dk.size = n ∧ Go.Sort.reverseLoop i j dk = Go.Sort.reverseLoop a (b - 1) d ∧ BkA wr g dk rest ∧ Turn (fun k => k = g) w wr) (fun _ q _ => (intOf q).toNat)
  case atStart => exact ⟨a, b - 1, d, rfl, rfl, by omega, by omega, by omega, HN.out.symm, rfl, HB.out, Turn.refl _ _⟩
  case round =>
    rename World => wr
    obtain ⟨i, j, dk, rfl, rfl, hi1, hj1, hij, hdk, hO, hbk, ht⟩ := hrel
    have HO := Lib.hid hO
    have HK := Lib.hid hbk
    have HT := Lib.hid ht
    have HDK := Lib.hid hdk
    clear hO ht
    by_cases hlt : i < j
    · have hci : (i : Int) < (j : Int) := by omega
      have c1 := hbk.at_ (i := j) (by omega)
      have c2 := hbk.at_ (i := i) (by omega)
      have f1 := hbk.frozen j
      have f2 := hbk.frozen i
      generalize hx : dk[j]! = x at c1
      generalize hy : dk[i]! = y at c2
      have HX := Lib.hid hx
      have HY := Lib.hid hy
      have hjw : ((j : Int) - 1) = ((j - 1 : Nat) : Int) := by omega
      clear hbk hx hy hdk
      repeat (first | go_skip | go_guarded | go_step)
      go_region
      obtain ⟨Z, hZ, hkZ, htZ⟩ : ∃ Z, Z = ((wr.setCell { block := g, off := i } (Value.int IntKind.u32 x.toNat)).setCell { block := g, off := j } (Value.int IntKind.u32 y.toNat)).drew ∧ BkA Z g (Go.Sort.swp dk i j) rest ∧ Turn (fun k => k = g) w Z :=
        ⟨_, rfl, HK.out.swp (by rw [HDK.out]; omega) (by rw [HDK.out]; omega) HY.out HX.out, (usSwpT HT.out g i j rfl _ _).drew⟩
      rw [← hZ]
      have HKZ := Lib.hid hkZ
      have HTZ := Lib.hid htZ
      clear hZ hkZ htZ c1 c2 f1 f2
      repeat (first | go_skip | go_guarded | go_step)
      go_roundw
      case rel => exact ⟨i + 1, j - 1, _, by go_num, by go_num, by omega, by omega, by omega, by rw [Go.Sort.size_swp]; exact HDK.out, by rw [← HO.out]; conv => rhs; rw [Go.Sort.reverseLoop, if_pos hlt], HKZ.out, HTZ.out⟩
      case measure => simp [intOf]; omega
    · have hci : ¬ (i : Int) < (j : Int) := by omega
      have HE := Lib.hid (show Go.Sort.reverseRange d a b = dk by unfold Go.Sort.reverseRange; rw [← HO.out, Go.Sort.reverseLoop, if_neg hlt])
      clear hbk hdk
      repeat (first | go_skip | go_guarded | go_step)
      go_end0
      exact ⟨rfl, by rw [HE.out]; exact HK.out, HT.out⟩
end Go.Proofs.Ytedgigoelhcfnaa
