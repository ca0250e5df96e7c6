/- Texts, packed: UsA UsB UsC -/
import Derived.Test.YtfmghkplafploaaPwA
import Derived.Test.YtfmghkplafploaaRows
import Derived.Sort.AssemblyPlain
import Derived.Deep.QuietTactic
import Derived.BigQuiet
import Derived.StillTailTactics
import Derived.Deep.Cut
import Derived.Deep.RegionHeld3
set_option linter.unusedVariables false
set_option linter.unusedSimpArgs false
namespace Go.Proofs.Ytfmghkplafploaa
open Go Go.RowKit

abbrev nu (x : UInt32) : Value := .int .u32 (x.toNat : Int)
def ltU (x y : UInt32) : Bool := decide (x.toNat < y.toNat)
theorem swo_ltU : Go.Sort.SWO ltU where
  irrefl x := by unfold ltU; simp
  trans x y z h k := by unfold ltU at *; simp only [decide_eq_true_eq] at *; omega
  ntrans x y z h k := by unfold ltU at *; simp only [decide_eq_false_iff_not] at *; omega
theorem usNan (x : UInt32) (w : World) : Calls Try.prog 54 #[nu x] w fun e w' => e = .returned (.bool false) ∧ w' = w := by
  have hb : ((x.toNat : Int) != (x.toNat : Int)) = false := by simp
  go_enter Try.func54, Try.ntmps54
  repeat (first | go_skip | go_guarded | go_step)
  go_ret
  exact ⟨rfl, rfl⟩
theorem usLess (x y : UInt32) (w : World) : Calls Try.prog 31 #[nu x, nu y] w fun e w' => e = .returned (.bool (ltU x y)) ∧ w' = w := by
  go_enter Try.func31, Try.ntmps31
  repeat (first | go_skip | go_guarded | go_step)
  refine (usNan x w).mono ?_
  rintro e w' ⟨rfl, rfl⟩
  dsimp only
  repeat (first | go_skip | go_guarded | go_step)
  go_ret
  exact ⟨by unfold ltU; (first | rfl | simp), rfl⟩
/-- A block of numbers, with what lies behind them. -/
abbrev BkA (w : World) (g : Nat) (d : Array UInt32) (rest : List Value) : Prop := Bk w g 25 (d.toList.map nu ++ rest)
section
variable {w w' : World} {g : Nat} {d : Array UInt32} {rest : List Value}
theorem BkA.at_ (h : BkA w g d rest) {i : Nat} (hi : i < d.size) : w.cell? ⟨g, i, none⟩ = some (nu d[i]!) := by
  rw [h.cell, List.getElem?_append_left (by simpa using hi), List.getElem?_map, Array.getElem?_toList, getElem!_pos d i hi, Array.getElem?_eq_getElem hi]
  rfl
theorem BkA.set1 (h : BkA w g d rest) {i : Nat} (hi : i < d.size) (y : UInt32) : BkA (w.setCell ⟨g, i, none⟩ (nu y)) g (d.setIfInBounds i y) rest := by
  have h2 := h.set_ i (nu y)
  rw [List.set_append_left _ _ (by simpa using hi), ← List.map_set, ← Array.toList_setIfInBounds] at h2
  exact h2
theorem BkA.swp (h : BkA w g d rest) {i j : Nat} {x y : UInt32} (hi : i < d.size) (hj : j < d.size) (hx : d[i]! = x) (hy : d[j]! = y) :
    BkA ((w.setCell ⟨g, i, none⟩ (nu y)).setCell ⟨g, j, none⟩ (nu x)) g (Go.Sort.swp d i j) rest := by
  subst hx hy
  exact (h.set1 hi _).set1 (by simpa using hj) _
theorem usDrew {G : Nat → Prop} {a w : World} (h : Turn G a w) (n : Nat) : Turn G a (w.drewN n) := ⟨h.os, h.tape, h.output, h.size, h.block⟩
theorem usSwpT {G : Nat → Prop} {a w : World} (h : Turn G a w) (g i j : Nat) (hg : G g) (x y : Value) : Turn G a (((w.setCell ⟨g, i, none⟩ x).setCell ⟨g, j, none⟩ y)) :=
  (h.setCell (p := ⟨g, i, none⟩) (fun _ => hg) _).setCell (p := ⟨g, j, none⟩) (fun _ => hg) _
end
theorem insInner_step {lt : UInt32 → UInt32 → Bool} {a j : Nat} {d : Array UInt32} (ha : a < j) (h : lt d[j]! d[j - 1]! = true) : Go.Sort.insInner lt a j d = Go.Sort.insInner lt a (j - 1) (Go.Sort.swp d j (j - 1)) := by
  obtain ⟨k, rfl⟩ : ∃ k, j = k + 1 := ⟨j - 1, by omega⟩
  simp only [Nat.add_sub_cancel] at h ⊢
  rw [Go.Sort.insInner, if_pos (by simp [h]; omega)]
theorem insInner_end {lt : UInt32 → UInt32 → Bool} {a j : Nat} {d : Array UInt32} (h : j ≤ a ∨ lt d[j]! d[j - 1]! = false) : Go.Sort.insInner lt a j d = d := by
  cases j with
  | zero => rfl
  | succ k =>
    simp only [Nat.add_sub_cancel] at h
    rw [Go.Sort.insInner, if_neg]
    rcases h with h | h
    · simp; omega
    · simp [h]
theorem insOuter_step {lt : UInt32 → UInt32 → Bool} {a b i : Nat} {d : Array UInt32} (h : i < b) : Go.Sort.insOuter lt a b i d = Go.Sort.insOuter lt a b (i + 1) (Go.Sort.insInner lt a i d) := by
  rw [Go.Sort.insOuter, if_pos h]
theorem insOuter_end {lt : UInt32 → UInt32 → Bool} {a b i : Nat} {d : Array UInt32} (h : ¬ i < b) : Go.Sort.insOuter lt a b i d = d := by
  rw [Go.Sort.insOuter, if_neg h]
set_option maxRecDepth 100000 in
set_option maxHeartbeats 4000000 in
theorem usIns (g c a b : Nat) (d : Array UInt32) (rest : List Value) (w : World) (hb : BkA w g d rest) (hab : a ≤ b) (hbd : b ≤ d.size) (hsz : d.size ≤ 1000000000000) :
    Calls Try.prog 44 #[.slice (some ⟨g, 0, none⟩) d.size c, .int .i64 (a : Int), .int .i64 (b : Int)] w fun e w' => e = .returned (.tuple #[]) ∧ BkA w' g (Go.Sort.insertionSort ltU d a b) rest ∧ Turn (fun k => k = g) w w' := by
  have HB := Lib.hid hb
  clear hb
  obtain ⟨n, hn⟩ : ∃ n, n = d.size := ⟨_, rfl⟩
  rw [← hn] at hbd hsz ⊢
  have HN := Lib.hid hn
  clear hn
  go_enter Try.func44, Try.ntmps44
  repeat (first | go_skip | go_guarded | go_step)
  go_loopw [6] (fun q wr => ∃ (i : Nat) (dk : Array UInt32), q = .int .i64 (i : Int) ∧ a + 1 ≤ i ∧ i ≤ b + 1 ∧ dk.size = n ∧ Go.Sort.insOuter ltU a b i dk = Go.Sort.insOuter ltU a b (a + 1) d ∧ BkA wr g dk rest ∧ Turn (fun k => k = g) w wr) (fun q _ => b + 1 - (intOf q).toNat)
  case atStart => exact ⟨a + 1, d, by go_num, by omega, by omega, HN.out.symm, rfl, HB.out, Turn.refl _ _⟩
  case round =>
    obtain ⟨i, dk, rfl, hi1, hi2, hdk, hO, hbk, ht⟩ := hrel
    have HO := Lib.hid hO
    have HK := Lib.hid hbk
    have HT := Lib.hid ht
    have HDK := Lib.hid hdk
    clear hO hbk ht hdk
    by_cases hlt : i < b
    · have hci : (i : Int) < (b : Int) := by omega
      repeat (first | go_skip | go_guarded | go_step)
      rename World => w1
      go_loopw [7] (fun q wr => ∃ (j : Nat) (dj : Array UInt32), q = .int .i64 (j : Int) ∧ a ≤ j ∧ j ≤ i ∧ dj.size = n ∧ Go.Sort.insInner ltU a j dj = Go.Sort.insInner ltU a i dk ∧ BkA wr g dj rest ∧ Turn (fun k => k = g) w wr) (fun q _ => (intOf q).toNat)
      case atStart => exact ⟨i, dk, rfl, by omega, Nat.le_refl _, HDK.out, rfl, HK.out, HT.out⟩
      case round =>
        obtain ⟨j, dj, rfl, hja, hji, hdj, hI, hbk, ht⟩ := hrel
        have HI := Lib.hid hI
        have HK2 := Lib.hid hbk
        have HT2 := Lib.hid ht
        have HDJ := Lib.hid hdj
        have HEND := Lib.hid (show (j ≤ a ∨ ltU dj[j]! dj[j - 1]! = false) → Go.Sort.insOuter ltU a b (i + 1) dj = Go.Sort.insOuter ltU a b (a + 1) d from fun h => by
          rw [← HO.out, insOuter_step hlt, ← hI, insInner_end h])
        clear hI ht
        by_cases hja0 : a < j
        · have hjd : decide ((a : Int) < (j : Int)) = true := by simp; omega
          have c1 := hbk.at_ (i := j) (by omega)
          have c2 := hbk.at_ (i := j - 1) (by omega)
          have f1 := hbk.frozen j
          have f2 := hbk.frozen (j - 1)
          generalize hx : dj[j]! = x at c1
          generalize hy : dj[j - 1]! = y at c2
          have HX := Lib.hid hx
          have HY := Lib.hid hy
          have hjw : ((j : Int) - 1) = ((j - 1 : Nat) : Int) := by omega
          clear hbk hx hy hdj
          go_upto_region 4 with (fail)
          go_quiet (refine Calls.quiet_of_same (usLess _ _ _))
          cases hxy : ltU x y with
          | true =>
            have HL := Lib.hid hxy
            clear hxy
            obtain ⟨V, hV, hkV, htV⟩ : ∃ V, V = wr.drewN nq ∧ BkA V g dj rest ∧ Turn (fun k => k = g) w V := ⟨_, rfl, HK2.out, usDrew HT2.out _⟩
            rw [← hV]
            have HKV := Lib.hid hkV
            have HTV := Lib.hid htV
            have d1 := hkV.at_ (i := j) (by rw [HDJ.out]; omega)
            have d2 := hkV.at_ (i := j - 1) (by rw [HDJ.out]; omega)
            rw [HX.out] at d1
            rw [HY.out] at d2
            have e1 := hkV.frozen j
            have e2 := hkV.frozen (j - 1)
            clear hV hkV htV c1 c2 f1 f2
            repeat (first | go_skip | go_guarded | go_step)
            go_region
            obtain ⟨Z, hZ, hkZ, htZ⟩ : ∃ Z, Z = ((V.setCell { block := g, off := j } (Value.int IntKind.u32 y.toNat)).setCell { block := g, off := j - 1 } (Value.int IntKind.u32 x.toNat)).drew ∧ BkA Z g (Go.Sort.swp dj j (j - 1)) rest ∧ Turn (fun k => k = g) w Z :=
              ⟨_, rfl, HKV.out.swp (by rw [HDJ.out]; omega) (by rw [HDJ.out]; omega) HX.out HY.out, (usSwpT HTV.out g j (j - 1) rfl _ _).drew⟩
            rw [← hZ]
            have HKZ := Lib.hid hkZ
            have HTZ := Lib.hid htZ
            clear hZ hkZ htZ d1 d2 e1 e2
            repeat (first | go_skip | go_guarded | go_step)
            go_roundw
            case rel => exact ⟨j - 1, _, by go_num, by omega, by omega, by rw [Go.Sort.size_swp]; exact HDJ.out, by rw [← HI.out, insInner_step hja0 (by rw [HX.out, HY.out]; exact HL.out)], HKZ.out, HTZ.out⟩
            case measure => simp [intOf]; omega
          | false =>
            have HL := Lib.hid hxy
            clear hxy
            repeat (first | go_skip | go_guarded | go_step)
            go_roundw
            case rel => exact ⟨i + 1, dj, by go_num, by omega, by omega, HDJ.out, HEND.out (.inr (by rw [HX.out, HY.out]; exact HL.out)), HK2.out, usDrew HT2.out _⟩
            case measure => simp [intOf]; omega
        · have hjd : decide ((a : Int) < (j : Int)) = false := by simp; omega
          clear hbk hdj
          go_upto_region 4 with (fail)
          go_quiet (fail)
          repeat (first | go_skip | go_guarded | go_step)
          go_roundw
          case rel => exact ⟨i + 1, dj, by go_num, by omega, by omega, HDJ.out, HEND.out (.inl (by omega)), HK2.out, usDrew HT2.out _⟩
          case measure => simp [intOf]; omega
    · have hci : ¬ (i : Int) < (b : Int) := by omega
      have HE := Lib.hid (show Go.Sort.insertionSort ltU d a b = dk by unfold Go.Sort.insertionSort; rw [← HO.out, insOuter_end hlt])
      repeat (first | go_skip | go_guarded | go_step)
      go_end0
      exact ⟨rfl, by rw [HE.out]; exact HK.out, HT.out⟩
set_option maxRecDepth 100000 in
set_option maxHeartbeats 4000000 in
theorem usRev (g c a b : Nat) (d : Array UInt32) (rest : List Value) (w : World) (hb : BkA w g d rest) (hab : a < b) (hbd : b ≤ d.size) (hsz : d.size ≤ 1000000000000) :
    Calls Try.prog 48 #[.slice (some ⟨g, 0, none⟩) d.size c, .int .i64 (a : Int), .int .i64 (b : Int)] w fun e w' => e = .returned (.tuple #[]) ∧ BkA w' g (Go.Sort.reverseRange d a b) rest ∧ Turn (fun k => k = g) w w' := by
  have HB := Lib.hid hb
  clear hb
  obtain ⟨n, hn⟩ : ∃ n, n = d.size := ⟨_, rfl⟩
  rw [← hn] at hbd hsz ⊢
  have HN := Lib.hid hn
  clear hn
  have hb1 : ((b : Int) - 1) = ((b - 1 : Nat) : Int) := by omega
  go_enter Try.func48, Try.ntmps48
  repeat (first | go_skip | go_guarded | go_step)
  go_loopw [6, 7] (fun p q wr => ∃ (i j : Nat) (dk : Array UInt32), p = .int .i64 (i : Int) ∧ q = .int .i64 (j : Int) ∧ a ≤ i ∧ j ≤ b - 1 ∧ i ≤ j + 1 ∧ dk.size = n ∧ Go.Sort.reverseLoop i j dk = Go.Sort.reverseLoop a (b - 1) d ∧ BkA wr g dk rest ∧ Turn (fun k => k = g) w wr) (fun _ q _ => (intOf q).toNat)
  case atStart => exact ⟨a, b - 1, d, rfl, rfl, by omega, by omega, by omega, HN.out.symm, rfl, HB.out, Turn.refl _ _⟩
  case round =>
    rename World => wr
    obtain ⟨i, j, dk, rfl, rfl, hi1, hj1, hij, hdk, hO, hbk, ht⟩ := hrel
    have HO := Lib.hid hO
    have HK := Lib.hid hbk
    have HT := Lib.hid ht
    have HDK := Lib.hid hdk
    clear hO ht
    by_cases hlt : i < j
    · have hci : (i : Int) < (j : Int) := by omega
      have c1 := hbk.at_ (i := j) (by omega)
      have c2 := hbk.at_ (i := i) (by omega)
      have f1 := hbk.frozen j
      have f2 := hbk.frozen i
      generalize hx : dk[j]! = x at c1
      generalize hy : dk[i]! = y at c2
      have HX := Lib.hid hx
      have HY := Lib.hid hy
      have hjw : ((j : Int) - 1) = ((j - 1 : Nat) : Int) := by omega
      clear hbk hx hy hdk
      repeat (first | go_skip | go_guarded | go_step)
      go_region
      obtain ⟨Z, hZ, hkZ, htZ⟩ : ∃ Z, Z = ((wr.setCell { block := g, off := i } (Value.int IntKind.u32 x.toNat)).setCell { block := g, off := j } (Value.int IntKind.u32 y.toNat)).drew ∧ BkA Z g (Go.Sort.swp dk i j) rest ∧ Turn (fun k => k = g) w Z :=
        ⟨_, rfl, HK.out.swp (by rw [HDK.out]; omega) (by rw [HDK.out]; omega) HY.out HX.out, (usSwpT HT.out g i j rfl _ _).drew⟩
      rw [← hZ]
      have HKZ := Lib.hid hkZ
      have HTZ := Lib.hid htZ
      clear hZ hkZ htZ c1 c2 f1 f2
      repeat (first | go_skip | go_guarded | go_step)
      go_roundw
      case rel => exact ⟨i + 1, j - 1, _, by go_num, by go_num, by omega, by omega, by omega, by rw [Go.Sort.size_swp]; exact HDK.out, by rw [← HO.out]; conv => rhs; rw [Go.Sort.reverseLoop, if_pos hlt], HKZ.out, HTZ.out⟩
      case measure => simp [intOf]; omega
    · have hci : ¬ (i : Int) < (j : Int) := by omega
      have HE := Lib.hid (show Go.Sort.reverseRange d a b = dk by unfold Go.Sort.reverseRange; rw [← HO.out, Go.Sort.reverseLoop, if_neg hlt])
      clear hbk hdk
      repeat (first | go_skip | go_guarded | go_step)
      go_end0
      exact ⟨rfl, by rw [HE.out]; exact HK.out, HT.out⟩
end Go.Proofs.Ytfmghkplafploaa

set_option linter.unusedVariables false
set_option linter.unusedSimpArgs false
namespace Go.Proofs.Ytfmghkplafploaa
open Go Go.RowKit

theorem sift_end {lt : UInt32 → UInt32 → Bool} {hi F root : Nat} {d : Array UInt32} (h : ¬ 2 * root + 1 < hi) : Go.Sort.siftDown lt hi F root d = d := by
  rw [Go.Sort.siftDown, dif_pos (by omega)]
theorem sift_ge {lt : UInt32 → UInt32 → Bool} {hi F root ch : Nat} {d : Array UInt32} (h : 2 * root + 1 < hi)
    (hc : (ch = 2 * root + 2 ∧ 2 * root + 2 < hi ∧ lt d[F + (2 * root + 1)]! d[F + (2 * root + 2)]! = true) ∨ (ch = 2 * root + 1 ∧ (¬ 2 * root + 2 < hi ∨ lt d[F + (2 * root + 1)]! d[F + (2 * root + 2)]! = false)))
    (hl : lt d[F + root]! d[F + ch]! = false) : Go.Sort.siftDown lt hi F root d = d := by
  rw [Go.Sort.siftDown, dif_neg (by omega)]
  rcases hc with ⟨rfl, h1, h2⟩ | ⟨rfl, h1⟩
  · rw [if_pos (by rw [show F + (2 * root + 1) + 1 = F + (2 * root + 2) by omega, h2]; simp; omega), if_pos (by rw [hl]; rfl)]
  · rw [if_neg (by
      rcases h1 with h1 | h1
      · simp; omega
      · rw [show F + (2 * root + 1) + 1 = F + (2 * root + 2) by omega, h1]; simp), if_pos (by rw [hl]; rfl)]
theorem sift_step {lt : UInt32 → UInt32 → Bool} {hi F root ch : Nat} {d : Array UInt32} (h : 2 * root + 1 < hi)
    (hc : (ch = 2 * root + 2 ∧ 2 * root + 2 < hi ∧ lt d[F + (2 * root + 1)]! d[F + (2 * root + 2)]! = true) ∨ (ch = 2 * root + 1 ∧ (¬ 2 * root + 2 < hi ∨ lt d[F + (2 * root + 1)]! d[F + (2 * root + 2)]! = false)))
    (hl : lt d[F + root]! d[F + ch]! = true) : Go.Sort.siftDown lt hi F root d = Go.Sort.siftDown lt hi F ch (Go.Sort.swp d (F + root) (F + ch)) := by
  conv => lhs; rw [Go.Sort.siftDown, dif_neg (by omega)]
  rcases hc with ⟨rfl, h1, h2⟩ | ⟨rfl, h1⟩
  · rw [if_pos (by rw [show F + (2 * root + 1) + 1 = F + (2 * root + 2) by omega, h2]; simp; omega), if_neg (by rw [hl]; decide), dif_pos h1]
  · rw [if_neg (by
      rcases h1 with h1 | h1
      · simp; omega
      · rw [show F + (2 * root + 1) + 1 = F + (2 * root + 2) by omega, h1]; simp), if_neg (by rw [hl]; decide)]
theorem sift_size (lt : UInt32 → UInt32 → Bool) (hi F : Nat) : ∀ (n root : Nat) (d : Array UInt32), hi - root ≤ n → (Go.Sort.siftDown lt hi F root d).size = d.size := by
  intro n
  induction n with
  | zero => intro root d h; rw [sift_end (by omega)]
  | succ n ih =>
    intro root d h
    by_cases h1 : 2 * root + 1 < hi
    · by_cases h2 : 2 * root + 2 < hi ∧ lt d[F + (2 * root + 1)]! d[F + (2 * root + 2)]! = true
      · cases h3 : lt d[F + root]! d[F + (2 * root + 2)]! with
        | false => rw [sift_ge h1 (.inl ⟨rfl, h2.1, h2.2⟩) h3]
        | true => rw [sift_step h1 (.inl ⟨rfl, h2.1, h2.2⟩) h3, ih _ _ (by omega), Go.Sort.size_swp]
      · have h4 : ¬ 2 * root + 2 < hi ∨ lt d[F + (2 * root + 1)]! d[F + (2 * root + 2)]! = false := by
          by_cases h5 : 2 * root + 2 < hi
          · right; cases h6 : lt d[F + (2 * root + 1)]! d[F + (2 * root + 2)]! with
            | false => rfl
            | true => exact absurd ⟨h5, h6⟩ h2
          · exact .inl h5
        cases h3 : lt d[F + root]! d[F + (2 * root + 1)]! with
        | false => rw [sift_ge h1 (.inr ⟨rfl, h4⟩) h3]
        | true => rw [sift_step h1 (.inr ⟨rfl, h4⟩) h3, ih _ _ (by omega), Go.Sort.size_swp]
    · rw [sift_end h1]
set_option maxRecDepth 100000 in
set_option maxHeartbeats 8000000 in
theorem usSift (g c lo hi F : Nat) (d : Array UInt32) (rest : List Value) (w : World) (n : Nat) (hn : n = d.size) (hb : BkA w g d rest) (hlo : lo ≤ hi) (hbd : F + hi ≤ n) (hsz : n ≤ 1000000000000) :
    Calls Try.prog 67 #[.slice (some ⟨g, 0, none⟩) n c, .int .i64 (lo : Int), .int .i64 (hi : Int), .int .i64 (F : Int)] w fun e w' => e = .returned (.tuple #[]) ∧ BkA w' g (Go.Sort.siftDown ltU hi F lo d) rest ∧ Turn (fun k => k = g) w w' := by
  have HB := Lib.hid hb
  have HN := Lib.hid hn
  clear hb hn
  go_enter Try.func67, Try.ntmps67
  repeat (first | go_skip | go_guarded | go_step)
  go_loopw [8] (fun q wr => ∃ (r : Nat) (dk : Array UInt32), q = .int .i64 (r : Int) ∧ r ≤ hi ∧ dk.size = n ∧ Go.Sort.siftDown ltU hi F r dk = Go.Sort.siftDown ltU hi F lo d ∧ BkA wr g dk rest ∧ Turn (fun k => k = g) w wr) (fun q _ => hi - (intOf q).toNat)
  case atStart => exact ⟨lo, d, rfl, hlo, HN.out.symm, rfl, HB.out, Turn.refl _ _⟩
  case round =>
    obtain ⟨r, dk, rfl, hr, hdk, hO, hbk, ht⟩ := hrel
    have HO := Lib.hid hO
    have HK := Lib.hid hbk
    have HT := Lib.hid ht
    have HDK := Lib.hid hdk
    clear hO ht
    obtain ⟨ch, hch⟩ : ∃ ch, ch = 2 * r + 1 := ⟨_, rfl⟩
    have e1 : (2 * (r : Int) + 1) = (ch : Int) := by omega
    by_cases h1 : ch < hi
    · have h1i : ¬ (hi : Int) ≤ (ch : Int) := by omega
      obtain ⟨fr, hfr⟩ : ∃ fr, fr = F + r := ⟨_, rfl⟩
      obtain ⟨fc, hfc⟩ : ∃ fc, fc = F + ch := ⟨_, rfl⟩
      have e2 : ((F : Int) + (r : Int)) = (fr : Int) := by omega
      have e3 : ((F : Int) + (ch : Int)) = (fc : Int) := by omega
      have cr := hbk.at_ (i := fr) (by omega)
      have cc := hbk.at_ (i := fc) (by omega)
      have HS := Lib.hid (show ∀ ch2, ((ch2 = 2 * r + 2 ∧ 2 * r + 2 < hi ∧ ltU dk[F + (2 * r + 1)]! dk[F + (2 * r + 2)]! = true) ∨ (ch2 = 2 * r + 1 ∧ (¬ 2 * r + 2 < hi ∨ ltU dk[F + (2 * r + 1)]! dk[F + (2 * r + 2)]! = false))) → (ltU dk[F + r]! dk[F + ch2]! = false → Go.Sort.siftDown ltU hi F lo d = dk) ∧ (ltU dk[F + r]! dk[F + ch2]! = true → Go.Sort.siftDown ltU hi F ch2 (Go.Sort.swp dk (F + r) (F + ch2)) = Go.Sort.siftDown ltU hi F lo d) from fun ch2 hc => ⟨fun hl => by rw [← HO.out]; exact sift_ge (by omega) hc hl, fun hl => by rw [← HO.out]; exact (sift_step (by omega) hc hl).symm⟩)
      have HCH := Lib.hid hch
      have HFR := Lib.hid hfr
      have HFC := Lib.hid hfc
      by_cases h2 : ch + 1 < hi
      · have h2i : ((ch : Int) + 1) < (hi : Int) := by omega
        obtain ⟨fd, hfd⟩ : ∃ fd, fd = F + ch + 1 := ⟨_, rfl⟩
        have e4 : ((fc : Int) + 1) = (fd : Int) := by omega
        have cd := hbk.at_ (i := fd) (by omega)
        have HFD := Lib.hid hfd
        generalize hx : dk[fr]! = x at cr
        generalize hy : dk[fc]! = y at cc
        generalize hz : dk[fd]! = z at cd
        have HX := Lib.hid hx
        have HY := Lib.hid hy
        have HZ := Lib.hid hz
        clear hbk hdk hx hy hz hch hfr hfc hfd
        go_upto_region 3 with (fail)
        go_quiet (refine Calls.quiet_of_same (usLess _ _ _))
        obtain ⟨V, hV, hkV, htV⟩ : ∃ V, V = wr.drewN nq ∧ BkA V g dk rest ∧ Turn (fun k => k = g) w V := ⟨_, rfl, HK.out, usDrew HT.out _⟩
        rw [← hV]
        have HKV := Lib.hid hkV
        have HTV := Lib.hid htV
        have HCH2 := Lib.hid (show ch + 1 = 2 * r + 2 by rw [HCH.out])
        cases hyz : ltU y z with
        | true =>
          have HC := Lib.hid (show ((ch + 1 = 2 * r + 2 ∧ 2 * r + 2 < hi ∧ ltU dk[F + (2 * r + 1)]! dk[F + (2 * r + 2)]! = true) ∨ (ch + 1 = 2 * r + 1 ∧ (¬ 2 * r + 2 < hi ∨ ltU dk[F + (2 * r + 1)]! dk[F + (2 * r + 2)]! = false))) from .inl ⟨HCH2.out, by rw [← HCH2.out]; exact h2, by rw [← HCH2.out, ← HCH.out, ← Nat.add_assoc F ch 1, ← HFD.out, ← HFC.out, HY.out, HZ.out]; exact hyz⟩)
          clear hyz
          obtain ⟨cn, hcn⟩ : ∃ cn, cn = ch + 1 := ⟨_, rfl⟩
          rw [← hcn] at HC
          have e5 : ((ch : Int) + 1) = (cn : Int) := by omega
          have e6 : ((F : Int) + (cn : Int)) = (fd : Int) := by have := HFD.out; omega
          have hrc : r < cn := by have := HCH.out; omega
          have hcnh : cn ≤ hi := by omega
          have HCN := Lib.hid (show F + cn = F + ch + 1 by rw [hcn]; rfl)
          clear hcn
          have c1 := hkV.at_ (i := fr) (by rw [HDK.out, HFR.out]; omega)
          have c2 := hkV.at_ (i := fd) (by rw [HDK.out, HFD.out]; omega)
          rw [HX.out] at c1
          rw [HZ.out] at c2
          clear hV hkV htV
          go_upto_region 5 with (fail)
          go_quiet (refine Calls.quiet_of_same (usLess _ _ _))
          obtain ⟨U, hU, hkU, htU⟩ : ∃ U, U = V.drewN nq ∧ BkA U g dk rest ∧ Turn (fun k => k = g) w U := ⟨_, rfl, HKV.out, usDrew HTV.out _⟩
          rw [← hU]
          have HKU := Lib.hid hkU
          have HTU := Lib.hid htU
          clear c1 c2
          cases hl : ltU x z with
          | false =>
            have HE := Lib.hid ((HS.out cn HC.out).1 (by rw [HCN.out, ← HFR.out, ← HFD.out, HX.out, HZ.out]; exact hl))
            clear hl hU hkU htU
            repeat (first | go_skip | go_guarded | go_step)
            refine bodyPost_ret (results_none rfl _ _ _) rfl ?_
            exact ⟨rfl, by rw [HE.out]; exact HKU.out, HTU.out⟩
          | true =>
            have HE := Lib.hid ((HS.out cn HC.out).2 (by rw [HCN.out, ← HFR.out, ← HFD.out, HX.out, HZ.out]; exact hl))
            have c1 := hkU.at_ (i := fr) (by rw [HDK.out, HFR.out]; omega)
            have c2 := hkU.at_ (i := fd) (by rw [HDK.out, HFD.out]; omega)
            rw [HX.out] at c1
            rw [HZ.out] at c2
            have f1 := hkU.frozen fr
            have f2 := hkU.frozen fd
            have hne : ¬ fr = fd := by rw [HFR.out, HFD.out]; omega
            clear hl hU hkU htU
            repeat (first | go_skip | go_guarded | go_step)
            go_region
            obtain ⟨Z, hZ, hkZ, htZ⟩ : ∃ Z, Z = ((U.setCell { block := g, off := fr } (Value.int IntKind.u32 z.toNat)).setCell { block := g, off := fd } (Value.int IntKind.u32 x.toNat)).drew ∧ BkA Z g (Go.Sort.swp dk fr fd) rest ∧ Turn (fun k => k = g) w Z :=
              ⟨_, rfl, HKU.out.swp (by rw [HDK.out, HFR.out]; omega) (by rw [HDK.out, HFD.out]; omega) HX.out HZ.out, (usSwpT HTU.out g fr fd rfl _ _).drew⟩
            rw [← hZ]
            have HKZ := Lib.hid hkZ
            have HTZ := Lib.hid htZ
            clear hZ hkZ htZ c1 c2 f1 f2
            repeat (first | go_skip | go_guarded | go_step)
            go_roundw
            case rel => exact ⟨cn, _, rfl, by omega, by rw [Go.Sort.size_swp]; exact HDK.out, HE.out, by have := HKZ.out; rw [HFR.out, HFD.out] at this; (try rw [HCN.out]); exact this, HTZ.out⟩
            case measure => simp [intOf]; omega
        | false =>
          have HC := Lib.hid (show ((ch = 2 * r + 2 ∧ 2 * r + 2 < hi ∧ ltU dk[F + (2 * r + 1)]! dk[F + (2 * r + 2)]! = true) ∨ (ch = 2 * r + 1 ∧ (¬ 2 * r + 2 < hi ∨ ltU dk[F + (2 * r + 1)]! dk[F + (2 * r + 2)]! = false))) from .inr ⟨HCH.out, .inr (by rw [← HCH2.out, ← HCH.out, ← Nat.add_assoc F ch 1, ← HFD.out, ← HFC.out, HY.out, HZ.out]; exact hyz)⟩)
          clear hyz
          have hrc : r < ch := by have := HCH.out; omega
          have c1 := hkV.at_ (i := fr) (by rw [HDK.out, HFR.out]; omega)
          have c2 := hkV.at_ (i := fc) (by rw [HDK.out, HFC.out]; omega)
          rw [HX.out] at c1
          rw [HY.out] at c2
          clear hV hkV htV
          go_upto_region 5 with (fail)
          go_quiet (refine Calls.quiet_of_same (usLess _ _ _))
          obtain ⟨U, hU, hkU, htU⟩ : ∃ U, U = V.drewN nq ∧ BkA U g dk rest ∧ Turn (fun k => k = g) w U := ⟨_, rfl, HKV.out, usDrew HTV.out _⟩
          rw [← hU]
          have HKU := Lib.hid hkU
          have HTU := Lib.hid htU
          clear c1 c2
          cases hl : ltU x y with
          | false =>
            have HE := Lib.hid ((HS.out ch HC.out).1 (by rw [show F + ch = F + ch from rfl, ← HFR.out, ← HFC.out, HX.out, HY.out]; exact hl))
            clear hl hU hkU htU
            repeat (first | go_skip | go_guarded | go_step)
            refine bodyPost_ret (results_none rfl _ _ _) rfl ?_
            exact ⟨rfl, by rw [HE.out]; exact HKU.out, HTU.out⟩
          | true =>
            have HE := Lib.hid ((HS.out ch HC.out).2 (by rw [show F + ch = F + ch from rfl, ← HFR.out, ← HFC.out, HX.out, HY.out]; exact hl))
            have c1 := hkU.at_ (i := fr) (by rw [HDK.out, HFR.out]; omega)
            have c2 := hkU.at_ (i := fc) (by rw [HDK.out, HFC.out]; omega)
            rw [HX.out] at c1
            rw [HY.out] at c2
            have f1 := hkU.frozen fr
            have f2 := hkU.frozen fc
            have hne : ¬ fr = fc := by rw [HFR.out, HFC.out]; omega
            clear hl hU hkU htU
            repeat (first | go_skip | go_guarded | go_step)
            go_region
            obtain ⟨Z, hZ, hkZ, htZ⟩ : ∃ Z, Z = ((U.setCell { block := g, off := fr } (Value.int IntKind.u32 y.toNat)).setCell { block := g, off := fc } (Value.int IntKind.u32 x.toNat)).drew ∧ BkA Z g (Go.Sort.swp dk fr fc) rest ∧ Turn (fun k => k = g) w Z :=
              ⟨_, rfl, HKU.out.swp (by rw [HDK.out, HFR.out]; omega) (by rw [HDK.out, HFC.out]; omega) HX.out HY.out, (usSwpT HTU.out g fr fc rfl _ _).drew⟩
            rw [← hZ]
            have HKZ := Lib.hid hkZ
            have HTZ := Lib.hid htZ
            clear hZ hkZ htZ c1 c2 f1 f2
            repeat (first | go_skip | go_guarded | go_step)
            go_roundw
            case rel => exact ⟨ch, _, rfl, by omega, by rw [Go.Sort.size_swp]; exact HDK.out, HE.out, by have := HKZ.out; rw [HFR.out, HFC.out] at this; (try rw [HCN.out]); exact this, HTZ.out⟩
            case measure => simp [intOf]; omega
      · have h2i : ¬ ((ch : Int) + 1) < (hi : Int) := by omega
        have HC := Lib.hid (show ((ch = 2 * r + 2 ∧ 2 * r + 2 < hi ∧ ltU dk[F + (2 * r + 1)]! dk[F + (2 * r + 2)]! = true) ∨ (ch = 2 * r + 1 ∧ (¬ 2 * r + 2 < hi ∨ ltU dk[F + (2 * r + 1)]! dk[F + (2 * r + 2)]! = false))) from .inr ⟨hch, .inl (by omega)⟩)
        have hrc : r < ch := by omega
        generalize hx : dk[fr]! = x at cr
        generalize hy : dk[fc]! = y at cc
        have HX := Lib.hid hx
        have HY := Lib.hid hy
        clear hbk hdk hx hy hch hfr hfc
        go_upto_region 3 with (fail)
        go_quiet (fail)
        obtain ⟨V, hV, hkV, htV⟩ : ∃ V, V = wr.drewN nq ∧ BkA V g dk rest ∧ Turn (fun k => k = g) w V := ⟨_, rfl, HK.out, usDrew HT.out _⟩
        rw [← hV]
        have HKV := Lib.hid hkV
        have HTV := Lib.hid htV
        have c1 := hkV.at_ (i := fr) (by rw [HDK.out, HFR.out]; omega)
        have c2 := hkV.at_ (i := fc) (by rw [HDK.out, HFC.out]; omega)
        rw [HX.out] at c1
        rw [HY.out] at c2
        clear hV hkV htV
        go_upto_region 5 with (fail)
        go_quiet (refine Calls.quiet_of_same (usLess _ _ _))
        obtain ⟨U, hU, hkU, htU⟩ : ∃ U, U = V.drewN nq ∧ BkA U g dk rest ∧ Turn (fun k => k = g) w U := ⟨_, rfl, HKV.out, usDrew HTV.out _⟩
        rw [← hU]
        have HKU := Lib.hid hkU
        have HTU := Lib.hid htU
        clear c1 c2
        cases hl : ltU x y with
        | false =>
          have HE := Lib.hid ((HS.out ch HC.out).1 (by rw [show F + ch = F + ch from rfl, ← HFR.out, ← HFC.out, HX.out, HY.out]; exact hl))
          clear hl hU hkU htU
          repeat (first | go_skip | go_guarded | go_step)
          refine bodyPost_ret (results_none rfl _ _ _) rfl ?_
          exact ⟨rfl, by rw [HE.out]; exact HKU.out, HTU.out⟩
        | true =>
          have HE := Lib.hid ((HS.out ch HC.out).2 (by rw [show F + ch = F + ch from rfl, ← HFR.out, ← HFC.out, HX.out, HY.out]; exact hl))
          have c1 := hkU.at_ (i := fr) (by rw [HDK.out, HFR.out]; omega)
          have c2 := hkU.at_ (i := fc) (by rw [HDK.out, HFC.out]; omega)
          rw [HX.out] at c1
          rw [HY.out] at c2
          have f1 := hkU.frozen fr
          have f2 := hkU.frozen fc
          have hne : ¬ fr = fc := by rw [HFR.out, HFC.out]; omega
          clear hl hU hkU htU
          repeat (first | go_skip | go_guarded | go_step)
          go_region
          obtain ⟨Z, hZ, hkZ, htZ⟩ : ∃ Z, Z = ((U.setCell { block := g, off := fr } (Value.int IntKind.u32 y.toNat)).setCell { block := g, off := fc } (Value.int IntKind.u32 x.toNat)).drew ∧ BkA Z g (Go.Sort.swp dk fr fc) rest ∧ Turn (fun k => k = g) w Z :=
            ⟨_, rfl, HKU.out.swp (by rw [HDK.out, HFR.out]; omega) (by rw [HDK.out, HFC.out]; omega) HX.out HY.out, (usSwpT HTU.out g fr fc rfl _ _).drew⟩
          rw [← hZ]
          have HKZ := Lib.hid hkZ
          have HTZ := Lib.hid htZ
          clear hZ hkZ htZ c1 c2 f1 f2
          repeat (first | go_skip | go_guarded | go_step)
          go_roundw
          case rel => exact ⟨ch, _, rfl, by omega, by rw [Go.Sort.size_swp]; exact HDK.out, HE.out, by have := HKZ.out; rw [HFR.out, HFC.out] at this; (try rw [HCN.out]); exact this, HTZ.out⟩
          case measure => simp [intOf]; omega
    · have h1i : (hi : Int) ≤ (ch : Int) := by omega
      have HE := Lib.hid (show Go.Sort.siftDown ltU hi F lo d = dk by rw [← HO.out, sift_end (by omega)])
      clear hbk hdk hch
      repeat (first | go_skip | go_guarded | go_step)
      go_end0
      exact ⟨rfl, by rw [HE.out]; exact HK.out, HT.out⟩
end Go.Proofs.Ytfmghkplafploaa

set_option linter.unusedVariables false
set_option linter.unusedSimpArgs false
namespace Go.Proofs.Ytfmghkplafploaa
open Go Go.RowKit

set_option maxRecDepth 100000 in
set_option maxHeartbeats 8000000 in
theorem usHeap (g c a b : Nat) (d : Array UInt32) (rest : List Value) (w : World) (n : Nat) (hn : n = d.size) (hb : BkA w g d rest) (hab : a < b) (hbd : b ≤ n) (hsz : n ≤ 1000000000000) :
    Calls Try.prog 45 #[.slice (some ⟨g, 0, none⟩) n c, .int .i64 (a : Int), .int .i64 (b : Int)] w fun e w' => e = .returned (.tuple #[]) ∧ BkA w' g (Go.Sort.heapSort ltU d a b) rest ∧ Turn (fun k => k = g) w w' := by
  have HB := Lib.hid hb
  have HN := Lib.hid hn
  obtain ⟨m, hm⟩ : ∃ m, m = b - a := ⟨_, rfl⟩
  have HM := Lib.hid hm
  obtain ⟨h, hh⟩ : ∃ h, h = (m - 1) / 2 := ⟨_, rfl⟩
  have e0 : ((b : Int) - (a : Int)) = (m : Int) := by omega
  have e1 : Int.tdiv ((m : Int) - 1) 2 = (h : Int) := by rw [Int.tdiv_eq_ediv_of_nonneg (by omega)]; omega
  have hm0 : 0 < m := by omega
  have hma : a + m = b := by omega
  have hhm : h < m := by omega
  have HHH := Lib.hid hh
  clear hb hn hm hh
  go_enter Try.func45, Try.ntmps45
  repeat (first | go_skip | go_guarded | go_step)
  go_loopw [9] (fun q wr => ∃ (k : Nat) (dk : Array UInt32), q = .int .i64 ((k : Int) - 1) ∧ k ≤ h + 1 ∧ dk.size = n ∧ Go.Sort.heapBuild ltU m a k dk = Go.Sort.heapBuild ltU m a (h + 1) d ∧ BkA wr g dk rest ∧ Turn (fun k => k = g) w wr) (fun q _ => (intOf q + 1).toNat)
  case atStart => exact ⟨h + 1, d, by congr 1; omega, Nat.le_refl _, HN.out.symm, rfl, HB.out, Turn.refl _ _⟩
  case round =>
    obtain ⟨k, dk, rfl, hk, hdk, hO, hbk, ht⟩ := hrel
    have HO := Lib.hid hO
    have HK := Lib.hid hbk
    have HT := Lib.hid ht
    have HDK := Lib.hid hdk
    clear hO hbk ht hdk
    cases k with
    | zero =>
      have hd0 : decide ((0 : Int) ≤ ((0 : Nat) : Int) - 1) = false := by simp
      have hq : (((0 : Nat) : Int) - 1) = -1 := by omega
      have hd1 : ¬ (0 : Int) ≤ -1 := by omega
      have e3 : ((m : Int) - 1) = (((m - 1 : Nat)) : Int) := by omega
      rw [hq]
      clear hd0 hq
      repeat (first | go_skip | go_guarded | go_step)
      rename World => w1
      go_loopw [10] (fun q wr => ∃ (k : Nat) (dj : Array UInt32), q = .int .i64 ((k : Int) - 1) ∧ k ≤ m ∧ dj.size = n ∧ Go.Sort.heapPop ltU a k dj = Go.Sort.heapPop ltU a m dk ∧ BkA wr g dj rest ∧ Turn (fun k => k = g) w wr) (fun q _ => (intOf q + 1).toNat)
      case atStart => exact ⟨m, dk, by congr 1; omega, Nat.le_refl _, HDK.out, rfl, HK.out, HT.out⟩
      case round =>
        obtain ⟨k, dj, rfl, hk2, hdj, hO2, hbk, ht⟩ := hrel
        have HO2 := Lib.hid hO2
        have HK2 := Lib.hid hbk
        have HT2 := Lib.hid ht
        have HDJ := Lib.hid hdj
        clear hO2 ht
        cases k with
        | zero =>
          have hq : (((0 : Nat) : Int) - 1) = -1 := by omega
          have hd1 : ¬ (0 : Int) ≤ -1 := by omega
          have HE := Lib.hid (show Go.Sort.heapSort ltU d a b = dj by
            unfold Go.Sort.heapSort
            rw [← HM.out, ← HHH.out, ← HO.out]
            exact HO2.out.symm)
          rw [hq]
          clear hq hbk hdj
          repeat (first | go_skip | go_guarded | go_step)
          go_end0
          exact ⟨rfl, by rw [HE.out]; exact HK2.out, HT2.out⟩
        | succ k =>
          have hq : (((k + 1 : Nat) : Int) - 1) = (k : Int) := by omega
          have hd1 : (0 : Int) ≤ (k : Int) := by omega
          obtain ⟨fi, hfi⟩ : ∃ fi, fi = a + k := ⟨_, rfl⟩
          have e4 : ((a : Int) + (k : Int)) = (fi : Int) := by omega
          have c1 := hbk.at_ (i := fi) (by omega)
          have c2 := hbk.at_ (i := a) (by omega)
          have f1 := hbk.frozen fi
          have f2 := hbk.frozen a
          have HFI := Lib.hid hfi
          rw [hq]
          have HPOP := Lib.hid (show Go.Sort.heapPop ltU a k (Go.Sort.siftDown ltU k a 0 (Go.Sort.swp dj a fi)) = Go.Sort.heapPop ltU a m dk by rw [← HO2.out, Go.Sort.heapPop, hfi])
          generalize hx : dj[fi]! = x at c1
          generalize hy : dj[a]! = y at c2
          have HX := Lib.hid hx
          have HY := Lib.hid hy
          have HSW := Lib.hid (hbk.swp (i := a) (j := fi) (x := y) (y := x) (by omega) (by omega) hy hx)
          have hafi : a < n := by omega
          have hfin : fi < n := by omega
          clear hbk hdj hx hy hq
          by_cases hk0 : k = 0
          · have hfa : a = fi := by rw [hfi, hk0]; rfl
            have hxy : y = x := by rw [← HX.out, ← HY.out, hfa]
            subst hxy
            rw [← hfa] at c1 f1 HPOP HSW e4
            clear hfi c2 f2
            have c2 := c1
            have f2 := f1
            clear hfa hk0
            repeat (first | go_skip | go_guarded | go_step)
            go_region
            obtain ⟨Z, hZ, hkZ, htZ⟩ : ∃ Z, Z = ((wr.setCell { block := g, off := a } (Value.int IntKind.u32 y.toNat)).setCell { block := g, off := a } (Value.int IntKind.u32 y.toNat)).drew ∧ BkA Z g (Go.Sort.swp dj a a) rest ∧ Turn (fun k => k = g) w Z :=
              ⟨_, rfl, HSW.out, (usSwpT HT2.out g a a rfl _ _).drew⟩
            rw [← hZ]
            have HKZ := Lib.hid hkZ
            have HTZ := Lib.hid htZ
            clear hZ hkZ htZ c1 c2 f1 f2
            repeat (first | go_skip | go_guarded | go_step)
            refine (usSift g c 0 k a (Go.Sort.swp dj a a) rest _ n (by rw [Go.Sort.size_swp]; exact HDJ.out.symm) HKZ.out (Nat.zero_le _) (by omega) hsz).mono ?_
            rintro e w2 ⟨rfl, hk2, ht2⟩
            have HK3 := Lib.hid hk2
            have HT3 := Lib.hid (HTZ.out.trans ht2)
            clear hk2 ht2
            dsimp only
            repeat (first | go_skip | go_guarded | go_step)
            go_roundw
            case rel => exact ⟨k, _, rfl, by omega, by rw [sift_size _ _ _ _ _ _ (Nat.le_refl _), Go.Sort.size_swp]; exact HDJ.out, HPOP.out, HK3.out, HT3.out⟩
            case measure => simp [intOf] <;> omega
          · have hne : ¬ a = fi := by rw [HFI.out]; omega
            clear hfi
            repeat (first | go_skip | go_guarded | go_step)
            go_region
            obtain ⟨Z, hZ, hkZ, htZ⟩ : ∃ Z, Z = ((wr.setCell { block := g, off := a } (Value.int IntKind.u32 x.toNat)).setCell { block := g, off := fi } (Value.int IntKind.u32 y.toNat)).drew ∧ BkA Z g (Go.Sort.swp dj a fi) rest ∧ Turn (fun k => k = g) w Z :=
              ⟨_, rfl, HSW.out, (usSwpT HT2.out g a fi rfl _ _).drew⟩
            rw [← hZ]
            have HKZ := Lib.hid hkZ
            have HTZ := Lib.hid htZ
            clear hZ hkZ htZ c1 c2 f1 f2
            repeat (first | go_skip | go_guarded | go_step)
            refine (usSift g c 0 k a (Go.Sort.swp dj a fi) rest _ n (by rw [Go.Sort.size_swp]; exact HDJ.out.symm) HKZ.out (Nat.zero_le _) (by omega) hsz).mono ?_
            rintro e w2 ⟨rfl, hk2, ht2⟩
            have HK3 := Lib.hid hk2
            have HT3 := Lib.hid (HTZ.out.trans ht2)
            clear hk2 ht2
            dsimp only
            repeat (first | go_skip | go_guarded | go_step)
            go_roundw
            case rel => exact ⟨k, _, rfl, by omega, by rw [sift_size _ _ _ _ _ _ (Nat.le_refl _), Go.Sort.size_swp]; exact HDJ.out, HPOP.out, HK3.out, HT3.out⟩
            case measure => simp [intOf] <;> omega
    | succ k =>
      have hq : (((k + 1 : Nat) : Int) - 1) = (k : Int) := by omega
      have hd1 : (0 : Int) ≤ (k : Int) := by omega
      rw [hq]
      clear hq
      repeat (first | go_skip | go_guarded | go_step)
      refine (usSift g c k m a dk rest _ n HDK.out.symm HK.out (by omega) (by omega) hsz).mono ?_
      rintro e w2 ⟨rfl, hk2, ht2⟩
      have HK2 := Lib.hid hk2
      have HT2 := Lib.hid (HT.out.trans ht2)
      clear hk2 ht2
      dsimp only
      repeat (first | go_skip | go_guarded | go_step)
      go_roundw
      case rel => exact ⟨k, _, rfl, by omega, by rw [sift_size _ _ _ _ _ _ (Nat.le_refl _)]; exact HDK.out, by rw [← HO.out, Go.Sort.heapBuild], HK2.out, HT2.out⟩
      case measure => simp [intOf] <;> omega
end Go.Proofs.Ytfmghkplafploaa

