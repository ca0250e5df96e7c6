/- Layer 11 (safe), the landed program: slices.Sort of at most twelve numbers. -/
import Derived.Test.YtggnhgfickkgdaaSfB
import Derived.WalkKit
set_option linter.unusedVariables false
set_option linter.unusedSimpArgs false
namespace Go.Proofs.Ytggnhgfickkgdaa
open Go Go.RowKit

theorem isnan_any (x : UInt32) (w : World) : Calls Try.prog 56 #[nv x] w fun e w' => e = .returned (.bool false) ∧ w' = w := by
  have hb : ((x.toNat : Int) != (x.toNat : Int)) = false := by simp
  go_enter Try.func56, Try.ntmps56
  repeat (first | go_skip | go_guarded | go_step)
  go_ret
  exact ⟨rfl, rfl⟩
theorem less_any (x y : UInt32) (w : World) : Calls Try.prog 46 #[nv x, nv y] w fun e w' => e = .returned (.bool (decide (x.toNat < y.toNat))) ∧ w' = w := by
  by_cases h : x.toNat < y.toNat
  · have hd : decide ((x.toNat : Int) < (y.toNat : Int)) = true := by simp; omega
    have HD := Lib.hid (decide_eq_true h)
    clear h
    go_enter Try.func46, Try.ntmps46
    repeat (first | go_skip | go_guarded | go_step)
    refine (isnan_any x w).mono ?_
    rintro e w' ⟨rfl, rfl⟩
    dsimp only
    repeat (first | go_skip | go_guarded | go_step)
    go_ret
    exact ⟨by rw [HD.out]; rfl, rfl⟩
  · have hd : decide ((x.toNat : Int) < (y.toNat : Int)) = false := by simp; omega
    have HD := Lib.hid (decide_eq_false h)
    clear h
    go_enter Try.func46, Try.ntmps46
    repeat (first | go_skip | go_guarded | go_step)
    refine (isnan_any x w).mono ?_
    rintro e w' ⟨rfl, rfl⟩
    dsimp only
    repeat (first | go_skip | go_guarded | go_step)
    go_ret
    exact ⟨by rw [HD.out]; rfl, rfl⟩
/-- A block of numbers, with what lies behind them. -/
abbrev BkU (w : World) (g : Nat) (l : List UInt32) (rest : List Value) : Prop := Bk w g 30 (l.map nv ++ rest)
theorem BkU.at_ {w : World} {g : Nat} {l : List UInt32} {rest : List Value} (h : BkU w g l rest) {i : Nat} {x : UInt32} (hx : l[i]? = some x) : w.cell? ⟨g, i, none⟩ = some (nv x) := by
  obtain ⟨h1, h2⟩ := List.getElem?_eq_some_iff.1 hx
  rw [h.cell, List.getElem?_append_left (by simpa using h1), List.getElem?_map, hx]
  rfl
theorem BkU.set1 {w : World} {g : Nat} {l : List UInt32} {rest : List Value} (h : BkU w g l rest) {i : Nat} (hi : i < l.length) (y : UInt32) : BkU (w.setCell ⟨g, i, none⟩ (nv y)) g (l.set i y) rest := by
  have h2 := h.set_ i (nv y)
  rw [List.set_append_left _ _ (by simpa using hi), ← List.map_set] at h2
  exact h2
theorem swap_perm {l : List UInt32} {i j : Nat} {x y : UInt32} (hx : l[i]? = some x) (hy : l[j]? = some y) : ((l.set i y).set j x).Perm l := by
  obtain ⟨h1, rfl⟩ := List.getElem?_eq_some_iff.1 hx
  obtain ⟨h2, rfl⟩ := List.getElem?_eq_some_iff.1 hy
  rw [List.perm_iff_count]
  intro a
  by_cases hij : i = j
  · subst hij; simp
  · rw [List.count_set (by simpa using h2), List.count_set h1, List.getElem_set_ne hij]
    have c1 : l[i] = a → 0 < List.count a l := fun e => List.count_pos_iff.2 (e ▸ List.getElem_mem h1)
    have c2 : l[j] = a → 0 < List.count a l := fun e => List.count_pos_iff.2 (e ▸ List.getElem_mem h2)
    by_cases e1 : l[i] = a <;> by_cases e2 : l[j] = a
    · have := c1 e1; simp [e1, e2]; omega
    · have := c1 e1; simp [e1, e2]; omega
    · have := c2 e2; simp [e1, e2]
    · simp [e1, e2]
theorem turnDrewN {G : Nat → Prop} {a w : World} (h : Turn G a w) (n : Nat) : Turn G a (w.drewN n) := ⟨h.os, h.tape, h.output, h.size, h.block⟩
set_option maxRecDepth 100000 in
set_option maxHeartbeats 4000000 in
theorem isort_any (g c n : Nat) (l : List UInt32) (rest : List Value) (w : World) (hl : l.length = n) (hn : n ≤ 12) (hb : BkU w g l rest) :
    Calls Try.prog 40 #[.slice (some ⟨g, 0, none⟩) n c, .int .i64 0, .int .i64 (n : Int)] w fun e w' => e = .returned (.tuple #[]) ∧ ∃ l', l'.Perm l ∧ BkU w' g l' rest ∧ Turn (fun k => k = g) w w' := by
  have HB := Lib.hid hb
  have HL := Lib.hid hl
  clear hb hl
  go_enter Try.func40, Try.ntmps40
  repeat (first | go_skip | go_guarded | go_step)
  go_loopw [6] (fun q wr => ∃ (i : Nat) (l' : List UInt32), q = .int .i64 (i : Int) ∧ 1 ≤ i ∧ i ≤ 13 ∧ l'.Perm l ∧ BkU wr g l' rest ∧ Turn (fun k => k = g) w wr) (fun q _ => 13 - (intOf q).toNat)
  case atStart => exact ⟨1, l, by go_num, by omega, by omega, List.Perm.refl _, HB.out, Turn.refl _ _⟩
  case round =>
    obtain ⟨i, l', rfl, hi1, hi2, hp, hbk, ht⟩ := hrel
    have HP := Lib.hid hp
    have HK := Lib.hid hbk
    have HT := Lib.hid ht
    clear hp hbk ht
    by_cases hlt : i < n
    · have hci : (i : Int) < (n : Int) := by omega
      repeat (first | go_skip | go_guarded | go_step)
      rename World => w1
      go_loopw [7] (fun q wr => ∃ (j : Nat) (l' : List UInt32), q = .int .i64 (j : Int) ∧ j ≤ i ∧ l'.Perm l ∧ BkU wr g l' rest ∧ Turn (fun k => k = g) w wr) (fun q _ => (intOf q).toNat)
      case atStart => exact ⟨i, l', rfl, Nat.le_refl _, HP.out, HK.out, HT.out⟩
      case round =>
        obtain ⟨j, l2, rfl, hj, hp, hbk, ht⟩ := hrel
        have hlen : l2.length = n := hp.length_eq.trans HL.out
        have HP2 := Lib.hid hp
        have HK2 := Lib.hid hbk
        have HT2 := Lib.hid ht
        have HLE := Lib.hid hlen
        clear hp ht
        by_cases hj0 : 0 < j
        · have hjd : decide ((0 : Int) < (j : Int)) = true := by simp; omega
          obtain ⟨x, hx⟩ : ∃ x, l2[j]? = some x := ⟨_, List.getElem?_eq_getElem (by omega)⟩
          obtain ⟨y, hy⟩ : ∃ y, l2[j - 1]? = some y := ⟨_, List.getElem?_eq_getElem (by omega)⟩
          have c1 := hbk.at_ hx
          have c2 := hbk.at_ hy
          have f1 := hbk.frozen j
          have f2 := hbk.frozen (j - 1)
          have HX := Lib.hid hx
          have HY := Lib.hid hy
          have hjw : ((j : Int) - 1) = ((j - 1 : Nat) : Int) := by omega
          clear hbk hx hy hlen
          by_cases hxy : x.toNat < y.toNat
          · have HD := Lib.hid (decide_eq_true hxy)
            clear hxy
            go_upto_region 4 with (fail)
            go_quiet (refine Calls.quiet_of_same (less_any _ _ _))
            rw [HD.out]
            obtain ⟨V, hV, hkV, htV⟩ : ∃ V, V = wr.drewN nq ∧ BkU V g l2 rest ∧ Turn (fun k => k = g) w V := ⟨_, rfl, HK2.out, turnDrewN HT2.out _⟩
            rw [← hV]
            have HKV := Lib.hid hkV
            have HTV := Lib.hid htV
            have d1 := hkV.at_ HX.out
            have d2 := hkV.at_ HY.out
            have e1 := hkV.frozen j
            have e2 := hkV.frozen (j - 1)
            clear hV hkV htV c1 c2 f1 f2
            repeat (first | go_skip | go_guarded | go_step)
            go_region
            obtain ⟨Z, hZ, hkZ, htZ⟩ : ∃ Z, Z = ((V.setCell { block := g, off := j } (Value.int IntKind.u32 y.toNat)).setCell { block := g, off := j - 1 } (Value.int IntKind.u32 x.toNat)).drew ∧ BkU Z g ((l2.set j y).set (j - 1) x) rest ∧ Turn (fun k => k = g) w Z :=
              ⟨_, rfl, (HKV.out.set1 (by have := HLE.out; omega) y).set1 (by rw [List.length_set]; have := HLE.out; omega) x, ((HTV.out.setCell (p := ⟨g, j, none⟩) (fun _ => rfl) _).setCell (p := ⟨g, j - 1, none⟩) (fun _ => rfl) _).drew⟩
            rw [← hZ]
            have HKZ := Lib.hid hkZ
            have HTZ := Lib.hid htZ
            have HPZ := Lib.hid ((swap_perm HX.out HY.out).trans HP2.out)
            clear hZ hkZ htZ d1 d2 e1 e2
            repeat (first | go_skip | go_guarded | go_step)
            go_roundw
            case rel => exact ⟨j - 1, _, by go_num, by omega, HPZ.out, HKZ.out, HTZ.out⟩
            case measure => simp [intOf]; omega
          · have HD := Lib.hid (decide_eq_false hxy)
            clear hxy
            go_upto_region 4 with (fail)
            go_quiet (refine Calls.quiet_of_same (less_any _ _ _))
            rw [HD.out]
            repeat (first | go_skip | go_guarded | go_step)
            go_roundw
            case rel => exact ⟨i + 1, l2, by go_num, by omega, by omega, HP2.out, HK2.out, turnDrewN HT2.out _⟩
            case measure => simp [intOf]; omega
        · obtain rfl : j = 0 := by omega
          have hjd : decide ((0 : Int) < ((0 : Nat) : Int)) = false := by simp
          clear hbk hlen
          go_upto_region 4 with (fail)
          go_quiet (fail)
          repeat (first | go_skip | go_guarded | go_step)
          go_roundw
          case rel => exact ⟨i + 1, l2, by go_num, by omega, by omega, HP2.out, HK2.out, turnDrewN HT2.out _⟩
          case measure => simp [intOf]; omega
    · have hci : ¬ (i : Int) < (n : Int) := by omega
      repeat (first | go_skip | go_guarded | go_step)
      go_end0
      exact ⟨rfl, l', HP.out, HK.out, HT.out⟩
end Go.Proofs.Ytggnhgfickkgdaa
