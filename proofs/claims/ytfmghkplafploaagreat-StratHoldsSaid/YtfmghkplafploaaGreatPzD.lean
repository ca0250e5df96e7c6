/- Texts, packed: SaI SbC StB -/
import Derived.Test.YtfmghkplafploaaGreatPzC
set_option linter.unusedVariables false
set_option linter.unusedSimpArgs false
namespace Go.Proofs.YtfmghkplafploaaGreat
open Go Go.RowKit

def few1 (x : Cl) : Bool := decide (x.2.length ≤ 30) && decide (x.1.2.length ≤ 30) && x.2.all fun y => decide (y.2.2.length ≤ 30)
def few2 (f : AtR) : Bool := decide (f.2.2.1 ≤ 30)
def fewH (n nf : Nat) : Bool := !(decide (60 < n) && decide (n ≤ 400) || decide (1000 < n) || decide (120 < nf))
def fewB (n nf : Nat) (C : List Cl) (Y : List AtR) : Bool := fewH n nf && (C.all few1 && Y.all few2)
theorem few_slim {C : List Cl} (h : C.all few1 = true) : Slim C := fun x hx => by
  have h1 := List.all_eq_true.1 h x hx
  unfold few1 at h1
  simp only [Bool.and_eq_true, decide_eq_true_eq, List.all_eq_true] at h1
  obtain ⟨⟨h2, h3⟩, h4⟩ := h1
  exact ⟨by omega, by omega, fun y hy => by have := h4 y hy; omega⟩
set_option maxRecDepth 100000 in
set_option maxHeartbeats 2000000 in
theorem few_a (A : Option Addr) (n c : Nat) (Q : List ClA) (C : List Cl) (A2 : Option Addr) (nf c2 : Nat) (Y : List AtR) (w : World) (h : RdCs w w.heap.size A n Q C) (h2 : Rd w w.heap.size 2 A2 nf (Y.flatMap atC)) (hY : Y.length = nf) (h1 : 60 < n ∧ n ≤ 400) :
    Calls Tryz.prog 6 #[.slice A n c, .slice A2 nf c2] w fun e w' => e = .returned (.bool (fewH n nf && (C.all few1 && Y.all few2))) ∧ w' = w := by
  have HC := Lib.hid h
  have HF := Lib.hid h2
  have HY := Lib.hid hY
  clear h h2 hY
  have HH := Lib.hid (show fewH n nf = false by unfold fewH; simp; omega)
  have ha : (60 : Int) < (n : Int) := by omega
  have hb : (n : Int) ≤ 400 := by omega
  go_enter Tryz.func6, Tryz.ntmps6
  repeat (first | go_skip | go_guarded | go_step)
  go_ret
  exact ⟨by rw [HH.out]; rfl, rfl⟩
set_option maxRecDepth 100000 in
set_option maxHeartbeats 2000000 in
theorem few_b (A : Option Addr) (n c : Nat) (Q : List ClA) (C : List Cl) (A2 : Option Addr) (nf c2 : Nat) (Y : List AtR) (w : World) (h : RdCs w w.heap.size A n Q C) (h2 : Rd w w.heap.size 2 A2 nf (Y.flatMap atC)) (hY : Y.length = nf) (h1 : 1000 < n) :
    Calls Tryz.prog 6 #[.slice A n c, .slice A2 nf c2] w fun e w' => e = .returned (.bool (fewH n nf && (C.all few1 && Y.all few2))) ∧ w' = w := by
  have HC := Lib.hid h
  have HF := Lib.hid h2
  have HY := Lib.hid hY
  clear h h2 hY
  have HH := Lib.hid (show fewH n nf = false by unfold fewH; simp; omega)
  have ha : (60 : Int) < (n : Int) := by omega
  have hb : ¬ (n : Int) ≤ 400 := by omega
  have hc : (1000 : Int) < (n : Int) := by omega
  go_enter Tryz.func6, Tryz.ntmps6
  repeat (first | go_skip | go_guarded | go_step)
  go_ret
  exact ⟨by rw [HH.out]; rfl, rfl⟩
set_option maxRecDepth 100000 in
set_option maxHeartbeats 2000000 in
theorem few_c (A : Option Addr) (n c : Nat) (Q : List ClA) (C : List Cl) (A2 : Option Addr) (nf c2 : Nat) (Y : List AtR) (w : World) (h : RdCs w w.heap.size A n Q C) (h2 : Rd w w.heap.size 2 A2 nf (Y.flatMap atC)) (hY : Y.length = nf) (h1 : n ≤ 60) (h2' : 120 < nf) :
    Calls Tryz.prog 6 #[.slice A n c, .slice A2 nf c2] w fun e w' => e = .returned (.bool (fewH n nf && (C.all few1 && Y.all few2))) ∧ w' = w := by
  have HC := Lib.hid h
  have HF := Lib.hid h2
  have HY := Lib.hid hY
  clear h h2 hY
  have HH := Lib.hid (show fewH n nf = false by unfold fewH; simp; omega)
  have ha : ¬ (60 : Int) < (n : Int) := by omega
  have hc : ¬ (1000 : Int) < (n : Int) := by omega
  have hd : (120 : Int) < (nf : Int) := by omega
  go_enter Tryz.func6, Tryz.ntmps6
  repeat (first | go_skip | go_guarded | go_step)
  go_ret
  exact ⟨by rw [HH.out]; rfl, rfl⟩
set_option maxRecDepth 100000 in
set_option maxHeartbeats 2000000 in
theorem few_d (A : Option Addr) (n c : Nat) (Q : List ClA) (C : List Cl) (A2 : Option Addr) (nf c2 : Nat) (Y : List AtR) (w : World) (h : RdCs w w.heap.size A n Q C) (h2 : Rd w w.heap.size 2 A2 nf (Y.flatMap atC)) (hY : Y.length = nf) (h1 : 400 < n ∧ n ≤ 1000) (h2' : 120 < nf) :
    Calls Tryz.prog 6 #[.slice A n c, .slice A2 nf c2] w fun e w' => e = .returned (.bool (fewH n nf && (C.all few1 && Y.all few2))) ∧ w' = w := by
  have HC := Lib.hid h
  have HF := Lib.hid h2
  have HY := Lib.hid hY
  clear h h2 hY
  have HH := Lib.hid (show fewH n nf = false by unfold fewH; simp; omega)
  have ha : (60 : Int) < (n : Int) := by omega
  have hb : ¬ (n : Int) ≤ 400 := by omega
  have hc : ¬ (1000 : Int) < (n : Int) := by omega
  have hd : (120 : Int) < (nf : Int) := by omega
  go_enter Tryz.func6, Tryz.ntmps6
  repeat (first | go_skip | go_guarded | go_step)
  go_ret
  exact ⟨by rw [HH.out]; rfl, rfl⟩
set_option maxRecDepth 100000 in
set_option maxHeartbeats 2000000 in
theorem few_e (A : Option Addr) (n c : Nat) (Q : List ClA) (C : List Cl) (A2 : Option Addr) (nf c2 : Nat) (Y : List AtR) (w : World) (h : RdCs w w.heap.size A n Q C) (h2 : Rd w w.heap.size 2 A2 nf (Y.flatMap atC)) (hY : Y.length = nf) (h1 : n ≤ 60) (h2' : nf ≤ 120) :
    Calls Tryz.prog 6 #[.slice A n c, .slice A2 nf c2] w fun e w' => e = .returned (.bool (fewH n nf && (C.all few1 && Y.all few2))) ∧ w' = w := by
  have HC := Lib.hid h
  have HF := Lib.hid h2
  have HY := Lib.hid hY
  clear h h2 hY
  have HH := Lib.hid (show fewH n nf = true by unfold fewH; simp; omega)
  have ha : ¬ (60 : Int) < (n : Int) := by omega
  have hc : ¬ (1000 : Int) < (n : Int) := by omega
  have hd : ¬ (120 : Int) < (nf : Int) := by omega
  go_enter Tryz.func6, Tryz.ntmps6
  repeat (first | go_skip | go_guarded | go_step)
  go_loop [5] (fun q => ∃ i : Nat, i ≤ n ∧ q = .int .i64 (i : Int) ∧ (C.take i).all few1 = true) (fun q => n - (intOf q).toNat)
  case atStart => exact ⟨0, by omega, rfl, by simp⟩
  case round =>
    obtain ⟨i, hi, rfl, hal⟩ := hrel
    have HAL := Lib.hid hal
    clear hal
    by_cases hlt : i < n
    · have hci : (i : Int) < (n : Int) := by omega
      obtain ⟨b, o, p, l, L, A0, n0, c0, A1, n1, c1, R, hA, hb, hx, hq, hd0, hd1, hd2, hrt, hrl⟩ := HC.out.at_ hlt
      subst hA
      have HX := Lib.hid hx
      have HRL := Lib.hid hrl
      have hl0 := rdT_len hrt
      have hl1 := hrl.lenL
      have HBAD := Lib.hid (show few1 ((p, l), L) = false → C.all few1 = false from fun h => all_at HX.out h)
      have HL0 := Lib.hid hl0
      have HL1 := Lib.hid hl1
      clear hx hq hrt hrl hb hl0 hl1
      by_cases h1 : 30 < n1
      · have h1i : (30 : Int) < (n1 : Int) := by omega
        have HZ := Lib.hid (HBAD.out (by unfold few1; rw [decide_eq_false (by dsimp only; have := HL1.out; omega)]; rfl))
        repeat (first | go_skip | go_guarded | go_step)
        go_ret
        exact ⟨by rw [HH.out, HZ.out]; rfl, rfl⟩
      have h1i : ¬ (30 : Int) < (n1 : Int) := by omega
      by_cases h0 : 30 < n0
      · have h0i : (30 : Int) < (n0 : Int) := by omega
        have HZ := Lib.hid (HBAD.out (by unfold few1; rw [decide_eq_false (p := (((p, l), L) : Cl).1.2.length ≤ 30) (by dsimp only; have := HL0.out; omega)]; simp))
        repeat (first | go_skip | go_guarded | go_step)
        go_ret
        exact ⟨by rw [HH.out, HZ.out]; rfl, rfl⟩
      have h0i : ¬ (30 : Int) < (n0 : Int) := by omega
      repeat (first | go_skip | go_guarded | go_step)
      go_loop [6] (fun q => ∃ k : Nat, k ≤ n1 ∧ q = .int .i64 (k : Int) ∧ (L.take k).all (fun y => decide (y.2.2.length ≤ 30)) = true) (fun q => n1 - (intOf q).toNat)
      case atStart => exact ⟨0, by omega, rfl, by simp⟩
      case round =>
        obtain ⟨k, hk, rfl, hal⟩ := hrel
        have HAK := Lib.hid hal
        clear hal
        by_cases hltk : k < n1
        · have hki : (k : Int) < (n1 : Int) := by omega
          obtain ⟨b3, o3, g3, p3, l3, Ai, ni, ci, hA1, hb3, hx3, he0, he1, he2, hrow⟩ := HRL.out.at_ hltk
          subst hA1
          have HX3 := Lib.hid hx3
          have HL3 := Lib.hid (rdT_len hrow)
          clear hx3 hrow hb3
          by_cases h3 : 30 < ni
          · have h3i : (30 : Int) < (ni : Int) := by omega
            have HZ := Lib.hid (HBAD.out (by
              unfold few1
              rw [all_at (l := L) HX3.out (by dsimp only; rw [decide_eq_false (by have := HL3.out; omega)])]
              simp))
            repeat (first | go_skip | go_guarded | go_step)
            go_ret
            exact ⟨by rw [HH.out, HZ.out]; rfl, rfl⟩
          · have h3i : ¬ (30 : Int) < (ni : Int) := by omega
            repeat (first | go_skip | go_guarded | go_step)
            go_round
            case rel => exact ⟨k + 1, by omega, by go_num, all_upto HX3.out HAK.out (by rw [decide_eq_true (by have := HL3.out; dsimp only; omega)])⟩
            case measure => simp [intOf]; omega
        · obtain rfl : n1 = k := by omega
          have hki : ¬ (n1 : Int) < (n1 : Int) := by omega
          repeat (first | go_skip | go_guarded | go_step)
          go_round
          case rel => exact ⟨i + 1, by omega, by go_num, all_upto HX.out HAL.out (by
            unfold few1
            rw [decide_eq_true (by dsimp only; have := HL1.out; omega), decide_eq_true (p := (((p, l), L) : Cl).1.2.length ≤ 30) (by dsimp only; have := HL0.out; omega), all_whole (l := L) (by have := HL1.out; omega) HAK.out]
            rfl)⟩
          case measure => simp [intOf]; omega
    · obtain rfl : n = i := by omega
      have hci : ¬ (n : Int) < (n : Int) := by omega
      have HALL := Lib.hid (show C.all few1 = true from all_whole (by have := HC.out.lenC; omega) HAL.out)
      repeat (first | go_skip | go_guarded | go_step)
      go_loop [7] (fun q => ∃ k : Nat, k ≤ nf ∧ q = .int .i64 (k : Int) ∧ (Y.take k).all few2 = true) (fun q => nf - (intOf q).toNat)
      case atStart => exact ⟨0, by omega, rfl, by simp⟩
      case round =>
        obtain ⟨k, hk, rfl, hal⟩ := hrel
        have HAK := Lib.hid hal
        clear hal
        by_cases hltk : k < nf
        · have hki : (k : Int) < (nf : Int) := by omega
          obtain ⟨x, hx⟩ : ∃ x, Y[k]? = some x := ⟨_, List.getElem?_eq_getElem (by rw [HY.out]; exact hltk)⟩
          obtain ⟨b4, o4, hAl, hb4, hc0, hc1⟩ := rdAt HF.out hltk hx
          subst hAl
          obtain ⟨px, Ax, nx, cx⟩ := x
          dsimp only at hc0 hc1
          have HX := Lib.hid hx
          clear hx hb4
          by_cases h3 : 30 < nx
          · have h3i : (30 : Int) < (nx : Int) := by omega
            have HZ := Lib.hid (show Y.all few2 = false from all_at HX.out (by unfold few2; rw [decide_eq_false (by dsimp only; omega)]))
            repeat (first | go_skip | go_guarded | go_step)
            go_ret
            exact ⟨by rw [HH.out, HALL.out, HZ.out]; rfl, rfl⟩
          · have h3i : ¬ (30 : Int) < (nx : Int) := by omega
            repeat (first | go_skip | go_guarded | go_step)
            go_round
            case rel => exact ⟨k + 1, by omega, by go_num, all_upto HX.out HAK.out (by unfold few2; rw [decide_eq_true (by dsimp only; omega)])⟩
            case measure => simp [intOf]; omega
        · obtain rfl : nf = k := by omega
          have hki : ¬ (nf : Int) < (nf : Int) := by omega
          have HZ := Lib.hid (show Y.all few2 = true from all_whole (by have := HY.out; omega) HAK.out)
          repeat (first | go_skip | go_guarded | go_step)
          go_ret
          exact ⟨by rw [HH.out, HALL.out, HZ.out]; rfl, rfl⟩
set_option maxRecDepth 100000 in
set_option maxHeartbeats 2000000 in
theorem few_f (A : Option Addr) (n c : Nat) (Q : List ClA) (C : List Cl) (A2 : Option Addr) (nf c2 : Nat) (Y : List AtR) (w : World) (h : RdCs w w.heap.size A n Q C) (h2 : Rd w w.heap.size 2 A2 nf (Y.flatMap atC)) (hY : Y.length = nf) (h1 : 400 < n ∧ n ≤ 1000) (h2' : nf ≤ 120) :
    Calls Tryz.prog 6 #[.slice A n c, .slice A2 nf c2] w fun e w' => e = .returned (.bool (fewH n nf && (C.all few1 && Y.all few2))) ∧ w' = w := by
  have HC := Lib.hid h
  have HF := Lib.hid h2
  have HY := Lib.hid hY
  clear h h2 hY
  have HH := Lib.hid (show fewH n nf = true by unfold fewH; simp; omega)
  have ha : (60 : Int) < (n : Int) := by omega
  have hb : ¬ (n : Int) ≤ 400 := by omega
  have hc : ¬ (1000 : Int) < (n : Int) := by omega
  have hd : ¬ (120 : Int) < (nf : Int) := by omega
  go_enter Tryz.func6, Tryz.ntmps6
  repeat (first | go_skip | go_guarded | go_step)
  go_loop [5] (fun q => ∃ i : Nat, i ≤ n ∧ q = .int .i64 (i : Int) ∧ (C.take i).all few1 = true) (fun q => n - (intOf q).toNat)
  case atStart => exact ⟨0, by omega, rfl, by simp⟩
  case round =>
    obtain ⟨i, hi, rfl, hal⟩ := hrel
    have HAL := Lib.hid hal
    clear hal
    by_cases hlt : i < n
    · have hci : (i : Int) < (n : Int) := by omega
      obtain ⟨b, o, p, l, L, A0, n0, c0, A1, n1, c1, R, hA, hb, hx, hq, hd0, hd1, hd2, hrt, hrl⟩ := HC.out.at_ hlt
      subst hA
      have HX := Lib.hid hx
      have HRL := Lib.hid hrl
      have hl0 := rdT_len hrt
      have hl1 := hrl.lenL
      have HBAD := Lib.hid (show few1 ((p, l), L) = false → C.all few1 = false from fun h => all_at HX.out h)
      have HL0 := Lib.hid hl0
      have HL1 := Lib.hid hl1
      clear hx hq hrt hrl hb hl0 hl1
      by_cases h1 : 30 < n1
      · have h1i : (30 : Int) < (n1 : Int) := by omega
        have HZ := Lib.hid (HBAD.out (by unfold few1; rw [decide_eq_false (by dsimp only; have := HL1.out; omega)]; rfl))
        repeat (first | go_skip | go_guarded | go_step)
        go_ret
        exact ⟨by rw [HH.out, HZ.out]; rfl, rfl⟩
      have h1i : ¬ (30 : Int) < (n1 : Int) := by omega
      by_cases h0 : 30 < n0
      · have h0i : (30 : Int) < (n0 : Int) := by omega
        have HZ := Lib.hid (HBAD.out (by unfold few1; rw [decide_eq_false (p := (((p, l), L) : Cl).1.2.length ≤ 30) (by dsimp only; have := HL0.out; omega)]; simp))
        repeat (first | go_skip | go_guarded | go_step)
        go_ret
        exact ⟨by rw [HH.out, HZ.out]; rfl, rfl⟩
      have h0i : ¬ (30 : Int) < (n0 : Int) := by omega
      repeat (first | go_skip | go_guarded | go_step)
      go_loop [6] (fun q => ∃ k : Nat, k ≤ n1 ∧ q = .int .i64 (k : Int) ∧ (L.take k).all (fun y => decide (y.2.2.length ≤ 30)) = true) (fun q => n1 - (intOf q).toNat)
      case atStart => exact ⟨0, by omega, rfl, by simp⟩
      case round =>
        obtain ⟨k, hk, rfl, hal⟩ := hrel
        have HAK := Lib.hid hal
        clear hal
        by_cases hltk : k < n1
        · have hki : (k : Int) < (n1 : Int) := by omega
          obtain ⟨b3, o3, g3, p3, l3, Ai, ni, ci, hA1, hb3, hx3, he0, he1, he2, hrow⟩ := HRL.out.at_ hltk
          subst hA1
          have HX3 := Lib.hid hx3
          have HL3 := Lib.hid (rdT_len hrow)
          clear hx3 hrow hb3
          by_cases h3 : 30 < ni
          · have h3i : (30 : Int) < (ni : Int) := by omega
            have HZ := Lib.hid (HBAD.out (by
              unfold few1
              rw [all_at (l := L) HX3.out (by dsimp only; rw [decide_eq_false (by have := HL3.out; omega)])]
              simp))
            repeat (first | go_skip | go_guarded | go_step)
            go_ret
            exact ⟨by rw [HH.out, HZ.out]; rfl, rfl⟩
          · have h3i : ¬ (30 : Int) < (ni : Int) := by omega
            repeat (first | go_skip | go_guarded | go_step)
            go_round
            case rel => exact ⟨k + 1, by omega, by go_num, all_upto HX3.out HAK.out (by rw [decide_eq_true (by have := HL3.out; dsimp only; omega)])⟩
            case measure => simp [intOf]; omega
        · obtain rfl : n1 = k := by omega
          have hki : ¬ (n1 : Int) < (n1 : Int) := by omega
          repeat (first | go_skip | go_guarded | go_step)
          go_round
          case rel => exact ⟨i + 1, by omega, by go_num, all_upto HX.out HAL.out (by
            unfold few1
            rw [decide_eq_true (by dsimp only; have := HL1.out; omega), decide_eq_true (p := (((p, l), L) : Cl).1.2.length ≤ 30) (by dsimp only; have := HL0.out; omega), all_whole (l := L) (by have := HL1.out; omega) HAK.out]
            rfl)⟩
          case measure => simp [intOf]; omega
    · obtain rfl : n = i := by omega
      have hci : ¬ (n : Int) < (n : Int) := by omega
      have HALL := Lib.hid (show C.all few1 = true from all_whole (by have := HC.out.lenC; omega) HAL.out)
      repeat (first | go_skip | go_guarded | go_step)
      go_loop [7] (fun q => ∃ k : Nat, k ≤ nf ∧ q = .int .i64 (k : Int) ∧ (Y.take k).all few2 = true) (fun q => nf - (intOf q).toNat)
      case atStart => exact ⟨0, by omega, rfl, by simp⟩
      case round =>
        obtain ⟨k, hk, rfl, hal⟩ := hrel
        have HAK := Lib.hid hal
        clear hal
        by_cases hltk : k < nf
        · have hki : (k : Int) < (nf : Int) := by omega
          obtain ⟨x, hx⟩ : ∃ x, Y[k]? = some x := ⟨_, List.getElem?_eq_getElem (by rw [HY.out]; exact hltk)⟩
          obtain ⟨b4, o4, hAl, hb4, hc0, hc1⟩ := rdAt HF.out hltk hx
          subst hAl
          obtain ⟨px, Ax, nx, cx⟩ := x
          dsimp only at hc0 hc1
          have HX := Lib.hid hx
          clear hx hb4
          by_cases h3 : 30 < nx
          · have h3i : (30 : Int) < (nx : Int) := by omega
            have HZ := Lib.hid (show Y.all few2 = false from all_at HX.out (by unfold few2; rw [decide_eq_false (by dsimp only; omega)]))
            repeat (first | go_skip | go_guarded | go_step)
            go_ret
            exact ⟨by rw [HH.out, HALL.out, HZ.out]; rfl, rfl⟩
          · have h3i : ¬ (30 : Int) < (nx : Int) := by omega
            repeat (first | go_skip | go_guarded | go_step)
            go_round
            case rel => exact ⟨k + 1, by omega, by go_num, all_upto HX.out HAK.out (by unfold few2; rw [decide_eq_true (by dsimp only; omega)])⟩
            case measure => simp [intOf]; omega
        · obtain rfl : nf = k := by omega
          have hki : ¬ (nf : Int) < (nf : Int) := by omega
          have HZ := Lib.hid (show Y.all few2 = true from all_whole (by have := HY.out; omega) HAK.out)
          repeat (first | go_skip | go_guarded | go_step)
          go_ret
          exact ⟨by rw [HH.out, HALL.out, HZ.out]; rfl, rfl⟩
theorem few_any (A : Option Addr) (n c : Nat) (Q : List ClA) (C : List Cl) (A2 : Option Addr) (nf c2 : Nat) (Y : List AtR) (w : World) (h : RdCs w w.heap.size A n Q C) (h2 : Rd w w.heap.size 2 A2 nf (Y.flatMap atC)) (hY : Y.length = nf) :
    Calls Tryz.prog 6 #[.slice A n c, .slice A2 nf c2] w fun e w' => e = .returned (.bool (fewB n nf C Y)) ∧ w' = w := by
  unfold fewB
  by_cases h1 : n ≤ 60
  · by_cases h3 : 120 < nf
    · exact few_c A n c Q C A2 nf c2 Y w h h2 hY h1 h3
    · exact few_e A n c Q C A2 nf c2 Y w h h2 hY h1 (by omega)
  · by_cases h4 : n ≤ 400
    · exact few_a A n c Q C A2 nf c2 Y w h h2 hY ⟨by omega, h4⟩
    · by_cases h5 : 1000 < n
      · exact few_b A n c Q C A2 nf c2 Y w h h2 hY h5
      · by_cases h3 : 120 < nf
        · exact few_d A n c Q C A2 nf c2 Y w h h2 hY ⟨by omega, by omega⟩ h3
        · exact few_f A n c Q C A2 nf c2 Y w h h2 hY ⟨by omega, by omega⟩ (by omega)
end Go.Proofs.YtfmghkplafploaaGreat

set_option linter.unusedVariables false
set_option linter.unusedSimpArgs false
namespace Go.Proofs.YtfmghkplafploaaGreat
open Go Go.RowKit

abbrev ZC := Cl × ClA
theorem clC_len (Z : List ZC) : (Z.flatMap clC).length = Z.length * 3 := by
  induction Z with
  | nil => rfl
  | cons x X ih => rw [List.flatMap_cons, List.length_append, ih, List.length_cons]; simp [clC]; omega
theorem clC_one (Z : List ZC) : ∀ u ∈ Z.flatMap clC, u.oneCell' = true := by
  intro u hu
  obtain ⟨x, _, hx⟩ := List.mem_flatMap.1 hu
  simp only [clC, List.mem_cons, List.not_mem_nil, or_false] at hx
  rcases hx with rfl | rfl | rfl <;> rfl
/-- What stands in clauses is read. -/
def RowZ (w : World) (B : Nat) (Z : List ZC) : Prop := ∀ z ∈ Z, RdT w B z.2.1.1 z.2.1.2.1 z.1.1.2 ∧ RdL w B z.2.2.1.1 z.2.2.1.2.1 z.2.2.2 z.1.2
section
variable {w w' : World} {B B' n : Nat} {A : Option Addr} {Q : List ClA} {C : List Cl} {Z Y : List ZC}
theorem RowZ.below (h : RowZ w B Z) (hb : Below B w w') : RowZ w' B Z := fun z hz => ⟨(h z hz).1.below hb, (h z hz).2.below hb⟩
theorem RowZ.more (h : RowZ w B Z) (hB : B ≤ B') : RowZ w B' Z := fun z hz => ⟨(h z hz).1.more hB, (h z hz).2.more hB⟩
theorem RowZ.append (h : RowZ w B Z) (k : RowZ w B Y) : RowZ w B (Z ++ Y) := fun z hz => (List.mem_append.1 hz).elim (h z) (k z)
theorem RowZ.sub (h : RowZ w B Z) (hs : ∀ y ∈ Y, y ∈ Z) : RowZ w B Y := fun y hy => h y (hs y hy)
theorem RowZ.nil : RowZ w B [] := fun z hz => by cases hz
theorem RdCs.rowZ (h : RdCs w B A n Q C) : RowZ w B (C.zip Q) := fun z hz => by
  obtain ⟨i, hi⟩ := List.mem_iff_getElem?.1 hz
  obtain ⟨x, q⟩ := z
  rw [List.getElem?_zip_eq_some] at hi
  exact h.row i q x hi.2 hi.1
theorem rdCs_of (hr : Rd w B 3 A n (Z.flatMap clC)) (hz : RowZ w B Z) : RdCs w B A n (Z.map (·.2)) (Z.map (·.1)) := by
  have hl : Z.length = n := by have := hr.1; rw [clC_len] at this; omega
  refine ⟨by rw [List.length_map]; exact hl, by rw [List.length_map]; exact hl, ?_, fun i q x h1 h2 => ?_⟩
  · have : (Z.map (·.1)).zip (Z.map (·.2)) = Z := by
      clear hr hz hl
      induction Z with
      | nil => rfl
      | cons z Z ih => simp [ih]
    rw [this]
    exact hr
  · rw [List.getElem?_map] at h1 h2
    cases hz' : Z[i]? with
    | none => rw [hz'] at h1; cases h1
    | some z =>
      rw [hz'] at h1 h2
      simp only [Option.map_some, Option.some.injEq] at h1 h2
      subst h1 h2
      exact hz z (List.mem_of_getElem? hz')
theorem zip_fst (h : RdCs w B A n Q C) : (C.zip Q).map (·.1) = C := List.map_fst_zip (by rw [h.lenC, h.lenQ]; exact Nat.le_refl _)
theorem zip_len (h : RdCs w B A n Q C) : (C.zip Q).length = n := by rw [List.length_zip, h.lenC, h.lenQ, Nat.min_self]
theorem rdZ_take {k : Nat} (h : Rd w B 3 A n (Z.flatMap clC)) (hk : k ≤ n) : Rd w B 3 A k ((Z.take k).flatMap clC) := by
  have hl : Z.length = n := by have := h.1; rw [clC_len] at this; omega
  refine ⟨by rw [clC_len, List.length_take]; omega, fun hp => ?_⟩
  obtain ⟨b, o, e, hb, hc⟩ := h.2 (by omega)
  refine ⟨b, o, e, hb, fun j u hu => hc j u ?_⟩
  have hpre : Z.flatMap clC = (Z.take k).flatMap clC ++ (Z.drop k).flatMap clC := by
    rw [← List.flatMap_append, List.take_append_drop]
  rw [hpre, List.getElem?_append_left (List.getElem?_eq_some_iff.1 hu).1]
  exact hu
theorem rdZ_drop {k c : Nat} (h : Rd w B 3 A n (Z.flatMap clC)) (hk : k ≤ n) (hc : n ≤ c) : Rd w B 3 (if c = k then A else A.map (fun x => x.add (k * 3))) (n - k) ((Z.drop k).flatMap clC) := by
  have hl : Z.length = n := by have := h.1; rw [clC_len] at this; omega
  refine ⟨by rw [clC_len, List.length_drop]; omega, fun hp => ?_⟩
  obtain ⟨b, o, e, hb, hcl⟩ := h.2 (by omega)
  refine ⟨b, o + k * 3, ?_, hb, fun j u hu => ?_⟩
  · rw [if_neg (by omega), e]
    simp only [Option.map_some, addPlain]
  · have hpre : Z.flatMap clC = (Z.take k).flatMap clC ++ (Z.drop k).flatMap clC := by
      rw [← List.flatMap_append, List.take_append_drop]
    have := hcl (k * 3 + j) u (by
      rw [hpre, List.getElem?_append_right (by rw [clC_len, List.length_take]; omega), clC_len, List.length_take, Nat.min_eq_left (by omega), show k * 3 + j - k * 3 = j by omega]
      exact hu)
    rwa [show o + k * 3 + j = o + (k * 3 + j) by omega]
end
/-! ### Rows of clauses of the call's own -/
def OwC (w : World) (base : Nat) (A : Option Addr) (c n : Nat) (Z : List ZC) : Prop := w.ownsRow base 45 3 (.slice A n c) n (Z.flatMap clC)
section
variable {w w' : World} {base c n : Nat} {A : Option Addr} {Z : List ZC}
theorem OwC.len (h : OwC w base A c n Z) : Z.length = n := by
  have := h.1
  rw [clC_len] at this
  omega
theorem OwC.rd (h : OwC w base A c n Z) : Rd w w.heap.size 3 A n (Z.flatMap clC) := Rd.ofOwn h
theorem OwC.le (h : OwC w base A c n Z) : n ≤ c := by
  obtain ⟨A', c', e, hle⟩ := ownForm h
  simp only [Value.slice.injEq] at e
  omega
theorem OwC.later (h : OwC w base A c n Z) (hb : Below w.heap.size w w') : OwC w' base A c n Z := ownBelow h hb (Nat.le_refl _)
theorem OwC.low (h : OwC w base A c n Z) {k : Nat} (hk : A.map (·.block) = some k) : base ≤ k ∧ k < w.heap.size := World.ownsRow.lt h k (by rw [ownBlk_slice]; exact hk)
theorem OwC.empty (w : World) (base : Nat) (hb : base ≤ w.heap.size) : OwC (w.alloc (.cells #[] 45)) base (some ⟨w.heap.size, 0, none⟩) 0 0 [] :=
  World.ownsRow_lit (base := base) w #[] 0 hb (by simp [maxLen]) (by simp)
end
theorem clInfo : (Tryz.prog.info? 45).map (fun i => (i.zero, i.size, i.bytes)) = some (some (.agg #[.int .u32 0, .slice none 0 0, .slice none 0 0]), 3, 56) := by kernel_rfl
theorem litC (w : World) (p : UInt32) (A0 : Option Addr) (n0 c0 : Nat) (A1 : Option Addr) (n1 c1 : Nat) (l : List Tm) (L : List Li) (R : List SlA) :
    Rd (w.alloc (.cells #[nv p, .slice A0 n0 c0, .slice A1 n1 c1] 45)) (w.heap.size + 1) 3 (some ⟨w.heap.size, 0, none⟩) 1 ([((((p, l), L) : Cl), (((A0, n0, c0), (A1, n1, c1), R) : ClA))].flatMap clC) :=
  ⟨rfl, fun _ => ⟨_, _, rfl, by omega, fun j u hu => by
    rw [Nat.zero_add, cell_of_row _ _ j #[nv p, .slice A0 n0 c0, .slice A1 n1 c1] 45 (0, 0) (heap_alloc_new w _)]
    simpa [clC, SlA.val] using hu⟩⟩
theorem appC_wp {o : Oper} {a : Act} {K : Act → World → Prop} {Q : Exit → Act → World → Prop} (w : World) (p x : Operand)
    (ho : o.op = .call { callee := .builtin .append, args := #[p, x], argTypes := #[22, 22] })
    (base : Nat) (A0 : Option Addr) (c0 n : Nat) (Z : List ZC) (hv : a.eval p = .slice A0 n c0) (hown : OwC w base A0 c0 n Z)
    (B : Nat) (A : Option Addr) (m c : Nat) (Y : List ZC) (hx : a.eval x = .slice A m c) (hr : Rd w B 3 A m (Y.flatMap clC)) (hb : n + m ≤ 1000000000000) (hbase : base ≤ w.heap.size)
    (h : ∀ A' c' w', OwC w' base A' c' (n + m) (Z ++ Y) → Turn (fun k => A0.map (·.block) = some k) w w' → (A'.map (·.block) = A0.map (·.block) ∨ A'.map (·.block) = some w.heap.size) → K (a.put o.dst (.slice A' (n + m) c')) w') : Oper.wp Tryz.prog o a w K Q := by
  obtain ⟨i0, hi, hz0, hz1, hz2⟩ := info_parts clInfo
  refine wp_app w p x 22 ho base 45 i0 _ 3 56 Tryz.underlying22 hi hz0 hz1 hz2 rfl (by decide) _ n _ hv hown B A m c _ hx hr (clC_one Y) (by simp only [maxLen]; omega) (by omega) hbase ?_
  intro A' c' w' h4 h2 h3
  rw [ownBlk_slice, ownBlk_slice] at h3
  exact h A' c' w' (by unfold OwC; rw [List.flatMap_append]; exact h4) (Turn.ofGrown h2 fun k hk => by rw [ownBlk_slice] at hk; exact hk) h3
theorem appC {ops : Array Oper} {rest : List Oper} {o : Oper} {a : Act} {Q : Exit → Act → World → Prop} (w : World) (hgd : o.guard = none) (p x : Operand)
    (ho : o.op = .call { callee := .builtin .append, args := #[p, x], argTypes := #[22, 22] })
    (base : Nat) (A0 : Option Addr) (c0 n : Nat) (Z : List ZC) (hv : a.eval p = .slice A0 n c0) (hown : OwC w base A0 c0 n Z)
    (B : Nat) (A : Option Addr) (m c : Nat) (Y : List ZC) (hx : a.eval x = .slice A m c) (hr : Rd w B 3 A m (Y.flatMap clC)) (hb : n + m ≤ 1000000000000) (hbase : base ≤ w.heap.size)
    (h : ∀ A' c' w', OwC w' base A' c' (n + m) (Z ++ Y) → Turn (fun k => A0.map (·.block) = some k) w w' → (A'.map (·.block) = A0.map (·.block) ∨ A'.map (·.block) = some w.heap.size) → wpList Tryz.prog ops Q rest (a.put o.dst (.slice A' (n + m) c')) w') : wpList Tryz.prog ops Q (o :: rest) a w :=
  wpList_plain hgd fun _ hK => appC_wp w p x ho base A0 c0 n Z hv hown B A m c Y hx hr hb hbase fun A' c' w' h2 h3 h4 => hK _ _ (h A' c' w' h2 h3 h4)
theorem anyd_appC {ops : Array Oper} {E : Prop} {o : Oper} {a : Act} {K : Act → World → Prop} {Q : Exit → Act → World → Prop} {w : World} (hwant : Region.wanted o (yielded ops a.tmps) = true) (p x : Operand)
    (ho : o.op = .call { callee := .builtin .append, args := #[p, x], argTypes := #[22, 22] })
    (base : Nat) (A0 : Option Addr) (c0 n : Nat) (Z : List ZC) (hv : a.eval p = .slice A0 n c0) (hown : OwC w base A0 c0 n Z)
    (B : Nat) (A : Option Addr) (m c : Nat) (Y : List ZC) (hx : a.eval x = .slice A m c) (hr : Rd w B 3 A m (Y.flatMap clC)) (hb : n + m ≤ 1000000000000) (hbase : base ≤ w.heap.size)
    (h : ∀ A' c' w', OwC w' base A' c' (n + m) (Z ++ Y) → Turn (fun k => A0.map (·.block) = some k) w w' → (A'.map (·.block) = A0.map (·.block) ∨ A'.map (·.block) = some w.heap.size) → K (a.put o.dst (.slice A' (n + m) c')) w') :
    if Region.wanted o (yielded ops a.tmps) = true then Oper.wp Tryz.prog o a w K Q else E := by
  rw [if_pos hwant]
  exact appC_wp w p x ho base A0 c0 n Z hv hown B A m c Y hx hr hb hbase h
theorem anyd_emptyC {ops : Array Oper} {E : Prop} {o : Oper} {a : Act} {w : World} {K : Act → World → Prop} {Q : Exit → Act → World → Prop} (hwant : Region.wanted o (yielded ops a.tmps) = true)
    (ho : o.op = .buildSlice 22 0 #[]) (base : Nat) (hbase : base ≤ w.heap.size)
    (h : ∀ V A c, OwC V base A c 0 [] → Below w.heap.size w V → K (a.put o.dst (.slice A 0 c)) V) :
    if Region.wanted o (yielded ops a.tmps) = true then Oper.wp Tryz.prog o a w K Q else E := by
  rw [if_pos hwant]
  obtain ⟨ie, hie, hz, hs, hb⟩ := info_parts clInfo
  unfold Oper.wp execOp
  have hr : (Instr.buildSlice 22 0 #[]).run Tryz.prog w = .ok (.slice (some ⟨w.heap.size, 0, none⟩) 0 0) (w.alloc (.cells #[] 45)) := by
    simp [Instr.buildSlice, run_underlying Tryz.underlying22, sizeOf, typeInfo, zeroValue, hie, hz, hs, newRow, Instr.fill]
    kernel_rfl
  simp only [ho, Sem.run_bind, List.map_toArray, List.map_nil, hr, Result.andThen_ok]
  exact h _ _ _ (OwC.empty w base hbase) ((Below.refl _ _).alloc (Nat.le_refl _) _)
theorem run_litC (p : UInt32) (A0 : Option Addr) (n0 c0 : Nat) (A1 : Option Addr) (n1 c1 : Nat) (w : World) : (Instr.buildSlice 22 1 #[(0, .agg #[nv p, .slice A0 n0 c0, .slice A1 n1 c1])]).run Tryz.prog w = .ok (.slice (some ⟨w.heap.size, 0, none⟩) 1 1) (w.alloc (.cells #[nv p, .slice A0 n0 c0, .slice A1 n1 c1] 45)) := by
  obtain ⟨i0, hi, hz0, hz1, hz2⟩ := info_parts clInfo
  simp [Instr.buildSlice, run_underlying Tryz.underlying22, sizeOf, typeInfo, zeroValue, hi, hz0, hz1, newRow, Instr.fill]
  kernel_rfl
theorem OwC.one (w : World) (base : Nat) (hb : base ≤ w.heap.size) (p : UInt32) (A0 : Option Addr) (n0 c0 : Nat) (A1 : Option Addr) (n1 c1 : Nat) (l : List Tm) (L : List Li) (R : List SlA) :
    OwC (w.alloc (.cells #[nv p, .slice A0 n0 c0, .slice A1 n1 c1] 45)) base (some ⟨w.heap.size, 0, none⟩) 1 1 [((((p, l), L) : Cl), (((A0, n0, c0), (A1, n1, c1), R) : ClA))] :=
  World.ownsRow_lit (base := base) w #[nv p, .slice A0 n0 c0, .slice A1 n1 c1] 1 hb (by simp [maxLen]) rfl
theorem anyd_lit1C {ops : Array Oper} {E : Prop} {o : Oper} {a : Act} {w : World} {K : Act → World → Prop} {Q : Exit → Act → World → Prop} (hwant : Region.wanted o (yielded ops a.tmps) = true) (x : Operand)
    (ho : o.op = .buildSlice 22 1 #[(0, x)]) (p : UInt32) (A0 : Option Addr) (n0 c0 : Nat) (A1 : Option Addr) (n1 c1 : Nat) (hx : a.eval x = .agg #[nv p, .slice A0 n0 c0, .slice A1 n1 c1])
    (l : List Tm) (L : List Li) (R : List SlA)
    (h : ∀ V q, OwC V w.heap.size (some ⟨q, 0, none⟩) 1 1 [((((p, l), L) : Cl), (((A0, n0, c0), (A1, n1, c1), R) : ClA))] → q = w.heap.size → Below w.heap.size w V → K (a.put o.dst (.slice (some ⟨q, 0, none⟩) 1 1)) V) :
    if Region.wanted o (yielded ops a.tmps) = true then Oper.wp Tryz.prog o a w K Q else E := by
  rw [if_pos hwant]
  unfold Oper.wp execOp
  simp only [ho, Sem.run_bind, List.map_toArray, List.map_cons, List.map_nil, hx, run_litC, Result.andThen_ok]
  exact h _ _ (OwC.one w _ (Nat.le_refl _) p A0 n0 c0 A1 n1 c1 l L R) rfl ((Below.refl _ _).alloc (Nat.le_refl _) _)
theorem anyd_appC0 {ops : Array Oper} {E : Prop} {o : Oper} {a : Act} {K : Act → World → Prop} {Q : Exit → Act → World → Prop} {w : World} (hwant : Region.wanted o (yielded ops a.tmps) = true) (p x : Operand)
    (ho : o.op = .call { callee := .builtin .append, args := #[p, x], argTypes := #[22, 22] })
    (base : Nat) (A0 : Option Addr) (c0 : Nat) (hv : a.eval p = .slice A0 0 c0) (hown : OwC w base A0 c0 0 [])
    (B : Nat) (A : Option Addr) (m c : Nat) (Y : List ZC) (hx : a.eval x = .slice A m c) (hr : Rd w B 3 A m (Y.flatMap clC)) (hb : m ≤ 1000000000000) (hbase : base ≤ w.heap.size)
    (h : ∀ A' c' w', OwC w' base A' c' m Y → Turn (fun k => A0.map (·.block) = some k) w w' → (A'.map (·.block) = A0.map (·.block) ∨ A'.map (·.block) = some w.heap.size) → K (a.put o.dst (.slice A' m c')) w') :
    if Region.wanted o (yielded ops a.tmps) = true then Oper.wp Tryz.prog o a w K Q else E := by
  refine anyd_appC hwant p x ho base A0 c0 0 [] hv hown B A m c Y hx hr (by omega) hbase ?_
  intro A' c' w' h1 h2 h3
  rw [Nat.zero_add] at h1 ⊢
  exact h A' c' w' h1 h2 h3
theorem appC0 {ops : Array Oper} {rest : List Oper} {o : Oper} {a : Act} {Q : Exit → Act → World → Prop} (w : World) (hgd : o.guard = none) (p x : Operand)
    (ho : o.op = .call { callee := .builtin .append, args := #[p, x], argTypes := #[22, 22] })
    (base : Nat) (A0 : Option Addr) (c0 : Nat) (hv : a.eval p = .slice A0 0 c0) (hown : OwC w base A0 c0 0 [])
    (B : Nat) (A : Option Addr) (m c : Nat) (Y : List ZC) (hx : a.eval x = .slice A m c) (hr : Rd w B 3 A m (Y.flatMap clC)) (hb : m ≤ 1000000000000) (hbase : base ≤ w.heap.size)
    (h : ∀ A' c' w', OwC w' base A' c' m Y → Turn (fun k => A0.map (·.block) = some k) w w' → (A'.map (·.block) = A0.map (·.block) ∨ A'.map (·.block) = some w.heap.size) → wpList Tryz.prog ops Q rest (a.put o.dst (.slice A' m c')) w') : wpList Tryz.prog ops Q (o :: rest) a w := by
  refine appC w hgd p x ho base A0 c0 0 [] hv hown B A m c Y hx hr (by omega) hbase ?_
  intro A' c' w' h1 h2 h3
  rw [Nat.zero_add] at h1 ⊢
  exact h A' c' w' h1 h2 h3
theorem anyd_loadC {op : Oper} {a : Act} {w : World} {K : Act → World → Prop} {Q : Exit → Act → World → Prop} {E : Prop} {ops : Array Oper} (hwant : Region.wanted op (yielded ops a.tmps) = true) (x : Operand) (ho : op.op = .load 45 x)
    (g : Nat) (hx : a.eval x = .pointer (some ⟨g, 0, none⟩)) (p : UInt32) (u v : Value) (hg : Bk w g 45 [nv p, u, v])
    (h : K (a.put op.dst (.agg #[nv p, u, v])) w) : if Region.wanted op (yielded ops a.tmps) = true then Oper.wp Tryz.prog op a w K Q else E := by
  rw [if_pos hwant]
  exact wp_load_row 45 x ho g hx 45 #[nv p, u, v] (0, 0) _ hg Tryz.underlying45 rfl (by kernel_rfl) h
theorem RdL.trim {w : World} {B n : Nat} {A : Option Addr} {R : List SlA} {L : List Li} (h : RdL w B A n R L) : RdL w B A (n - 1) R.dropLast L.dropLast := by
  have hl := h.lenL
  have hr := h.lenR
  refine ⟨by rw [List.length_dropLast]; omega, by rw [List.length_dropLast]; omega, ?_, fun i r x h1 h2 => ?_⟩
  · have hz : (L.dropLast.zip R.dropLast) = (L.zip R).take (n - 1) := by
      rw [List.dropLast_eq_take, List.dropLast_eq_take, hl, hr]
      unfold List.zip
      rw [List.take_zipWith]
    have hlen : ∀ X : List (Li × SlA), (X.flatMap liC).length = X.length * 3 := fun X => by
      induction X with
      | nil => rfl
      | cons x X ih => rw [List.flatMap_cons, List.length_append, ih, List.length_cons]; simp [liC]; omega
    rw [hz]
    refine ⟨by rw [hlen, List.length_take, List.length_zip, hl, hr]; omega, fun hp => ?_⟩
    obtain ⟨b, o, e, hb, hc⟩ := h.top.2 (by omega)
    refine ⟨b, o, e, hb, fun j u hu => hc j u ?_⟩
    have hpre : (L.zip R).flatMap liC = ((L.zip R).take (n - 1)).flatMap liC ++ ((L.zip R).drop (n - 1)).flatMap liC := by
      rw [← List.flatMap_append, List.take_append_drop]
    rw [hpre, List.getElem?_append_left (List.getElem?_eq_some_iff.1 hu).1]
    exact hu
  · rw [List.dropLast_eq_take, List.getElem?_take] at h1 h2
    split at h1
    · split at h2
      · exact h.row i r x h1 h2
      · cases h2
    · cases h1
end Go.Proofs.YtfmghkplafploaaGreat

set_option linter.unusedVariables false
set_option linter.unusedSimpArgs false
namespace Go.Proofs.YtfmghkplafploaaGreat
open Go Go.RowKit

def lvC (x : Lv) : List Value := [nv x.1, .int .i64 (x.2 : Int)]
theorem lvC_len (X : List Lv) : (X.flatMap lvC).length = X.length * 2 := by
  induction X with
  | nil => rfl
  | cons x X ih => rw [List.flatMap_cons, List.length_append, ih, List.length_cons]; simp [lvC]; omega
theorem lvC_one (X : List Lv) : ∀ u ∈ X.flatMap lvC, u.oneCell' = true := by
  intro u hu
  obtain ⟨x, _, hx⟩ := List.mem_flatMap.1 hu
  simp only [lvC, List.mem_cons, List.not_mem_nil, or_false] at hx
  rcases hx with rfl | rfl <;> rfl
theorem lvC_cons (x : Lv) (X : List Lv) : (x :: X).flatMap lvC = nv x.1 :: .int .i64 (x.2 : Int) :: X.flatMap lvC := rfl
theorem lvC_set (X : List Lv) (i : Nat) (x : Lv) (hi : i < X.length) : ((X.flatMap lvC).set (i * 2) (nv x.1)).set (i * 2 + 1) (.int .i64 (x.2 : Int)) = (X.set i x).flatMap lvC := by
  induction X generalizing i with
  | nil => simp at hi
  | cons y X ih =>
    cases i with
    | zero => rfl
    | succ i =>
      rw [lvC_cons, List.set_cons_succ, lvC_cons, show (i + 1) * 2 = i * 2 + 1 + 1 by omega, List.set_cons_succ, List.set_cons_succ, List.set_cons_succ, List.set_cons_succ, ih i (by simpa using hi)]
theorem lvC_set1 (X : List Lv) (i : Nat) (x : Lv) (v : Nat) (hx : X[i]? = some x) : (X.flatMap lvC).set (i * 2 + 1) (.int .i64 (v : Int)) = (X.set i (x.1, v)).flatMap lvC := by
  induction X generalizing i with
  | nil => simp at hx
  | cons y X ih =>
    cases i with
    | zero =>
      simp only [List.getElem?_cons_zero, Option.some.injEq] at hx
      subst hx
      rfl
    | succ i =>
      rw [List.getElem?_cons_succ] at hx
      have e : (i + 1) * 2 + 1 = (i * 2 + 1) + 1 + 1 := by omega
      rw [e, lvC_cons, List.set_cons_succ, List.set_cons_succ, ih i hx, List.set_cons_succ, lvC_cons]
theorem lvInfo : (Tryz.prog.info? 34).map (fun i => (i.zero, i.size, i.bytes)) = some (some (.agg #[.int .u32 0, .int .i64 0]), 2, 16) := by kernel_rfl
abbrev RdV (w : World) (B : Nat) (A : Option Addr) (n : Nat) (X : List Lv) : Prop := Rd w B 2 A n (X.flatMap lvC)
def OwV (w : World) (base : Nat) (A : Option Addr) (c n : Nat) (X : List Lv) : Prop := w.ownsRow base 34 2 (.slice A n c) n (X.flatMap lvC)
section
variable {w w' : World} {B base c n : Nat} {A : Option Addr} {X : List Lv}
theorem rdV_len (h : RdV w B A n X) : X.length = n := by
  have := h.1
  rw [lvC_len] at this
  omega
theorem rdV_at (h : RdV w B A n X) {i : Nat} (hi : i < n) : ∃ b o x, A = some ⟨b, o, none⟩ ∧ b < B ∧ X[i]? = some x ∧ w.cell? ⟨b, o + i * 2, none⟩ = some (nv x.1) ∧ w.cell? ⟨b, o + i * 2 + 1, none⟩ = some (.int .i64 (x.2 : Int)) := by
  obtain ⟨b, o, e, hb, hc⟩ := h.2 (by omega)
  have hl := rdV_len h
  have hx : X[i]? = some (X[i]'(by omega)) := List.getElem?_eq_getElem _
  have hf : ∀ x : Lv, (lvC x).length = 2 := fun _ => rfl
  have f0 := flat_at lvC 2 hf hx 0 (by omega)
  have f1 := flat_at lvC 2 hf hx 1 (by omega)
  exact ⟨b, o, _, e, hb, hx, hc _ _ f0, hc _ _ f1⟩
theorem OwV.rd (h : OwV w base A c n X) : RdV w w.heap.size A n X := Rd.ofOwn h
theorem OwV.len (h : OwV w base A c n X) : X.length = n := rdV_len h.rd
theorem OwV.later (h : OwV w base A c n X) (hb : Below w.heap.size w w') : OwV w' base A c n X := ownBelow h hb (Nat.le_refl _)
theorem OwV.low (h : OwV w base A c n X) {k : Nat} (hk : A.map (·.block) = some k) : base ≤ k ∧ k < w.heap.size := World.ownsRow.lt h k (by rw [ownBlk_slice]; exact hk)
theorem OwV.mono {base' : Nat} (h : OwV w base A c n X) (hb : base' ≤ base) : OwV w base' A c n X := ownBase h hb
theorem OwV.block (h : OwV w base A c n X) (hn : 0 < n) :
    ∃ g rest, A = some ⟨g, 0, none⟩ ∧ base ≤ g ∧ n ≤ c ∧ c ≤ maxLen ∧ rest.length = c * 2 - n * 2 ∧ Bk w g 34 (X.flatMap lvC ++ rest) := by
  have hl := h.len
  rcases h.2 with ⟨_, h0⟩ | ⟨g, cap, cur, hv, hb, hg, h1, h2, h3, h4⟩
  · omega
  · cases hv
    refine ⟨g, cur.toList.drop (n * 2), rfl, hb, h1, h2, by simp; omega, ?_⟩
    unfold Bk
    rw [← h4, List.take_append_drop]
    exact hg
theorem OwV.ofBlock {g : Nat} {rest : List Value} (hb : base ≤ g) (hl : X.length = n) (hr : rest.length = c * 2 - n * 2) (hn : n ≤ c) (hc : c ≤ maxLen) (h : Bk w g 34 (X.flatMap lvC ++ rest)) : OwV w base (some ⟨g, 0, none⟩) c n X := by
  have h2 := lvC_len X
  refine ⟨by omega, .inr ⟨g, c, _, rfl, hb, h, hn, hc, by simp only [List.size_toArray, List.length_append]; omega, ?_⟩⟩
  rw [List.toList_toArray, List.take_append_of_le_length (by omega), List.take_of_length_le (by omega)]
/-- One level stored. -/
theorem OwV.set1 (h : OwV w base A c n X) {i : Nat} (hi : i < n) {x : Lv} (hx : X[i]? = some x) (v : Nat) :
    ∃ g, A = some ⟨g, 0, none⟩ ∧ base ≤ g ∧ g < w.heap.size ∧ w.cell? ⟨g, i * 2, none⟩ = some (nv x.1) ∧ w.cell? ⟨g, i * 2 + 1, none⟩ = some (.int .i64 (x.2 : Int)) ∧ w.frozen? ⟨g, i * 2 + 1, none⟩ = false ∧
      OwV (w.setCell ⟨g, i * 2 + 1, none⟩ (.int .i64 (v : Int))) base A c n (X.set i (x.1, v)) ∧ Turn (fun k => k = g) w (w.setCell ⟨g, i * 2 + 1, none⟩ (.int .i64 (v : Int))) := by
  have hl := h.len
  have hll := lvC_len X
  obtain ⟨g, rest, rfl, hb, hc, hm, hr, hbk⟩ := h.block (by omega)
  have hf : ∀ x : Lv, (lvC x).length = 2 := fun _ => rfl
  refine ⟨g, rfl, hb, hbk.lt, ?_, ?_, hbk.frozen _, ?_, (Turn.refl (fun k => k = g) w).setCell (p := ⟨g, i * 2 + 1, none⟩) (fun _ => rfl) _⟩
  · rw [hbk.cell, List.getElem?_append_left (by omega)]
    exact flat_at lvC 2 hf hx 0 (by omega)
  · rw [hbk.cell, List.getElem?_append_left (by omega)]
    exact flat_at lvC 2 hf hx 1 (by omega)
  · have h2 := hbk.set_ (i * 2 + 1) (.int .i64 (v : Int))
    rw [List.set_append_left _ _ (by omega), lvC_set1 X i x v hx] at h2
    exact OwV.ofBlock hb (by simp [hl]) hr hc hm h2
/-- A whole one stored. -/
theorem OwV.set2 (h : OwV w base A c n X) {i : Nat} (hi : i < n) (y : Lv) :
    ∃ (g : Nat) (x : Lv), A = some ⟨g, 0, none⟩ ∧ base ≤ g ∧ g < w.heap.size ∧ w.cell? ⟨g, i * 2, none⟩ = some (nv x.1) ∧ w.cell? ⟨g, i * 2 + 1, none⟩ = some (.int .i64 (x.2 : Int)) ∧ w.frozen? ⟨g, i * 2, none⟩ = false ∧ w.frozen? ⟨g, i * 2 + 1, none⟩ = false ∧
      OwV ((w.setCell ⟨g, i * 2, none⟩ (nv y.1)).setCell ⟨g, i * 2 + 1, none⟩ (.int .i64 (y.2 : Int))) base A c n (X.set i y) ∧ Turn (fun k => k = g) w ((w.setCell ⟨g, i * 2, none⟩ (nv y.1)).setCell ⟨g, i * 2 + 1, none⟩ (.int .i64 (y.2 : Int))) := by
  have hl := h.len
  have hll := lvC_len X
  obtain ⟨g, rest, rfl, hb, hc, hm, hr, hbk⟩ := h.block (by omega)
  have hf : ∀ x : Lv, (lvC x).length = 2 := fun _ => rfl
  have hx : X[i]? = some (X[i]'(by omega)) := List.getElem?_eq_getElem _
  refine ⟨g, X[i]'(by omega), rfl, hb, hbk.lt, ?_, ?_, hbk.frozen _, hbk.frozen _, ?_, ((Turn.refl (fun k => k = g) w).setCell (p := ⟨g, i * 2, none⟩) (fun _ => rfl) _).setCell (p := ⟨g, i * 2 + 1, none⟩) (fun _ => rfl) _⟩
  · rw [hbk.cell, List.getElem?_append_left (by omega)]
    exact flat_at lvC 2 hf hx 0 (by omega)
  · rw [hbk.cell, List.getElem?_append_left (by omega)]
    exact flat_at lvC 2 hf hx 1 (by omega)
  · have h2 := (hbk.set_ (i * 2) (nv y.1)).set_ (i * 2 + 1) (.int .i64 (y.2 : Int))
    rw [List.set_append_left _ _ (by omega), List.set_append_left _ _ (by rw [List.length_set]; omega), lvC_set X i y (by omega)] at h2
    exact OwV.ofBlock hb (by simp [hl]) hr hc hm h2
end
/-- Rows of atoms and of levels lie apart. -/
theorem apartV {w : World} {base base' c c' n n' : Nat} {A A' : Option Addr} {Y : List AtR} {X : List Lv} (h : OwAt w base A c n Y) (k : OwV w base' A' c' n' X) {x : Nat} (hx : A.map (·.block) = some x) : ¬ A'.map (·.block) = some x := by
  intro hx'
  rcases h.2 with ⟨h1, _⟩ | ⟨g, cap, cur, hv, _, hg, _⟩
  · cases h1; cases hx
  · rcases k.2 with ⟨k1, _⟩ | ⟨g', cap', cur', hv', _, hg', _⟩
    · cases k1; cases hx'
    · cases hv; cases hv'
      simp only [Option.map_some, Option.some.injEq] at hx hx'
      subst hx
      rw [hx'] at hg'
      rw [hg] at hg'
      simp only [Option.some.injEq, Obj.cells.injEq] at hg'
      exact absurd hg'.2.1 (by decide)
theorem appV {ops : Array Oper} {rest : List Oper} {o : Oper} {a : Act} {Q : Exit → Act → World → Prop} (w : World) (hgd : o.guard = none) (p x : Operand)
    (ho : o.op = .call { callee := .builtin .append, args := #[p, x], argTypes := #[25, 25] })
    (base : Nat) (A0 : Option Addr) (c0 n : Nat) (X : List Lv) (hv : a.eval p = .slice A0 n c0) (hown : OwV w base A0 c0 n X)
    (B : Nat) (A : Option Addr) (m c : Nat) (Y : List Lv) (hx : a.eval x = .slice A m c) (hr : RdV w B A m Y) (hb : n + m ≤ 1000000000000) (hbase : base ≤ w.heap.size)
    (h : ∀ A' c' w', OwV w' base A' c' (n + m) (X ++ Y) → Turn (fun k => A0.map (·.block) = some k) w w' → wpList Tryz.prog ops Q rest (a.put o.dst (.slice A' (n + m) c')) w') : wpList Tryz.prog ops Q (o :: rest) a w := by
  obtain ⟨i0, hi, hz0, hz1, hz2⟩ := info_parts lvInfo
  refine wpList_app w hgd p x 25 ho base 34 i0 _ 2 16 Tryz.underlying25 hi hz0 hz1 hz2 rfl (by decide) _ n _ hv hown B A m c _ hx hr (lvC_one Y) (by simp only [maxLen]; omega) (by omega) hbase ?_
  intro A' c' w' h4 h2 h3
  exact h A' c' w' (by unfold OwV; rw [List.flatMap_append]; exact h4) (Turn.ofGrown h2 fun k hk => by rw [ownBlk_slice] at hk; exact hk)
theorem litV_rd (w : World) (p : UInt32) (v : Nat) : RdV (w.alloc (.cells #[nv p, .int .i64 (v : Int)] 34)) (w.heap.size + 1) (some ⟨w.heap.size, 0, none⟩) 1 [(p, v)] :=
  ⟨rfl, fun _ => ⟨_, _, rfl, by omega, fun j u hu => by
    rw [Nat.zero_add, cell_of_row _ _ j #[nv p, .int .i64 (v : Int)] 34 (0, 0) (heap_alloc_new w _)]
    simpa [lvC] using hu⟩⟩
/-- What Of answers. -/
def ofM (X : List Lv) (p : UInt32) : Int := match lvO X p with | some v => (v : Int) | none => -1
theorem ofM_in {X : List Lv} {p : UInt32} (h : p ∈ X.map (·.1)) : ofM X p = (lvN X p : Int) := by
  obtain ⟨v, hv⟩ := lvO_some h
  unfold ofM lvN
  rw [hv]
  rfl
theorem ofM_out {X : List Lv} {p : UInt32} (h : p ∉ X.map (·.1)) : ofM X p = -1 := by
  unfold ofM
  rw [lvO_none h]
theorem ofM_drop {X : List Lv} {i : Nat} {x : Lv} {p : UInt32} (hx : X[i]? = some x) (h : p ∉ (X.take i).map (·.1)) : ofM X p = if x.1 = p then (x.2 : Int) else ofM (X.drop i) p := by
  have h1 : X = X.take i ++ X.drop i := (List.take_append_drop i X).symm
  obtain ⟨hi, e⟩ := List.getElem?_eq_some_iff.1 hx
  have h2 : X.drop i = x :: X.drop (i + 1) := by rw [List.drop_eq_getElem_cons hi, e]
  have h3 : lvO X p = lvO (X.drop i) p := by
    unfold lvO
    conv => lhs; rw [h1]
    rw [List.find?_append, show (X.take i).find? (fun x => x.1 == p) = none from List.find?_eq_none.2 fun y hy => by
      intro e
      simp only [beq_iff_eq] at e
      exact h (List.mem_map.2 ⟨y, hy, e⟩), Option.none_or]
  have h4 : ofM X p = ofM (X.drop i) p := by unfold ofM; rw [h3]
  rw [h4]
  split
  · rename_i hp
    unfold ofM lvO
    rw [h2, List.find?_cons, show (x.1 == p) = true from by rw [beq_iff_eq]; exact hp]
    rfl
  · rfl
set_option maxRecDepth 100000 in
set_option maxHeartbeats 1000000 in
theorem rOf_any (A : Option Addr) (n c : Nat) (X : List Lv) (p : UInt32) (w : World) (h : RdV w w.heap.size A n X) (hn : n ≤ 1000000000000) :
    Calls Tryz.prog 14 #[.slice A n c, nv p] w fun e w' => e = .returned (.int .i64 (ofM X p)) ∧ w' = w := by
  have HX := Lib.hid h
  have HL := Lib.hid (rdV_len h)
  clear h
  go_enter Tryz.func14, Tryz.ntmps14
  repeat (first | go_skip | go_guarded | go_step)
  go_loop [5] (fun q => ∃ i : Nat, i ≤ n ∧ q = .int .i64 (i : Int) ∧ p ∉ (X.take i).map (·.1)) (fun q => n - (intOf q).toNat)
  case atStart => exact ⟨0, by omega, rfl, by simp⟩
  case round =>
    obtain ⟨i, hi, rfl, hno⟩ := hrel
    have HNO := Lib.hid hno
    clear hno
    by_cases hlt : i < n
    · have hci : (i : Int) < (n : Int) := by omega
      obtain ⟨b, o, x, hA, hb, hx, hc0, hc1⟩ := rdV_at HX.out hlt
      subst hA
      obtain ⟨q, v⟩ := x
      dsimp only at hc0 hc1
      have HXI := Lib.hid hx
      clear hx hb
      by_cases hp : q = p
      · have hd : ((q.toNat : Int) == (p.toNat : Int)) = true := by subst hp; simp
        have HP := Lib.hid hp
        clear hp
        repeat (first | go_skip | go_guarded | go_step)
        go_ret
        exact ⟨by rw [ofM_drop HXI.out HNO.out, if_pos HP.out]; rfl, rfl⟩
      · have hd := u32ne' hp
        have HP := Lib.hid hp
        clear hp
        repeat (first | go_skip | go_guarded | go_step)
        go_round
        case rel => exact ⟨i + 1, by omega, by go_num, by
          rw [List.take_add_one, HXI.out, List.map_append, List.mem_append]
          rintro (h | h)
          · exact HNO.out h
          · simp at h; exact HP.out h.symm⟩
        case measure => simp [intOf]; omega
    · obtain rfl : n = i := by omega
      have hci : ¬ (n : Int) < (n : Int) := by omega
      repeat (first | go_skip | go_guarded | go_step)
      go_ret
      exact ⟨by rw [ofM_out (by have := HNO.out; rwa [List.take_of_length_le (by rw [HL.out]; exact Nat.le_refl _)] at this)]; rfl, rfl⟩
end Go.Proofs.YtfmghkplafploaaGreat

