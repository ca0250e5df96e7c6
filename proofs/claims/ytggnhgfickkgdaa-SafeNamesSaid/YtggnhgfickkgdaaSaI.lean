/- Layer 11 (safe): what is asked of the program; the laws' Few. (Written by genSaI.py.) -/
import Derived.Test.YtggnhgfickkgdaaSaH
set_option linter.unusedVariables false
set_option linter.unusedSimpArgs false
namespace Go.Proofs.Ytggnhgfickkgdaa
open Go Go.RowKit

/-- What is asked of the program's package safe. -/
structure SafeOk : Prop where
  right : ∀ (A : Option Addr) (n c : Nat) (Q : List ClA) (C : List Cl) (w : World), RdCs w w.heap.size A n Q C → n ≤ c → Slim C → n ≤ 1000000 →
    Calls Try.prog 8 #[.slice A n c] w fun e w' => e = .returned (.tuple #[.int .i64 ((rightM C).1 : Int), .int .i64 ((rightM C).2 : Int)]) ∧ Below w.heap.size w w'
  arities : ∀ (A : Option Addr) (n c : Nat) (Q : List ClA) (C : List Cl) (A2 : Option Addr) (n2 c2 : Nat) (Y : List AtR) (w : World), RdCs w w.heap.size A n Q C → Rd w w.heap.size 2 A2 n2 (Y.flatMap atC) → Y.length = n2 → n ≤ c → Slim C → n ≤ 1000000 → n2 ≤ 1000000 →
    Calls Try.prog 10 #[.slice A n c, .slice A2 n2 c2] w fun e w' => (∃ at_ er : Int, e = .returned (.tuple #[.int .i64 at_, .int .i64 er])) ∧ ((rightM C).2 = 0 → e = .returned (.tuple #[.int .i64 ((aritM C (Y.map keyR)).1 : Int), .int .i64 ((aritM C (Y.map keyR)).2 : Int)])) ∧ Below w.heap.size w w'
def few1 (x : Cl) : Bool := decide (x.2.length ≤ 30) && decide (x.1.2.length ≤ 30) && x.2.all fun y => decide (y.2.2.length ≤ 30)
def few2 (f : AtR) : Bool := decide (f.2.2.1 ≤ 30)
def fewH (n nf : Nat) : Bool := !(decide (60 < n) && decide (n ≤ 400) || decide (1000 < n) || decide (120 < nf))
def fewB (n nf : Nat) (C : List Cl) (Y : List AtR) : Bool := fewH n nf && (C.all few1 && Y.all few2)
theorem few_slim {C : List Cl} (h : C.all few1 = true) : Slim C := fun x hx => by
  have h1 := List.all_eq_true.1 h x hx
  unfold few1 at h1
  simp only [Bool.and_eq_true, decide_eq_true_eq, List.all_eq_true] at h1
  obtain ⟨⟨h2, h3⟩, h4⟩ := h1
  exact ⟨by omega, by omega, fun y hy => by have := h4 y hy; omega⟩
set_option maxRecDepth 100000 in
set_option maxHeartbeats 2000000 in
theorem few_a (A : Option Addr) (n c : Nat) (Q : List ClA) (C : List Cl) (A2 : Option Addr) (nf c2 : Nat) (Y : List AtR) (w : World) (h : RdCs w w.heap.size A n Q C) (h2 : Rd w w.heap.size 2 A2 nf (Y.flatMap atC)) (hY : Y.length = nf) (h1 : 60 < n ∧ n ≤ 400) :
    Calls Try.prog 6 #[.slice A n c, .slice A2 nf c2] w fun e w' => e = .returned (.bool (fewH n nf && (C.all few1 && Y.all few2))) ∧ w' = w := by
  have HC := Lib.hid h
  have HF := Lib.hid h2
  have HY := Lib.hid hY
  clear h h2 hY
  have HH := Lib.hid (show fewH n nf = false by unfold fewH; simp; omega)
  have ha : (60 : Int) < (n : Int) := by omega
  have hb : (n : Int) ≤ 400 := by omega
  go_enter Try.func6, Try.ntmps6
  repeat (first | go_skip | go_guarded | go_step)
  go_ret
  exact ⟨by rw [HH.out]; rfl, rfl⟩
set_option maxRecDepth 100000 in
set_option maxHeartbeats 2000000 in
theorem few_b (A : Option Addr) (n c : Nat) (Q : List ClA) (C : List Cl) (A2 : Option Addr) (nf c2 : Nat) (Y : List AtR) (w : World) (h : RdCs w w.heap.size A n Q C) (h2 : Rd w w.heap.size 2 A2 nf (Y.flatMap atC)) (hY : Y.length = nf) (h1 : 1000 < n) :
    Calls Try.prog 6 #[.slice A n c, .slice A2 nf c2] w fun e w' => e = .returned (.bool (fewH n nf && (C.all few1 && Y.all few2))) ∧ w' = w := by
  have HC := Lib.hid h
  have HF := Lib.hid h2
  have HY := Lib.hid hY
  clear h h2 hY
  have HH := Lib.hid (show fewH n nf = false by unfold fewH; simp; omega)
  have ha : (60 : Int) < (n : Int) := by omega
  have hb : ¬ (n : Int) ≤ 400 := by omega
  have hc : (1000 : Int) < (n : Int) := by omega
  go_enter Try.func6, Try.ntmps6
  repeat (first | go_skip | go_guarded | go_step)
  go_ret
  exact ⟨by rw [HH.out]; rfl, rfl⟩
set_option maxRecDepth 100000 in
set_option maxHeartbeats 2000000 in
theorem few_c (A : Option Addr) (n c : Nat) (Q : List ClA) (C : List Cl) (A2 : Option Addr) (nf c2 : Nat) (Y : List AtR) (w : World) (h : RdCs w w.heap.size A n Q C) (h2 : Rd w w.heap.size 2 A2 nf (Y.flatMap atC)) (hY : Y.length = nf) (h1 : n ≤ 60) (h2' : 120 < nf) :
    Calls Try.prog 6 #[.slice A n c, .slice A2 nf c2] w fun e w' => e = .returned (.bool (fewH n nf && (C.all few1 && Y.all few2))) ∧ w' = w := by
  have HC := Lib.hid h
  have HF := Lib.hid h2
  have HY := Lib.hid hY
  clear h h2 hY
  have HH := Lib.hid (show fewH n nf = false by unfold fewH; simp; omega)
  have ha : ¬ (60 : Int) < (n : Int) := by omega
  have hc : ¬ (1000 : Int) < (n : Int) := by omega
  have hd : (120 : Int) < (nf : Int) := by omega
  go_enter Try.func6, Try.ntmps6
  repeat (first | go_skip | go_guarded | go_step)
  go_ret
  exact ⟨by rw [HH.out]; rfl, rfl⟩
set_option maxRecDepth 100000 in
set_option maxHeartbeats 2000000 in
theorem few_d (A : Option Addr) (n c : Nat) (Q : List ClA) (C : List Cl) (A2 : Option Addr) (nf c2 : Nat) (Y : List AtR) (w : World) (h : RdCs w w.heap.size A n Q C) (h2 : Rd w w.heap.size 2 A2 nf (Y.flatMap atC)) (hY : Y.length = nf) (h1 : 400 < n ∧ n ≤ 1000) (h2' : 120 < nf) :
    Calls Try.prog 6 #[.slice A n c, .slice A2 nf c2] w fun e w' => e = .returned (.bool (fewH n nf && (C.all few1 && Y.all few2))) ∧ w' = w := by
  have HC := Lib.hid h
  have HF := Lib.hid h2
  have HY := Lib.hid hY
  clear h h2 hY
  have HH := Lib.hid (show fewH n nf = false by unfold fewH; simp; omega)
  have ha : (60 : Int) < (n : Int) := by omega
  have hb : ¬ (n : Int) ≤ 400 := by omega
  have hc : ¬ (1000 : Int) < (n : Int) := by omega
  have hd : (120 : Int) < (nf : Int) := by omega
  go_enter Try.func6, Try.ntmps6
  repeat (first | go_skip | go_guarded | go_step)
  go_ret
  exact ⟨by rw [HH.out]; rfl, rfl⟩
set_option maxRecDepth 100000 in
set_option maxHeartbeats 2000000 in
theorem few_e (A : Option Addr) (n c : Nat) (Q : List ClA) (C : List Cl) (A2 : Option Addr) (nf c2 : Nat) (Y : List AtR) (w : World) (h : RdCs w w.heap.size A n Q C) (h2 : Rd w w.heap.size 2 A2 nf (Y.flatMap atC)) (hY : Y.length = nf) (h1 : n ≤ 60) (h2' : nf ≤ 120) :
    Calls Try.prog 6 #[.slice A n c, .slice A2 nf c2] w fun e w' => e = .returned (.bool (fewH n nf && (C.all few1 && Y.all few2))) ∧ w' = w := by
  have HC := Lib.hid h
  have HF := Lib.hid h2
  have HY := Lib.hid hY
  clear h h2 hY
  have HH := Lib.hid (show fewH n nf = true by unfold fewH; simp; omega)
  have ha : ¬ (60 : Int) < (n : Int) := by omega
  have hc : ¬ (1000 : Int) < (n : Int) := by omega
  have hd : ¬ (120 : Int) < (nf : Int) := by omega
  go_enter Try.func6, Try.ntmps6
  repeat (first | go_skip | go_guarded | go_step)
  go_loop [5] (fun q => ∃ i : Nat, i ≤ n ∧ q = .int .i64 (i : Int) ∧ (C.take i).all few1 = true) (fun q => n - (intOf q).toNat)
  case atStart => exact ⟨0, by omega, rfl, by simp⟩
  case round =>
    obtain ⟨i, hi, rfl, hal⟩ := hrel
    have HAL := Lib.hid hal
    clear hal
    by_cases hlt : i < n
    · have hci : (i : Int) < (n : Int) := by omega
      obtain ⟨b, o, p, l, L, A0, n0, c0, A1, n1, c1, R, hA, hb, hx, hq, hd0, hd1, hd2, hrt, hrl⟩ := HC.out.at_ hlt
      subst hA
      have HX := Lib.hid hx
      have HRL := Lib.hid hrl
      have hl0 := rdT_len hrt
      have hl1 := hrl.lenL
      have HBAD := Lib.hid (show few1 ((p, l), L) = false → C.all few1 = false from fun h => all_at HX.out h)
      have HL0 := Lib.hid hl0
      have HL1 := Lib.hid hl1
      clear hx hq hrt hrl hb hl0 hl1
      by_cases h1 : 30 < n1
      · have h1i : (30 : Int) < (n1 : Int) := by omega
        have HZ := Lib.hid (HBAD.out (by unfold few1; rw [decide_eq_false (by dsimp only; have := HL1.out; omega)]; rfl))
        repeat (first | go_skip | go_guarded | go_step)
        go_ret
        exact ⟨by rw [HH.out, HZ.out]; rfl, rfl⟩
      have h1i : ¬ (30 : Int) < (n1 : Int) := by omega
      by_cases h0 : 30 < n0
      · have h0i : (30 : Int) < (n0 : Int) := by omega
        have HZ := Lib.hid (HBAD.out (by unfold few1; rw [decide_eq_false (p := (((p, l), L) : Cl).1.2.length ≤ 30) (by dsimp only; have := HL0.out; omega)]; simp))
        repeat (first | go_skip | go_guarded | go_step)
        go_ret
        exact ⟨by rw [HH.out, HZ.out]; rfl, rfl⟩
      have h0i : ¬ (30 : Int) < (n0 : Int) := by omega
      repeat (first | go_skip | go_guarded | go_step)
      go_loop [6] (fun q => ∃ k : Nat, k ≤ n1 ∧ q = .int .i64 (k : Int) ∧ (L.take k).all (fun y => decide (y.2.2.length ≤ 30)) = true) (fun q => n1 - (intOf q).toNat)
      case atStart => exact ⟨0, by omega, rfl, by simp⟩
      case round =>
        obtain ⟨k, hk, rfl, hal⟩ := hrel
        have HAK := Lib.hid hal
        clear hal
        by_cases hltk : k < n1
        · have hki : (k : Int) < (n1 : Int) := by omega
          obtain ⟨b3, o3, g3, p3, l3, Ai, ni, ci, hA1, hb3, hx3, he0, he1, he2, hrow⟩ := HRL.out.at_ hltk
          subst hA1
          have HX3 := Lib.hid hx3
          have HL3 := Lib.hid (rdT_len hrow)
          clear hx3 hrow hb3
          by_cases h3 : 30 < ni
          · have h3i : (30 : Int) < (ni : Int) := by omega
            have HZ := Lib.hid (HBAD.out (by
              unfold few1
              rw [all_at (l := L) HX3.out (by dsimp only; rw [decide_eq_false (by have := HL3.out; omega)])]
              simp))
            repeat (first | go_skip | go_guarded | go_step)
            go_ret
            exact ⟨by rw [HH.out, HZ.out]; rfl, rfl⟩
          · have h3i : ¬ (30 : Int) < (ni : Int) := by omega
            repeat (first | go_skip | go_guarded | go_step)
            go_round
            case rel => exact ⟨k + 1, by omega, by go_num, all_upto HX3.out HAK.out (by rw [decide_eq_true (by have := HL3.out; dsimp only; omega)])⟩
            case measure => simp [intOf]; omega
        · obtain rfl : n1 = k := by omega
          have hki : ¬ (n1 : Int) < (n1 : Int) := by omega
          repeat (first | go_skip | go_guarded | go_step)
          go_round
          case rel => exact ⟨i + 1, by omega, by go_num, all_upto HX.out HAL.out (by
            unfold few1
            rw [decide_eq_true (by dsimp only; have := HL1.out; omega), decide_eq_true (p := (((p, l), L) : Cl).1.2.length ≤ 30) (by dsimp only; have := HL0.out; omega), all_whole (l := L) (by have := HL1.out; omega) HAK.out]
            rfl)⟩
          case measure => simp [intOf]; omega
    · obtain rfl : n = i := by omega
      have hci : ¬ (n : Int) < (n : Int) := by omega
      have HALL := Lib.hid (show C.all few1 = true from all_whole (by have := HC.out.lenC; omega) HAL.out)
      repeat (first | go_skip | go_guarded | go_step)
      go_loop [7] (fun q => ∃ k : Nat, k ≤ nf ∧ q = .int .i64 (k : Int) ∧ (Y.take k).all few2 = true) (fun q => nf - (intOf q).toNat)
      case atStart => exact ⟨0, by omega, rfl, by simp⟩
      case round =>
        obtain ⟨k, hk, rfl, hal⟩ := hrel
        have HAK := Lib.hid hal
        clear hal
        by_cases hltk : k < nf
        · have hki : (k : Int) < (nf : Int) := by omega
          obtain ⟨x, hx⟩ : ∃ x, Y[k]? = some x := ⟨_, List.getElem?_eq_getElem (by rw [HY.out]; exact hltk)⟩
          obtain ⟨b4, o4, hAl, hb4, hc0, hc1⟩ := rdAt HF.out hltk hx
          subst hAl
          obtain ⟨px, Ax, nx, cx⟩ := x
          dsimp only at hc0 hc1
          have HX := Lib.hid hx
          clear hx hb4
          by_cases h3 : 30 < nx
          · have h3i : (30 : Int) < (nx : Int) := by omega
            have HZ := Lib.hid (show Y.all few2 = false from all_at HX.out (by unfold few2; rw [decide_eq_false (by dsimp only; omega)]))
            repeat (first | go_skip | go_guarded | go_step)
            go_ret
            exact ⟨by rw [HH.out, HALL.out, HZ.out]; rfl, rfl⟩
          · have h3i : ¬ (30 : Int) < (nx : Int) := by omega
            repeat (first | go_skip | go_guarded | go_step)
            go_round
            case rel => exact ⟨k + 1, by omega, by go_num, all_upto HX.out HAK.out (by unfold few2; rw [decide_eq_true (by dsimp only; omega)])⟩
            case measure => simp [intOf]; omega
        · obtain rfl : nf = k := by omega
          have hki : ¬ (nf : Int) < (nf : Int) := by omega
          have HZ := Lib.hid (show Y.all few2 = true from all_whole (by have := HY.out; omega) HAK.out)
          repeat (first | go_skip | go_guarded | go_step)
          go_ret
          exact ⟨by rw [HH.out, HALL.out, HZ.out]; rfl, rfl⟩
set_option maxRecDepth 100000 in
set_option maxHeartbeats 2000000 in
theorem few_f (A : Option Addr) (n c : Nat) (Q : List ClA) (C : List Cl) (A2 : Option Addr) (nf c2 : Nat) (Y : List AtR) (w : World) (h : RdCs w w.heap.size A n Q C) (h2 : Rd w w.heap.size 2 A2 nf (Y.flatMap atC)) (hY : Y.length = nf) (h1 : 400 < n ∧ n ≤ 1000) (h2' : nf ≤ 120) :
    Calls Try.prog 6 #[.slice A n c, .slice A2 nf c2] w fun e w' => e = .returned (.bool (fewH n nf && (C.all few1 && Y.all few2))) ∧ w' = w := by
  have HC := Lib.hid h
  have HF := Lib.hid h2
  have HY := Lib.hid hY
  clear h h2 hY
  have HH := Lib.hid (show fewH n nf = true by unfold fewH; simp; omega)
  have ha : (60 : Int) < (n : Int) := by omega
  have hb : ¬ (n : Int) ≤ 400 := by omega
  have hc : ¬ (1000 : Int) < (n : Int) := by omega
  have hd : ¬ (120 : Int) < (nf : Int) := by omega
  go_enter Try.func6, Try.ntmps6
  repeat (first | go_skip | go_guarded | go_step)
  go_loop [5] (fun q => ∃ i : Nat, i ≤ n ∧ q = .int .i64 (i : Int) ∧ (C.take i).all few1 = true) (fun q => n - (intOf q).toNat)
  case atStart => exact ⟨0, by omega, rfl, by simp⟩
  case round =>
    obtain ⟨i, hi, rfl, hal⟩ := hrel
    have HAL := Lib.hid hal
    clear hal
    by_cases hlt : i < n
    · have hci : (i : Int) < (n : Int) := by omega
      obtain ⟨b, o, p, l, L, A0, n0, c0, A1, n1, c1, R, hA, hb, hx, hq, hd0, hd1, hd2, hrt, hrl⟩ := HC.out.at_ hlt
      subst hA
      have HX := Lib.hid hx
      have HRL := Lib.hid hrl
      have hl0 := rdT_len hrt
      have hl1 := hrl.lenL
      have HBAD := Lib.hid (show few1 ((p, l), L) = false → C.all few1 = false from fun h => all_at HX.out h)
      have HL0 := Lib.hid hl0
      have HL1 := Lib.hid hl1
      clear hx hq hrt hrl hb hl0 hl1
      by_cases h1 : 30 < n1
      · have h1i : (30 : Int) < (n1 : Int) := by omega
        have HZ := Lib.hid (HBAD.out (by unfold few1; rw [decide_eq_false (by dsimp only; have := HL1.out; omega)]; rfl))
        repeat (first | go_skip | go_guarded | go_step)
        go_ret
        exact ⟨by rw [HH.out, HZ.out]; rfl, rfl⟩
      have h1i : ¬ (30 : Int) < (n1 : Int) := by omega
      by_cases h0 : 30 < n0
      · have h0i : (30 : Int) < (n0 : Int) := by omega
        have HZ := Lib.hid (HBAD.out (by unfold few1; rw [decide_eq_false (p := (((p, l), L) : Cl).1.2.length ≤ 30) (by dsimp only; have := HL0.out; omega)]; simp))
        repeat (first | go_skip | go_guarded | go_step)
        go_ret
        exact ⟨by rw [HH.out, HZ.out]; rfl, rfl⟩
      have h0i : ¬ (30 : Int) < (n0 : Int) := by omega
      repeat (first | go_skip | go_guarded | go_step)
      go_loop [6] (fun q => ∃ k : Nat, k ≤ n1 ∧ q = .int .i64 (k : Int) ∧ (L.take k).all (fun y => decide (y.2.2.length ≤ 30)) = true) (fun q => n1 - (intOf q).toNat)
      case atStart => exact ⟨0, by omega, rfl, by simp⟩
      case round =>
        obtain ⟨k, hk, rfl, hal⟩ := hrel
        have HAK := Lib.hid hal
        clear hal
        by_cases hltk : k < n1
        · have hki : (k : Int) < (n1 : Int) := by omega
          obtain ⟨b3, o3, g3, p3, l3, Ai, ni, ci, hA1, hb3, hx3, he0, he1, he2, hrow⟩ := HRL.out.at_ hltk
          subst hA1
          have HX3 := Lib.hid hx3
          have HL3 := Lib.hid (rdT_len hrow)
          clear hx3 hrow hb3
          by_cases h3 : 30 < ni
          · have h3i : (30 : Int) < (ni : Int) := by omega
            have HZ := Lib.hid (HBAD.out (by
              unfold few1
              rw [all_at (l := L) HX3.out (by dsimp only; rw [decide_eq_false (by have := HL3.out; omega)])]
              simp))
            repeat (first | go_skip | go_guarded | go_step)
            go_ret
            exact ⟨by rw [HH.out, HZ.out]; rfl, rfl⟩
          · have h3i : ¬ (30 : Int) < (ni : Int) := by omega
            repeat (first | go_skip | go_guarded | go_step)
            go_round
            case rel => exact ⟨k + 1, by omega, by go_num, all_upto HX3.out HAK.out (by rw [decide_eq_true (by have := HL3.out; dsimp only; omega)])⟩
            case measure => simp [intOf]; omega
        · obtain rfl : n1 = k := by omega
          have hki : ¬ (n1 : Int) < (n1 : Int) := by omega
          repeat (first | go_skip | go_guarded | go_step)
          go_round
          case rel => exact ⟨i + 1, by omega, by go_num, all_upto HX.out HAL.out (by
            unfold few1
            rw [decide_eq_true (by dsimp only; have := HL1.out; omega), decide_eq_true (p := (((p, l), L) : Cl).1.2.length ≤ 30) (by dsimp only; have := HL0.out; omega), all_whole (l := L) (by have := HL1.out; omega) HAK.out]
            rfl)⟩
          case measure => simp [intOf]; omega
    · obtain rfl : n = i := by omega
      have hci : ¬ (n : Int) < (n : Int) := by omega
      have HALL := Lib.hid (show C.all few1 = true from all_whole (by have := HC.out.lenC; omega) HAL.out)
      repeat (first | go_skip | go_guarded | go_step)
      go_loop [7] (fun q => ∃ k : Nat, k ≤ nf ∧ q = .int .i64 (k : Int) ∧ (Y.take k).all few2 = true) (fun q => nf - (intOf q).toNat)
      case atStart => exact ⟨0, by omega, rfl, by simp⟩
      case round =>
        obtain ⟨k, hk, rfl, hal⟩ := hrel
        have HAK := Lib.hid hal
        clear hal
        by_cases hltk : k < nf
        · have hki : (k : Int) < (nf : Int) := by omega
          obtain ⟨x, hx⟩ : ∃ x, Y[k]? = some x := ⟨_, List.getElem?_eq_getElem (by rw [HY.out]; exact hltk)⟩
          obtain ⟨b4, o4, hAl, hb4, hc0, hc1⟩ := rdAt HF.out hltk hx
          subst hAl
          obtain ⟨px, Ax, nx, cx⟩ := x
          dsimp only at hc0 hc1
          have HX := Lib.hid hx
          clear hx hb4
          by_cases h3 : 30 < nx
          · have h3i : (30 : Int) < (nx : Int) := by omega
            have HZ := Lib.hid (show Y.all few2 = false from all_at HX.out (by unfold few2; rw [decide_eq_false (by dsimp only; omega)]))
            repeat (first | go_skip | go_guarded | go_step)
            go_ret
            exact ⟨by rw [HH.out, HALL.out, HZ.out]; rfl, rfl⟩
          · have h3i : ¬ (30 : Int) < (nx : Int) := by omega
            repeat (first | go_skip | go_guarded | go_step)
            go_round
            case rel => exact ⟨k + 1, by omega, by go_num, all_upto HX.out HAK.out (by unfold few2; rw [decide_eq_true (by dsimp only; omega)])⟩
            case measure => simp [intOf]; omega
        · obtain rfl : nf = k := by omega
          have hki : ¬ (nf : Int) < (nf : Int) := by omega
          have HZ := Lib.hid (show Y.all few2 = true from all_whole (by have := HY.out; omega) HAK.out)
          repeat (first | go_skip | go_guarded | go_step)
          go_ret
          exact ⟨by rw [HH.out, HALL.out, HZ.out]; rfl, rfl⟩
theorem few_any (A : Option Addr) (n c : Nat) (Q : List ClA) (C : List Cl) (A2 : Option Addr) (nf c2 : Nat) (Y : List AtR) (w : World) (h : RdCs w w.heap.size A n Q C) (h2 : Rd w w.heap.size 2 A2 nf (Y.flatMap atC)) (hY : Y.length = nf) :
    Calls Try.prog 6 #[.slice A n c, .slice A2 nf c2] w fun e w' => e = .returned (.bool (fewB n nf C Y)) ∧ w' = w := by
  unfold fewB
  by_cases h1 : n ≤ 60
  · by_cases h3 : 120 < nf
    · exact few_c A n c Q C A2 nf c2 Y w h h2 hY h1 h3
    · exact few_e A n c Q C A2 nf c2 Y w h h2 hY h1 (by omega)
  · by_cases h4 : n ≤ 400
    · exact few_a A n c Q C A2 nf c2 Y w h h2 hY ⟨by omega, h4⟩
    · by_cases h5 : 1000 < n
      · exact few_b A n c Q C A2 nf c2 Y w h h2 hY h5
      · by_cases h3 : 120 < nf
        · exact few_d A n c Q C A2 nf c2 Y w h h2 hY ⟨by omega, by omega⟩ h3
        · exact few_f A n c Q C A2 nf c2 Y w h h2 hY ⟨by omega, by omega⟩ (by omega)
end Go.Proofs.Ytggnhgfickkgdaa
