/- slices.Sort of numbers of 32 bits: the heap sort. -/
import Derived.Test.YtedgigoelhcfnaaUsB
set_option linter.unusedVariables false
set_option linter.unusedSimpArgs false
namespace Go.Proofs.Ytedgigoelhcfnaa
open Go Go.RowKit

set_option maxRecDepth 100000 in
set_option maxHeartbeats 8000000 in
theorem usHeap (g c a b : Nat) (d : Array UInt32) (rest : List Value) (w : World) (n : Nat) (hn : n = d.size) (hb : BkA w g d rest) (hab : a < b) (hbd : b ≤ n) (hsz : n ≤ 1000000000000) :
    Calls Try.prog 29 #[.slice (some ⟨g, 0, none⟩) n c, .int .i64 (a : Int), .int .i64 (b : Int)] w fun e w' => e = .returned (.tuple #[]) ∧ BkA w' g (Go.Sort.heapSort ltU d a b) rest ∧ Turn (fun k => k = g) w w' := by
  have HB := Lib.hid hb
  have HN := Lib.hid hn
  obtain ⟨m, hm⟩ : ∃ m, m = b - a := ⟨_, rfl⟩
  have HM := Lib.hid hm
  obtain ⟨h, hh⟩ : ∃ h, h = (m - 1) / 2 := ⟨_, rfl⟩
  have e0 : ((b : Int) - (a : Int)) = (m : Int) := by omega
  have e1 : Int.tdiv ((m : Int) - 1) 2 = (h : Int) := by rw [Int.tdiv_eq_ediv_of_nonneg (by omega)]; omega
  have hm0 : 0 < m := by omega
  have hma : a + m = b := by omega
  have hhm : h < m := by omega
  have HHH := Lib.hid hh
  clear hb hn hm hh
  go_enter Try.func29, Try.ntmps29
  repeat (first | go_skip | go_guarded | go_step)
  go_loopw [9] (fun q wr => ∃ (k : Nat) (dk : Array UInt32), q = .int .i64 ((k : Int) - 1) ∧ k ≤ h + 1 ∧ dk.size = n ∧ Go.Sort.heapBuild ltU m a k dk = Go.Sort.heapBuild ltU m a (h + 1) d ∧ BkA wr g dk rest ∧ Turn (fun k => k = g) w wr) (fun q _ => (intOf q + 1).toNat)
  case atStart => exact ⟨h + 1, d, by congr 1; omega, Nat.le_refl _, HN.out.symm, rfl, HB.out, Turn.refl _ _⟩
  case round =>
    obtain ⟨k, dk, rfl, hk, hdk, hO, hbk, ht⟩ := hrel
    have HO := Lib.hid hO
    have HK := Lib.hid hbk
    have HT := Lib.hid ht
    have HDK := Lib.hid hdk
    clear hO hbk ht hdk
    cases k with
    | zero =>
      have hd0 : decide ((0 : Int) ≤ ((0 : Nat) : Int) - 1) = false := by simp
      have hq : (((0 : Nat) : Int) - 1) = -1 := by omega
      have hd1 : ¬ (0 : Int) ≤ -1 := by omega
      have e3 : ((m : Int) - 1) = (((m - 1 : Nat)) : Int) := by omega
      rw [hq]
      clear hd0 hq
      repeat (first | go_skip | go_guarded | go_step)
      rename World => w1
      go_loopw [10] (fun q wr => ∃ (k : Nat) (dj : Array UInt32), q = .int .i64 ((k : Int) - 1) ∧ k ≤ m ∧ dj.size = n ∧ Go.Sort.heapPop ltU a k dj = Go.Sort.heapPop ltU a m dk ∧ BkA wr g dj rest ∧ Turn (fun k => k = g) w wr) (fun q _ => (intOf q + 1).toNat)
      case atStart => exact ⟨m, dk, by congr 1; omega, Nat.le_refl _, HDK.out, rfl, HK.out, HT.out⟩
      case round =>
        obtain ⟨k, dj, rfl, hk2, hdj, hO2, hbk, ht⟩ := hrel
        have HO2 := Lib.hid hO2
        have HK2 := Lib.hid hbk
        have HT2 := Lib.hid ht
        have HDJ := Lib.hid hdj
        clear hO2 ht
        cases k with
        | zero =>
          have hq : (((0 : Nat) : Int) - 1) = -1 := by omega
          have hd1 : ¬ (0 : Int) ≤ -1 := by omega
          have HE := Lib.hid (show Go.Sort.heapSort ltU d a b = dj by
            unfold Go.Sort.heapSort
            rw [← HM.out, ← HHH.out, ← HO.out]
            exact HO2.out.symm)
          rw [hq]
          clear hq hbk hdj
          repeat (first | go_skip | go_guarded | go_step)
          go_end0
          exact ⟨rfl, by rw [HE.out]; exact HK2.out, HT2.out⟩
        | succ k =>
          have hq : (((k + 1 : Nat) : Int) - 1) = (k : Int) := by omega
          have hd1 : (0 : Int) ≤ (k : Int) := by omega
          obtain ⟨fi, hfi⟩ : ∃ fi, fi = a + k := ⟨_, rfl⟩
          have e4 : ((a : Int) + (k : Int)) = (fi : Int) := by omega
          have c1 := hbk.at_ (i := fi) (by omega)
          have c2 := hbk.at_ (i := a) (by omega)
          have f1 := hbk.frozen fi
          have f2 := hbk.frozen a
          have HFI := Lib.hid hfi
          rw [hq]
          have HPOP := Lib.hid (show Go.Sort.heapPop ltU a k (Go.Sort.siftDown ltU k a 0 (Go.Sort.swp dj a fi)) = Go.Sort.heapPop ltU a m dk by rw [← HO2.out, Go.Sort.heapPop, hfi])
          generalize hx : dj[fi]! = x at c1
          generalize hy : dj[a]! = y at c2
          have HX := Lib.hid hx
          have HY := Lib.hid hy
          have HSW := Lib.hid (hbk.swp (i := a) (j := fi) (x := y) (y := x) (by omega) (by omega) hy hx)
          have hafi : a < n := by omega
          have hfin : fi < n := by omega
          clear hbk hdj hx hy hq
          by_cases hk0 : k = 0
          · have hfa : a = fi := by rw [hfi, hk0]; rfl
            have hxy : y = x := by rw [← HX.out, ← HY.out, hfa]
            subst hxy
            rw [← hfa] at c1 f1 HPOP HSW e4
            clear hfi c2 f2
            have c2 := c1
            have f2 := f1
            clear hfa hk0
            repeat (first | go_skip | go_guarded | go_step)
            go_region
            obtain ⟨Z, hZ, hkZ, htZ⟩ : ∃ Z, Z = ((wr.setCell { block := g, off := a } (Value.int IntKind.u32 y.toNat)).setCell { block := g, off := a } (Value.int IntKind.u32 y.toNat)).drew ∧ BkA Z g (Go.Sort.swp dj a a) rest ∧ Turn (fun k => k = g) w Z :=
              ⟨_, rfl, HSW.out, (usSwpT HT2.out g a a rfl _ _).drew⟩
            rw [← hZ]
            have HKZ := Lib.hid hkZ
            have HTZ := Lib.hid htZ
            clear hZ hkZ htZ c1 c2 f1 f2
            repeat (first | go_skip | go_guarded | go_step)
            refine (usSift g c 0 k a (Go.Sort.swp dj a a) rest _ n (by rw [Go.Sort.size_swp]; exact HDJ.out.symm) HKZ.out (Nat.zero_le _) (by omega) hsz).mono ?_
            rintro e w2 ⟨rfl, hk2, ht2⟩
            have HK3 := Lib.hid hk2
            have HT3 := Lib.hid (HTZ.out.trans ht2)
            clear hk2 ht2
            dsimp only
            repeat (first | go_skip | go_guarded | go_step)
            go_roundw
            case rel => exact ⟨k, _, rfl, by omega, by rw [sift_size _ _ _ _ _ _ (Nat.le_refl _), Go.Sort.size_swp]; exact HDJ.out, HPOP.out, HK3.out, HT3.out⟩
            case measure => simp [intOf] <;> omega
          · have hne : ¬ a = fi := by rw [HFI.out]; omega
            clear hfi
            repeat (first | go_skip | go_guarded | go_step)
            go_region
            obtain ⟨Z, hZ, hkZ, htZ⟩ : ∃ Z, Z = ((wr.setCell { block := g, off := a } (Value.int IntKind.u32 x.toNat)).setCell { block := g, off := fi } (Value.int IntKind.u32 y.toNat)).drew ∧ BkA Z g (Go.Sort.swp dj a fi) rest ∧ Turn (fun k => k = g) w Z :=
              ⟨_, rfl, HSW.out, (usSwpT HT2.out g a fi rfl _ _).drew⟩
            rw [← hZ]
            have HKZ := Lib.hid hkZ
            have HTZ := Lib.hid htZ
            clear hZ hkZ htZ c1 c2 f1 f2
            repeat (first | go_skip | go_guarded | go_step)
            refine (usSift g c 0 k a (Go.Sort.swp dj a fi) rest _ n (by rw [Go.Sort.size_swp]; exact HDJ.out.symm) HKZ.out (Nat.zero_le _) (by omega) hsz).mono ?_
            rintro e w2 ⟨rfl, hk2, ht2⟩
            have HK3 := Lib.hid hk2
            have HT3 := Lib.hid (HTZ.out.trans ht2)
            clear hk2 ht2
            dsimp only
            repeat (first | go_skip | go_guarded | go_step)
            go_roundw
            case rel => exact ⟨k, _, rfl, by omega, by rw [sift_size _ _ _ _ _ _ (Nat.le_refl _), Go.Sort.size_swp]; exact HDJ.out, HPOP.out, HK3.out, HT3.out⟩
            case measure => simp [intOf] <;> omega
    | succ k =>
      have hq : (((k + 1 : Nat) : Int) - 1) = (k : Int) := by omega
      have hd1 : (0 : Int) ≤ (k : Int) := by omega
      rw [hq]
      clear hq
      repeat (first | go_skip | go_guarded | go_step)
      refine (usSift g c k m a dk rest _ n HDK.out.symm HK.out (by omega) (by omega) hsz).mono ?_
      rintro e w2 ⟨rfl, hk2, ht2⟩
      have HK2 := Lib.hid hk2
      have HT2 := Lib.hid (HT.out.trans ht2)
      clear hk2 ht2
      dsimp only
      repeat (first | go_skip | go_guarded | go_step)
      go_roundw
      case rel => exact ⟨k, _, rfl, by omega, by rw [sift_size _ _ _ _ _ _ (Nat.le_refl _)]; exact HDK.out, by rw [← HO.out, Go.Sort.heapBuild], HK2.out, HT2.out⟩
      case measure => simp [intOf] <;> omega
end Go.Proofs.Ytedgigoelhcfnaa
