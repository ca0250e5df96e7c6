/- slices.Sort of numbers of 32 bits: patterns broken up. (Written by genUsK.py.) -/
import Derived.Test.YtedgigoelhcfnaaUsH
set_option linter.unusedVariables false
set_option linter.unusedSimpArgs false
namespace Go.Proofs.Ytedgigoelhcfnaa
open Go Go.RowKit

theorem BkX.turned {w w' : World} {g s x : Nat} (h : BkX w s x) (ht : Turn (fun k => k = g) w w') (hne : s ≠ g) : BkX w' s x := (ht.block s h.lt fun e => hne e).trans h
theorem BkX.swpd {w : World} {g s x i j : Nat} (h : BkX w s x) (hne : s ≠ g) (u v : Value) : BkX ((w.setCell ⟨g, i, none⟩ u).setCell ⟨g, j, none⟩ v).drew s x := (Bk.far (Bk.far h (p := ⟨g, i, none⟩) hne u) (p := ⟨g, j, none⟩) hne v).drew
set_option maxRecDepth 100000 in
set_option maxHeartbeats 8000000 in
theorem usBreak (g c a b : Nat) (d : Array UInt32) (rest : List Value) (w : World) (n : Nat) (hn : n = d.size) (hb : BkA w g d rest) (hab : a + 12 < b) (hbd : b ≤ n) (hsz : n ≤ 1000000000000) :
    Calls Try.prog 30 #[.slice (some ⟨g, 0, none⟩) n c, .int .i64 (a : Int), .int .i64 (b : Int)] w fun e w' =>
      e = .returned (.tuple #[]) ∧ BkA w' g (Go.Sort.breakPatterns d a b) rest ∧ Turn (fun k => k = g) w w' := by
  obtain ⟨L, hL⟩ : ∃ L, b = a + L := ⟨b - a, by omega⟩
  subst hL
  have h8 : 8 ≤ L := by omega
  rw [breakPatterns_eq d a L h8]
  obtain ⟨M, hM⟩ : ∃ M : Nat, M = 1 <<< Go.Sort.bitsLen L := ⟨_, rfl⟩
  have hM1 : 1 ≤ M := by rw [hM, Nat.one_shiftLeft]; exact Nat.two_pow_pos _
  have hM2 : M ≤ 2 * L := by rw [hM, Nat.one_shiftLeft]; exact Go.Sort.two_pow_bitsLen_le (by omega)
  have HM := Lib.hid hM
  obtain ⟨i0, hi0⟩ : ∃ i0, i0 = a + L / 4 * 2 - 1 := ⟨_, rfl⟩
  obtain ⟨q, hq⟩ : ∃ q, q = L / 4 := ⟨_, rfl⟩
  rw [← hM, ← hi0]
  have e0 : (((a + L : Nat) : Int) - (a : Int)) = (L : Int) := by omega
  have e0' : ((a : Int) + (L : Int) - (a : Int)) = (L : Int) := by omega
  have e1 : Int.tdiv (L : Int) 4 = (q : Int) := by rw [Int.tdiv_eq_ediv_of_nonneg (by omega)]; omega
  have hqL : q ≤ L := by omega
  have h8i : (8 : Int) ≤ (L : Int) := by omega
  have hi2 : i0 + 1 = a + q * 2 := by omega
  have hi3 : i0 + 3 < a + L := by omega
  have eK : ((a : Int) + (q : Int) * 2 - 1) = (i0 : Int) := by omega
  have eK2 : ((a : Int) + (q : Int) * 2 + 1) = ((i0 + 2 : Nat) : Int) := by omega
  have hLs : (UInt64.ofNat L).toNat = L := by simp; omega
  have HN := Lib.hid hn
  have HB1 := Lib.hid (hb.alloc (.cells #[.int .u64 (L : Int)] 73))
  have HX1 := Lib.hid (show BkX (w.alloc (.cells #[.int .u64 (L : Int)] 73)) w.heap.size L from Bk.new w 73 [.int .u64 (L : Int)])
  have HT1 := Lib.hid (show Turn (fun k => k = g) w (w.alloc (.cells #[.int .u64 (L : Int)] 73)) from Turn.ofBelow ((Below.refl _ _).alloc (Nat.le_refl _) _))
  have hne : w.heap.size ≠ g := by have := hb.lt; omega
  have HLS := Lib.hid hLs
  have HI0 := Lib.hid hi0
  clear hM hi0 hq hLs hn hb
  go_enter Try.func30, Try.ntmps30
  repeat (first | go_skip | go_guarded | go_step)
  refine (usPow2 L (by omega) _).mono ?_
  rintro e w1 ⟨rfl, rfl⟩
  rw [← HM.out]
  dsimp only
  repeat (first | go_skip | go_guarded | go_step)
  generalize hW1 : w.alloc (.cells #[.int .u64 (L : Int)] 73) = W1 at *
  clear hW1
  go_loopw [9] (fun p wr => ∃ (t : Nat) (r : UInt64) (dk : Array UInt32), p = .int .i64 ((i0 + t : Nat) : Int) ∧ t ≤ 3 ∧ dk.size = n ∧ bpRest a L M i0 (3 - t) t (r, dk) = bpRest a L M i0 3 0 (UInt64.ofNat L, d) ∧ BkX wr w.heap.size r.toNat ∧ BkA wr g dk rest ∧ Turn (fun k => k = g) w wr) (fun p _ => i0 + 3 - (intOf p).toNat)
  case atStart => exact ⟨0, UInt64.ofNat L, d, by first | rfl | go_num, by omega, HN.out.symm, rfl, by rw [HLS.out]; exact HX1.out, HB1.out, HT1.out⟩
  case round =>
    rename World => wr
    obtain ⟨t, r, dk, rfl, ht3, hdk, hR, hx, hbk, ht⟩ := hrel
    have HR := Lib.hid hR
    have HX := Lib.hid hx
    have HK := Lib.hid hbk
    have HT := Lib.hid ht
    have HDK := Lib.hid hdk
    clear hR hx hbk ht hdk
    have eT : ((i0 + t : Nat) : Int) = (i0 : Int) + (t : Int) := by omega
    by_cases h3 : t < 3
    · have h3i : decide (((i0 + t : Nat) : Int) ≤ ((i0 + 2 : Nat) : Int)) = true := by simp; omega
      obtain ⟨p, hp⟩ : ∃ p : Nat, p = i0 + t := ⟨_, rfl⟩
      rw [← hp] at h3i eT ⊢
      have HP := Lib.hid hp
      have hpn : p < n := by omega
      have hpl : p < a + L := by omega
      obtain ⟨R', hR'⟩ : ∃ R' : Nat, R' = (Go.Sort.xorNext r).toNat := ⟨_, rfl⟩
      have hR2 : Go.Sort.xorNextN r.toNat = R' := by rw [hR', Go.Sort.xorNext_toNat]
      have lR' : R' < 18446744073709551616 := by rw [hR']; exact (Go.Sort.xorNext r).toNat_lt
      obtain ⟨O, hO⟩ : ∃ O : Nat, O = R' &&& (M - 1) := ⟨_, rfl⟩
      have lO : O ≤ M - 1 := by rw [hO]; exact Nat.and_le_right
      have eAnd : bits .and .u64 (R' : Int) ((M : Int) - 1) = (O : Int) := by
        rw [show ((M : Int) - 1) = ((M - 1 : Nat) : Int) by omega, bits_and_u64_nat _ _ lR' (by omega), hO]
      have HRR := Lib.hid hR2
      have HO := Lib.hid hO
      have HR' := Lib.hid hR'
      have hd2 : decide ((p : Int) ≤ (i0 : Int) + 2) = true := by simp; omega
      clear hR2 hO hR' eT hp
      repeat (first | go_skip | go_guarded | go_step)
      refine (usNext w.heap.size r.toNat r.toNat_lt wr HX.out).mono ?_
      rintro e w2 ⟨rfl, hx2, ht2⟩
      rw [HRR.out] at hx2 ⊢
      have HX2 := Lib.hid hx2
      have HK2 := Lib.hid (BkA.turned HK.out ht2 hne)
      have HT2 := Lib.hid (HT.out.then_ ht2 fun k h1 h2 => absurd h1 (by show ¬ k < w.heap.size; have h3 : k = w.heap.size := h2; omega))
      clear hx2 ht2
      dsimp only
      by_cases hLO : L ≤ O
      · have hLOi : (L : Int) ≤ (O : Int) := by omega
        obtain ⟨m, hm⟩ : ∃ m : Nat, m = a + (O - L) := ⟨_, rfl⟩
        have hmn : m < n := by omega
        have hST := Lib.hid (show bpRest a L M i0 (3 - t) t (r, dk) = bpRest a L M i0 (3 - (t + 1)) (t + 1) (Go.Sort.xorNext r, Go.Sort.swp dk (i0 + t) m) by rw [hm]; exact bp_step a L M i0 t r dk (O - L) h3 (by rw [← HR'.out, ← HO.out, if_pos hLO]))
        have eM : ((a : Int) + (((O : Int) - (L : Int)))) = (m : Int) := by omega
        have HMM := Lib.hid hm
        clear hm
        have c1 := HK2.out.at_ (i := m) (by rw [HDK.out]; omega)
        have c2 := HK2.out.at_ (i := p) (by rw [HDK.out]; omega)
        generalize hx : dk[m]! = x at c1
        generalize hy : dk[p]! = y at c2
        have HXX := Lib.hid hx
        have HYY := Lib.hid hy
        have f1 := HK2.out.frozen m
        have f2 := HK2.out.frozen p
        clear hx hy
        by_cases hEq : p = m
        · have hxy : y = x := by rw [← HXX.out, ← HYY.out, hEq]
          subst hxy
          subst hEq
          repeat (first | go_skip | go_guarded | go_step)
          go_region
          obtain ⟨Z, hZ, hxZ, hkZ, htZ⟩ : ∃ Z, Z = ((w2.setCell { block := g, off := p } (Value.int IntKind.u32 y.toNat)).setCell { block := g, off := p } (Value.int IntKind.u32 y.toNat)).drew ∧ BkX Z w.heap.size R' ∧ BkA Z g (Go.Sort.swp dk p p) rest ∧ Turn (fun k => k = g) w Z :=
            ⟨_, rfl, BkX.swpd HX2.out hne _ _, HK2.out.swp (by rw [HDK.out]; omega) (by rw [HDK.out]; omega) HYY.out HXX.out, (usSwpT HT2.out g p p rfl _ _).drew⟩
          rw [← hZ]
          have HXZ := Lib.hid hxZ
          have HKZ := Lib.hid hkZ
          have HTZ := Lib.hid htZ
          clear hZ hxZ hkZ htZ c1 c2 f1 f2
          repeat (first | go_skip | go_guarded | go_step)
          go_roundw
          case rel => exact ⟨t + 1, Go.Sort.xorNext r, Go.Sort.swp dk p p, by have := HP.out; first | (congr 1; omega) | go_num, by omega, by rw [Go.Sort.size_swp]; exact HDK.out, by rw [HP.out, ← HR.out, hST.out] ; try rw [← HP.out], by rw [← HR'.out]; exact HXZ.out, HKZ.out, HTZ.out⟩
          case measure => have := HP.out; simp [intOf]; omega
        · have hEq2 : ¬ m = p := fun h => hEq h.symm
          repeat (first | go_skip | go_guarded | go_step)
          go_region
          obtain ⟨Z, hZ, hxZ, hkZ, htZ⟩ : ∃ Z, Z = ((w2.setCell { block := g, off := p } (Value.int IntKind.u32 x.toNat)).setCell { block := g, off := m } (Value.int IntKind.u32 y.toNat)).drew ∧ BkX Z w.heap.size R' ∧ BkA Z g (Go.Sort.swp dk p m) rest ∧ Turn (fun k => k = g) w Z :=
            ⟨_, rfl, BkX.swpd HX2.out hne _ _, HK2.out.swp (by rw [HDK.out]; omega) (by rw [HDK.out]; omega) HYY.out HXX.out, (usSwpT HT2.out g p m rfl _ _).drew⟩
          rw [← hZ]
          have HXZ := Lib.hid hxZ
          have HKZ := Lib.hid hkZ
          have HTZ := Lib.hid htZ
          clear hZ hxZ hkZ htZ c1 c2 f1 f2
          repeat (first | go_skip | go_guarded | go_step)
          go_roundw
          case rel => exact ⟨t + 1, Go.Sort.xorNext r, Go.Sort.swp dk p m, by have := HP.out; first | (congr 1; omega) | go_num, by omega, by rw [Go.Sort.size_swp]; exact HDK.out, by rw [HP.out, ← HR.out, hST.out], by rw [← HR'.out]; exact HXZ.out, HKZ.out, HTZ.out⟩
          case measure => have := HP.out; simp [intOf]; omega
      · have hLOi : ¬ (L : Int) ≤ (O : Int) := by omega
        obtain ⟨m, hm⟩ : ∃ m : Nat, m = a + (O) := ⟨_, rfl⟩
        have hmn : m < n := by omega
        have hST := Lib.hid (show bpRest a L M i0 (3 - t) t (r, dk) = bpRest a L M i0 (3 - (t + 1)) (t + 1) (Go.Sort.xorNext r, Go.Sort.swp dk (i0 + t) m) by rw [hm]; exact bp_step a L M i0 t r dk (O) h3 (by rw [← HR'.out, ← HO.out, if_neg hLO]))
        have eM : ((a : Int) + ((O : Int))) = (m : Int) := by omega
        have HMM := Lib.hid hm
        clear hm
        have c1 := HK2.out.at_ (i := m) (by rw [HDK.out]; omega)
        have c2 := HK2.out.at_ (i := p) (by rw [HDK.out]; omega)
        generalize hx : dk[m]! = x at c1
        generalize hy : dk[p]! = y at c2
        have HXX := Lib.hid hx
        have HYY := Lib.hid hy
        have f1 := HK2.out.frozen m
        have f2 := HK2.out.frozen p
        clear hx hy
        by_cases hEq : p = m
        · have hxy : y = x := by rw [← HXX.out, ← HYY.out, hEq]
          subst hxy
          subst hEq
          repeat (first | go_skip | go_guarded | go_step)
          go_region
          obtain ⟨Z, hZ, hxZ, hkZ, htZ⟩ : ∃ Z, Z = ((w2.setCell { block := g, off := p } (Value.int IntKind.u32 y.toNat)).setCell { block := g, off := p } (Value.int IntKind.u32 y.toNat)).drew ∧ BkX Z w.heap.size R' ∧ BkA Z g (Go.Sort.swp dk p p) rest ∧ Turn (fun k => k = g) w Z :=
            ⟨_, rfl, BkX.swpd HX2.out hne _ _, HK2.out.swp (by rw [HDK.out]; omega) (by rw [HDK.out]; omega) HYY.out HXX.out, (usSwpT HT2.out g p p rfl _ _).drew⟩
          rw [← hZ]
          have HXZ := Lib.hid hxZ
          have HKZ := Lib.hid hkZ
          have HTZ := Lib.hid htZ
          clear hZ hxZ hkZ htZ c1 c2 f1 f2
          repeat (first | go_skip | go_guarded | go_step)
          go_roundw
          case rel => exact ⟨t + 1, Go.Sort.xorNext r, Go.Sort.swp dk p p, by have := HP.out; first | (congr 1; omega) | go_num, by omega, by rw [Go.Sort.size_swp]; exact HDK.out, by rw [HP.out, ← HR.out, hST.out] ; try rw [← HP.out], by rw [← HR'.out]; exact HXZ.out, HKZ.out, HTZ.out⟩
          case measure => have := HP.out; simp [intOf]; omega
        · have hEq2 : ¬ m = p := fun h => hEq h.symm
          repeat (first | go_skip | go_guarded | go_step)
          go_region
          obtain ⟨Z, hZ, hxZ, hkZ, htZ⟩ : ∃ Z, Z = ((w2.setCell { block := g, off := p } (Value.int IntKind.u32 x.toNat)).setCell { block := g, off := m } (Value.int IntKind.u32 y.toNat)).drew ∧ BkX Z w.heap.size R' ∧ BkA Z g (Go.Sort.swp dk p m) rest ∧ Turn (fun k => k = g) w Z :=
            ⟨_, rfl, BkX.swpd HX2.out hne _ _, HK2.out.swp (by rw [HDK.out]; omega) (by rw [HDK.out]; omega) HYY.out HXX.out, (usSwpT HT2.out g p m rfl _ _).drew⟩
          rw [← hZ]
          have HXZ := Lib.hid hxZ
          have HKZ := Lib.hid hkZ
          have HTZ := Lib.hid htZ
          clear hZ hxZ hkZ htZ c1 c2 f1 f2
          repeat (first | go_skip | go_guarded | go_step)
          go_roundw
          case rel => exact ⟨t + 1, Go.Sort.xorNext r, Go.Sort.swp dk p m, by have := HP.out; first | (congr 1; omega) | go_num, by omega, by rw [Go.Sort.size_swp]; exact HDK.out, by rw [HP.out, ← HR.out, hST.out], by rw [← HR'.out]; exact HXZ.out, HKZ.out, HTZ.out⟩
          case measure => have := HP.out; simp [intOf]; omega
    · have ht0 : t = 3 := by omega
      subst ht0
      have h3i : decide (((i0 + 3 : Nat) : Int) ≤ ((i0 + 2 : Nat) : Int)) = false := by simp
      have h3d : decide ((i0 : Int) + 3 ≤ (i0 : Int) + 2) = false := by simp
      repeat (first | go_skip | go_guarded | go_step)
      go_end0
      exact ⟨rfl, by rw [← HR.out]; exact HK.out, HT.out⟩
end Go.Proofs.Ytedgigoelhcfnaa
