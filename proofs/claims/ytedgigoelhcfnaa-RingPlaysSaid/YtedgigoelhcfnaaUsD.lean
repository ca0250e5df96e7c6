/- slices.Sort of numbers of 32 bits: the partition of equal ones. (Written by genUsD.py.) -/
import Derived.Test.YtedgigoelhcfnaaUsC
set_option linter.unusedVariables false
set_option linter.unusedSimpArgs false
namespace Go.Proofs.Ytedgigoelhcfnaa
open Go Go.RowKit

theorem up_step {p : UInt32 → Bool} {d : Array UInt32} {j i : Nat} (h : i ≤ j) (hp : p d[i]! = true) : Go.Sort.scanUp p d j (i + 1) = Go.Sort.scanUp p d j i := by
  conv => rhs; rw [Go.Sort.scanUp, if_pos (by simp [h, hp])]
theorem up_end {p : UInt32 → Bool} {d : Array UInt32} {j i : Nat} (h : ¬ i ≤ j ∨ p d[i]! = false) : Go.Sort.scanUp p d j i = i := by
  rw [Go.Sort.scanUp, if_neg]
  rcases h with h | h
  · simp [h]
  · simp [h]
theorem down_step {p : UInt32 → Bool} {d : Array UInt32} {j i : Nat} (hj : 0 < j) (h : i ≤ j) (hp : p d[j]! = true) : Go.Sort.scanDown p d i (j - 1) = Go.Sort.scanDown p d i j := by
  obtain ⟨k, rfl⟩ : ∃ k, j = k + 1 := ⟨j - 1, by omega⟩
  conv => rhs; rw [Go.Sort.scanDown, if_pos (by simp [h, hp])]
  rfl
theorem down_end {p : UInt32 → Bool} {d : Array UInt32} {j i : Nat} (h : ¬ i ≤ j ∨ p d[j]! = false) : Go.Sort.scanDown p d i j = j := by
  cases j with
  | zero => rfl
  | succ k =>
    rw [Go.Sort.scanDown, if_neg]
    rcases h with h | h
    · simp [h]
    · simp [h]
theorem partEq_end {a i j i2 j2 : Nat} {d : Array UInt32} (h1 : Go.Sort.scanUp (fun x => !ltU d[a]! x) d j i = i2) (h2 : Go.Sort.scanDown (fun x => ltU d[a]! x) d i2 j = j2) (h : j2 < i2) : Go.Sort.partEqLoop ltU a i j d = (i2, d) := by
  rw [Go.Sort.partEqLoop_eq, h1, h2, if_pos h]
theorem partEq_step {a i j i2 j2 : Nat} {d : Array UInt32} (h1 : Go.Sort.scanUp (fun x => !ltU d[a]! x) d j i = i2) (h2 : Go.Sort.scanDown (fun x => ltU d[a]! x) d i2 j = j2) (h : ¬ j2 < i2) : Go.Sort.partEqLoop ltU a (i2 + 1) (j2 - 1) (Go.Sort.swp d i2 j2) = Go.Sort.partEqLoop ltU a i j d := by
  conv => rhs; rw [Go.Sort.partEqLoop_eq, h1, h2, if_neg h]
set_option maxRecDepth 100000 in
set_option maxHeartbeats 16000000 in
theorem usPartEq (g c a b pv : Nat) (d : Array UInt32) (rest : List Value) (w : World) (n : Nat) (hn : n = d.size) (hb : BkA w g d rest) (hab : a ≤ pv) (hpb : pv < b) (hbd : b ≤ n) (hsz : n ≤ 1000000000000) :
    Calls Try.prog 35 #[.slice (some ⟨g, 0, none⟩) n c, .int .i64 (a : Int), .int .i64 (b : Int), .int .i64 (pv : Int)] w fun e w' =>
      e = .returned (.int .i64 ((Go.Sort.partitionEqual ltU d a b pv).1 : Int)) ∧ BkA w' g (Go.Sort.partitionEqual ltU d a b pv).2 rest ∧ Turn (fun k => k = g) w w' := by
  have HN := Lib.hid hn
  obtain ⟨d0, hd0⟩ : ∃ d0, d0 = Go.Sort.swp d a pv := ⟨_, rfl⟩
  have hs0 : d0.size = n := by rw [hd0, Go.Sort.size_swp]; exact hn.symm
  have HR := Lib.hid (show Go.Sort.partitionEqual ltU d a b pv = Go.Sort.partEqLoop ltU a (a + 1) (b - 1) d0 by unfold Go.Sort.partitionEqual; rw [hd0])
  have c1 := hb.at_ (i := pv) (by omega)
  have c2 := hb.at_ (i := a) (by omega)
  have f1 := hb.frozen pv
  have f2 := hb.frozen a
  generalize hx : d[pv]! = x at c1
  generalize hy : d[a]! = y at c2
  have HSW := Lib.hid (show BkA ((w.setCell ⟨g, a, none⟩ (nu x)).setCell ⟨g, pv, none⟩ (nu y)) g d0 rest by rw [hd0]; exact hb.swp (i := a) (j := pv) (by omega) (by omega) hy hx)
  have HXY := Lib.hid (show a = pv → y = x from fun h => by rw [← hx, ← hy, h])
  have HS0 := Lib.hid hs0
  have e0 : ((b : Int) - 1) = ((b - 1 : Nat) : Int) := by omega
  clear hb hx hy hd0 hn hs0
  rcases Nat.eq_or_lt_of_le hab with hap | hap
  · have hyx := HXY.out hap
    subst hyx
    have HSW2 := Lib.hid (show BkA ((w.setCell ⟨g, a, none⟩ (nu y)).setCell ⟨g, a, none⟩ (nu y)) g d0 rest by have := HSW.out; rwa [← hap] at this)
    subst hap
    go_enter Try.func35, Try.ntmps35
    go_upto_region 1 with (fail)
    go_region
    obtain ⟨W0, hW0, hkW, htW⟩ : ∃ W0, W0 = ((w.setCell { block := g, off := a } (Value.int IntKind.u32 y.toNat)).setCell { block := g, off := a } (Value.int IntKind.u32 y.toNat)).drew ∧ BkA W0 g d0 rest ∧ Turn (fun k => k = g) w W0 :=
      ⟨_, rfl, HSW2.out, (usSwpT (Turn.refl (fun k => k = g) w) g a a rfl _ _).drew⟩
    rw [← hW0]
    have HKW := Lib.hid hkW
    have HTW := Lib.hid htW
    clear hW0 hkW htW c2 f2 c1 f1
    repeat (first | go_skip | go_guarded | go_step)
    go_loopw [9, 10] (fun p q wr => ∃ (i j : Nat) (dk : Array UInt32), p = .int .i64 (i : Int) ∧ q = .int .i64 (j : Int) ∧ a < i ∧ j < b ∧ i ≤ j + 1 ∧ dk.size = n ∧ Go.Sort.partEqLoop ltU a i j dk = Go.Sort.partEqLoop ltU a (a + 1) (b - 1) d0 ∧ BkA wr g dk rest ∧ Turn (fun k => k = g) w wr) (fun p q _ => (intOf q).toNat + 1 - (intOf p).toNat)
    case atStart => exact ⟨a + 1, b - 1, d0, by go_num, rfl, by omega, by omega, by omega, HS0.out, rfl, HKW.out, HTW.out⟩
    case round =>
      rename World => wr
      obtain ⟨i, j, dk, rfl, rfl, hai, hjb, hij, hdk, hO, hbk, ht⟩ := hrel
      have HO := Lib.hid hO
      have HK := Lib.hid hbk
      have HT := Lib.hid ht
      have HDK := Lib.hid hdk
      obtain ⟨pvt, hpvt⟩ : ∃ pvt, dk[a]! = pvt := ⟨_, rfl⟩
      have HP := Lib.hid hpvt
      clear hO hbk ht hdk hpvt
      repeat (first | go_skip | go_guarded | go_step)
      rename World => V9
      go_loopw [9] (fun q wr => ∃ i2 : Nat, q = .int .i64 (i2 : Int) ∧ i ≤ i2 ∧ i2 ≤ j + 1 ∧ Go.Sort.scanUp (fun x => !ltU dk[a]! x) dk j i2 = Go.Sort.scanUp (fun x => !ltU dk[a]! x) dk j i ∧ BkA wr g dk rest ∧ Turn (fun k => k = g) w wr) (fun q _ => j + 1 - (intOf q).toNat)
      case atStart => exact ⟨i, rfl, Nat.le_refl _, hij, rfl, HK.out, HT.out⟩
      case round =>
        obtain ⟨i2, rfl, hi2, hi2j, hU9, hbk, ht⟩ := hrel
        have HU9 := Lib.hid hU9
        have HK1 := Lib.hid hbk
        have HT1 := Lib.hid ht
        clear hU9 ht
        by_cases h1 : i2 ≤ j
        · have h1i : decide ((i2 : Int) ≤ (j : Int)) = true := by simp; omega
          have c1 := hbk.at_ (i := a) (by rw [HDK.out]; omega)
          have c2 := hbk.at_ (i := i2) (by rw [HDK.out]; omega)
          rw [HP.out] at c1
          generalize hy : dk[i2]! = y1 at c2
          have HY1 := Lib.hid hy
          clear hbk hy
          go_upto_region 3 with (fail)
          go_quiet (refine Calls.quiet_of_same (usLess _ _ _))
          obtain ⟨V, hV, hkV, htV⟩ : ∃ V, V = wr.drewN nq ∧ BkA V g dk rest ∧ Turn (fun k => k = g) w V := ⟨_, rfl, HK1.out, usDrew HT1.out _⟩
          rw [← hV]
          have HKV := Lib.hid hkV
          have HTV := Lib.hid htV
          clear hV hkV htV c1 c2
          cases hl : ltU pvt y1 with
          | false =>
            have HL := Lib.hid hl
            clear hl
            repeat (first | go_skip | go_guarded | go_step)
            go_roundw
            case rel => exact ⟨i2 + 1, by go_num, by omega, by omega, by rw [up_step h1 (by show (!ltU dk[a]! dk[i2]!) = true; rw [HP.out, HY1.out, HL.out]; rfl)]; exact HU9.out, HKV.out, HTV.out⟩
            case measure => simp [intOf]; omega
          | true =>
            have HUP := Lib.hid (show Go.Sort.scanUp (fun x => !ltU dk[a]! x) dk j i = i2 by rw [← HU9.out]; exact up_end (.inr (by show (!ltU dk[a]! dk[i2]!) = false; rw [HP.out, HY1.out, hl]; rfl)))
            have HUPB := Lib.hid (show ltU pvt dk[i2]! = true by rw [HY1.out]; exact hl)
            clear hl
            repeat (first | go_skip | go_guarded | go_step)
            rename World => V0
            go_loopw [10] (fun q wr => ∃ j2 : Nat, q = .int .i64 (j2 : Int) ∧ j2 ≤ j ∧ i2 ≤ j2 + 1 ∧ Go.Sort.scanDown (fun x => ltU dk[a]! x) dk i2 j2 = Go.Sort.scanDown (fun x => ltU dk[a]! x) dk i2 j ∧ BkA wr g dk rest ∧ Turn (fun k => k = g) w wr) (fun q _ => (intOf q).toNat)
            case atStart => exact ⟨j, rfl, Nat.le_refl _, by omega, rfl, HKV.out, HTV.out⟩
            case round =>
              obtain ⟨j2, rfl, hj2, hij2, hD, hbk, ht⟩ := hrel
              have HD := Lib.hid hD
              have HK2 := Lib.hid hbk
              have HT2 := Lib.hid ht
              clear hD ht
              by_cases h2 : i2 ≤ j2
              · have h2i : decide ((i2 : Int) ≤ (j2 : Int)) = true := by simp; omega
                have c1 := hbk.at_ (i := a) (by rw [HDK.out]; omega)
                have c2 := hbk.at_ (i := j2) (by rw [HDK.out]; omega)
                rw [HP.out] at c1
                generalize hy : dk[j2]! = y2 at c2
                have HY2 := Lib.hid hy
                have hjw : ((j2 : Int) - 1) = ((j2 - 1 : Nat) : Int) := by omega
                clear hbk hy
                go_upto_region 5 with (fail)
                go_quiet (refine Calls.quiet_of_same (usLess _ _ _))
                obtain ⟨U, hU, hkU, htU⟩ : ∃ U, U = wr.drewN nq ∧ BkA U g dk rest ∧ Turn (fun k => k = g) w U := ⟨_, rfl, HK2.out, usDrew HT2.out _⟩
                rw [← hU]
                have HKU := Lib.hid hkU
                have HTU := Lib.hid htU
                clear c1 c2
                cases hl : ltU pvt y2 with
                | true =>
                  have HL := Lib.hid hl
                  clear hl hU hkU htU
                  repeat (first | go_skip | go_guarded | go_step)
                  go_roundw
                  case rel => exact ⟨j2 - 1, rfl, by omega, by omega, by rw [down_step (by omega) h2 (by show ltU dk[a]! dk[j2]! = true; rw [HP.out, HY2.out]; exact HL.out)]; exact HD.out, HKU.out, HTU.out⟩
                  case measure => simp [intOf]; omega
                | false =>
                  have HD2 := Lib.hid (show Go.Sort.scanDown (fun x => ltU dk[a]! x) dk i2 j = j2 by rw [← HD.out]; exact down_end (.inr (by show ltU dk[a]! dk[j2]! = false; rw [HP.out, HY2.out]; exact hl)))
                  have hlt : i2 < j2 := by
                    rcases Nat.eq_or_lt_of_le h2 with h9 | h9
                    · subst h9
                      have h8 := HUPB.out
                      rw [HY2.out] at h8
                      rw [h8] at hl
                      cases hl
                    · exact h9
                  have hne : ¬ i2 = j2 := by omega
                  have hgt : ¬ (j2 : Int) < (i2 : Int) := by omega
                  have HST := Lib.hid (partEq_step HUP.out HD2.out (by omega))
                  have c1 := hkU.at_ (i := i2) (by rw [HDK.out]; omega)
                  have c2 := hkU.at_ (i := j2) (by rw [HDK.out]; omega)
                  rw [HY2.out] at c2
                  generalize hz : dk[i2]! = z at c1
                  have HZ9 := Lib.hid hz
                  have f1 := hkU.frozen i2
                  have f2 := hkU.frozen j2
                  clear hl hU hkU htU hz
                  repeat (first | go_skip | go_guarded | go_step)
                  go_region
                  obtain ⟨Z, hZ, hkZ, htZ⟩ : ∃ Z, Z = ((U.setCell { block := g, off := i2 } (Value.int IntKind.u32 y2.toNat)).setCell { block := g, off := j2 } (Value.int IntKind.u32 z.toNat)).drew ∧ BkA Z g (Go.Sort.swp dk i2 j2) rest ∧ Turn (fun k => k = g) w Z :=
                    ⟨_, rfl, HKU.out.swp (by rw [HDK.out]; omega) (by rw [HDK.out]; omega) HZ9.out HY2.out, (usSwpT HTU.out g i2 j2 rfl _ _).drew⟩
                  rw [← hZ]
                  have HKZ := Lib.hid hkZ
                  have HTZ := Lib.hid htZ
                  clear hZ hkZ htZ c1 c2 f1 f2
                  repeat (first | go_skip | go_guarded | go_step)
                  go_roundw
                  case rel => exact ⟨i2 + 1, j2 - 1, _, by go_num, by go_num, by omega, by omega, by omega, by rw [Go.Sort.size_swp]; exact HDK.out, by rw [HST.out]; exact HO.out, HKZ.out, HTZ.out⟩
                  case measure => simp [intOf]; omega
              · have h2i : decide ((i2 : Int) ≤ (j2 : Int)) = false := by simp; omega
                have HD2 := Lib.hid (show Go.Sort.scanDown (fun x => ltU dk[a]! x) dk i2 j = j2 by rw [← HD.out]; exact down_end (.inl h2))
                have hgt : (j2 : Int) < (i2 : Int) := by omega
                have HE := Lib.hid (show Go.Sort.partitionEqual ltU d a b a = (i2, dk) by rw [HR.out, ← HO.out]; exact partEq_end HUP.out HD2.out (by omega))
                clear hbk
                go_upto_region 5 with (fail)
                go_quiet (fail)
                repeat (first | go_skip | go_guarded | go_step)
                go_ret
                exact ⟨by rw [HE.out]; rfl, by rw [HE.out]; exact HK2.out, usDrew HT2.out _⟩
        · have h1i : decide ((i2 : Int) ≤ (j : Int)) = false := by simp; omega
          have HUP := Lib.hid (show Go.Sort.scanUp (fun x => !ltU dk[a]! x) dk j i = i2 by rw [← HU9.out]; exact up_end (.inl h1))
          clear hbk
          go_upto_region 3 with (fail)
          go_quiet (fail)
          obtain ⟨V, hV, hkV, htV⟩ : ∃ V, V = wr.drewN nq ∧ BkA V g dk rest ∧ Turn (fun k => k = g) w V := ⟨_, rfl, HK1.out, usDrew HT1.out _⟩
          rw [← hV]
          have HKV := Lib.hid hkV
          have HTV := Lib.hid htV
          clear hV hkV htV
          repeat (first | go_skip | go_guarded | go_step)
          rename World => V0
          go_loopw [10] (fun q wr => ∃ j2 : Nat, q = .int .i64 (j2 : Int) ∧ j2 ≤ j ∧ i2 ≤ j2 + 1 ∧ Go.Sort.scanDown (fun x => ltU dk[a]! x) dk i2 j2 = Go.Sort.scanDown (fun x => ltU dk[a]! x) dk i2 j ∧ BkA wr g dk rest ∧ Turn (fun k => k = g) w wr) (fun q _ => (intOf q).toNat)
          case atStart => exact ⟨j, rfl, Nat.le_refl _, by omega, rfl, HKV.out, HTV.out⟩
          case round =>
            obtain ⟨j2, rfl, hj2, hij2, hD, hbk, ht⟩ := hrel
            have HD := Lib.hid hD
            have HK2 := Lib.hid hbk
            have HT2 := Lib.hid ht
            clear hD ht
            by_cases h2 : i2 ≤ j2
            · exact absurd h2 (by omega)
            · have h2i : decide ((i2 : Int) ≤ (j2 : Int)) = false := by simp; omega
              have HD2 := Lib.hid (show Go.Sort.scanDown (fun x => ltU dk[a]! x) dk i2 j = j2 by rw [← HD.out]; exact down_end (.inl h2))
              have hgt : (j2 : Int) < (i2 : Int) := by omega
              have HE := Lib.hid (show Go.Sort.partitionEqual ltU d a b a = (i2, dk) by rw [HR.out, ← HO.out]; exact partEq_end HUP.out HD2.out (by omega))
              clear hbk
              go_upto_region 5 with (fail)
              go_quiet (fail)
              repeat (first | go_skip | go_guarded | go_step)
              go_ret
              exact ⟨by rw [HE.out]; rfl, by rw [HE.out]; exact HK2.out, usDrew HT2.out _⟩
  · have hne : ¬ a = pv := by omega
    have HSW2 := HSW
    go_enter Try.func35, Try.ntmps35
    go_upto_region 1 with (fail)
    go_region
    obtain ⟨W0, hW0, hkW, htW⟩ : ∃ W0, W0 = ((w.setCell { block := g, off := a } (Value.int IntKind.u32 x.toNat)).setCell { block := g, off := pv } (Value.int IntKind.u32 y.toNat)).drew ∧ BkA W0 g d0 rest ∧ Turn (fun k => k = g) w W0 :=
      ⟨_, rfl, HSW2.out, (usSwpT (Turn.refl (fun k => k = g) w) g a pv rfl _ _).drew⟩
    rw [← hW0]
    have HKW := Lib.hid hkW
    have HTW := Lib.hid htW
    clear hW0 hkW htW c2 f2 c1 f1
    repeat (first | go_skip | go_guarded | go_step)
    go_loopw [9, 10] (fun p q wr => ∃ (i j : Nat) (dk : Array UInt32), p = .int .i64 (i : Int) ∧ q = .int .i64 (j : Int) ∧ a < i ∧ j < b ∧ i ≤ j + 1 ∧ dk.size = n ∧ Go.Sort.partEqLoop ltU a i j dk = Go.Sort.partEqLoop ltU a (a + 1) (b - 1) d0 ∧ BkA wr g dk rest ∧ Turn (fun k => k = g) w wr) (fun p q _ => (intOf q).toNat + 1 - (intOf p).toNat)
    case atStart => exact ⟨a + 1, b - 1, d0, by go_num, rfl, by omega, by omega, by omega, HS0.out, rfl, HKW.out, HTW.out⟩
    case round =>
      rename World => wr
      obtain ⟨i, j, dk, rfl, rfl, hai, hjb, hij, hdk, hO, hbk, ht⟩ := hrel
      have HO := Lib.hid hO
      have HK := Lib.hid hbk
      have HT := Lib.hid ht
      have HDK := Lib.hid hdk
      obtain ⟨pvt, hpvt⟩ : ∃ pvt, dk[a]! = pvt := ⟨_, rfl⟩
      have HP := Lib.hid hpvt
      clear hO hbk ht hdk hpvt
      repeat (first | go_skip | go_guarded | go_step)
      rename World => V9
      go_loopw [9] (fun q wr => ∃ i2 : Nat, q = .int .i64 (i2 : Int) ∧ i ≤ i2 ∧ i2 ≤ j + 1 ∧ Go.Sort.scanUp (fun x => !ltU dk[a]! x) dk j i2 = Go.Sort.scanUp (fun x => !ltU dk[a]! x) dk j i ∧ BkA wr g dk rest ∧ Turn (fun k => k = g) w wr) (fun q _ => j + 1 - (intOf q).toNat)
      case atStart => exact ⟨i, rfl, Nat.le_refl _, hij, rfl, HK.out, HT.out⟩
      case round =>
        obtain ⟨i2, rfl, hi2, hi2j, hU9, hbk, ht⟩ := hrel
        have HU9 := Lib.hid hU9
        have HK1 := Lib.hid hbk
        have HT1 := Lib.hid ht
        clear hU9 ht
        by_cases h1 : i2 ≤ j
        · have h1i : decide ((i2 : Int) ≤ (j : Int)) = true := by simp; omega
          have c1 := hbk.at_ (i := a) (by rw [HDK.out]; omega)
          have c2 := hbk.at_ (i := i2) (by rw [HDK.out]; omega)
          rw [HP.out] at c1
          generalize hy : dk[i2]! = y1 at c2
          have HY1 := Lib.hid hy
          clear hbk hy
          go_upto_region 3 with (fail)
          go_quiet (refine Calls.quiet_of_same (usLess _ _ _))
          obtain ⟨V, hV, hkV, htV⟩ : ∃ V, V = wr.drewN nq ∧ BkA V g dk rest ∧ Turn (fun k => k = g) w V := ⟨_, rfl, HK1.out, usDrew HT1.out _⟩
          rw [← hV]
          have HKV := Lib.hid hkV
          have HTV := Lib.hid htV
          clear hV hkV htV c1 c2
          cases hl : ltU pvt y1 with
          | false =>
            have HL := Lib.hid hl
            clear hl
            repeat (first | go_skip | go_guarded | go_step)
            go_roundw
            case rel => exact ⟨i2 + 1, by go_num, by omega, by omega, by rw [up_step h1 (by show (!ltU dk[a]! dk[i2]!) = true; rw [HP.out, HY1.out, HL.out]; rfl)]; exact HU9.out, HKV.out, HTV.out⟩
            case measure => simp [intOf]; omega
          | true =>
            have HUP := Lib.hid (show Go.Sort.scanUp (fun x => !ltU dk[a]! x) dk j i = i2 by rw [← HU9.out]; exact up_end (.inr (by show (!ltU dk[a]! dk[i2]!) = false; rw [HP.out, HY1.out, hl]; rfl)))
            have HUPB := Lib.hid (show ltU pvt dk[i2]! = true by rw [HY1.out]; exact hl)
            clear hl
            repeat (first | go_skip | go_guarded | go_step)
            rename World => V0
            go_loopw [10] (fun q wr => ∃ j2 : Nat, q = .int .i64 (j2 : Int) ∧ j2 ≤ j ∧ i2 ≤ j2 + 1 ∧ Go.Sort.scanDown (fun x => ltU dk[a]! x) dk i2 j2 = Go.Sort.scanDown (fun x => ltU dk[a]! x) dk i2 j ∧ BkA wr g dk rest ∧ Turn (fun k => k = g) w wr) (fun q _ => (intOf q).toNat)
            case atStart => exact ⟨j, rfl, Nat.le_refl _, by omega, rfl, HKV.out, HTV.out⟩
            case round =>
              obtain ⟨j2, rfl, hj2, hij2, hD, hbk, ht⟩ := hrel
              have HD := Lib.hid hD
              have HK2 := Lib.hid hbk
              have HT2 := Lib.hid ht
              clear hD ht
              by_cases h2 : i2 ≤ j2
              · have h2i : decide ((i2 : Int) ≤ (j2 : Int)) = true := by simp; omega
                have c1 := hbk.at_ (i := a) (by rw [HDK.out]; omega)
                have c2 := hbk.at_ (i := j2) (by rw [HDK.out]; omega)
                rw [HP.out] at c1
                generalize hy : dk[j2]! = y2 at c2
                have HY2 := Lib.hid hy
                have hjw : ((j2 : Int) - 1) = ((j2 - 1 : Nat) : Int) := by omega
                clear hbk hy
                go_upto_region 5 with (fail)
                go_quiet (refine Calls.quiet_of_same (usLess _ _ _))
                obtain ⟨U, hU, hkU, htU⟩ : ∃ U, U = wr.drewN nq ∧ BkA U g dk rest ∧ Turn (fun k => k = g) w U := ⟨_, rfl, HK2.out, usDrew HT2.out _⟩
                rw [← hU]
                have HKU := Lib.hid hkU
                have HTU := Lib.hid htU
                clear c1 c2
                cases hl : ltU pvt y2 with
                | true =>
                  have HL := Lib.hid hl
                  clear hl hU hkU htU
                  repeat (first | go_skip | go_guarded | go_step)
                  go_roundw
                  case rel => exact ⟨j2 - 1, rfl, by omega, by omega, by rw [down_step (by omega) h2 (by show ltU dk[a]! dk[j2]! = true; rw [HP.out, HY2.out]; exact HL.out)]; exact HD.out, HKU.out, HTU.out⟩
                  case measure => simp [intOf]; omega
                | false =>
                  have HD2 := Lib.hid (show Go.Sort.scanDown (fun x => ltU dk[a]! x) dk i2 j = j2 by rw [← HD.out]; exact down_end (.inr (by show ltU dk[a]! dk[j2]! = false; rw [HP.out, HY2.out]; exact hl)))
                  have hlt : i2 < j2 := by
                    rcases Nat.eq_or_lt_of_le h2 with h9 | h9
                    · subst h9
                      have h8 := HUPB.out
                      rw [HY2.out] at h8
                      rw [h8] at hl
                      cases hl
                    · exact h9
                  have hne : ¬ i2 = j2 := by omega
                  have hgt : ¬ (j2 : Int) < (i2 : Int) := by omega
                  have HST := Lib.hid (partEq_step HUP.out HD2.out (by omega))
                  have c1 := hkU.at_ (i := i2) (by rw [HDK.out]; omega)
                  have c2 := hkU.at_ (i := j2) (by rw [HDK.out]; omega)
                  rw [HY2.out] at c2
                  generalize hz : dk[i2]! = z at c1
                  have HZ9 := Lib.hid hz
                  have f1 := hkU.frozen i2
                  have f2 := hkU.frozen j2
                  clear hl hU hkU htU hz
                  repeat (first | go_skip | go_guarded | go_step)
                  go_region
                  obtain ⟨Z, hZ, hkZ, htZ⟩ : ∃ Z, Z = ((U.setCell { block := g, off := i2 } (Value.int IntKind.u32 y2.toNat)).setCell { block := g, off := j2 } (Value.int IntKind.u32 z.toNat)).drew ∧ BkA Z g (Go.Sort.swp dk i2 j2) rest ∧ Turn (fun k => k = g) w Z :=
                    ⟨_, rfl, HKU.out.swp (by rw [HDK.out]; omega) (by rw [HDK.out]; omega) HZ9.out HY2.out, (usSwpT HTU.out g i2 j2 rfl _ _).drew⟩
                  rw [← hZ]
                  have HKZ := Lib.hid hkZ
                  have HTZ := Lib.hid htZ
                  clear hZ hkZ htZ c1 c2 f1 f2
                  repeat (first | go_skip | go_guarded | go_step)
                  go_roundw
                  case rel => exact ⟨i2 + 1, j2 - 1, _, by go_num, by go_num, by omega, by omega, by omega, by rw [Go.Sort.size_swp]; exact HDK.out, by rw [HST.out]; exact HO.out, HKZ.out, HTZ.out⟩
                  case measure => simp [intOf]; omega
              · have h2i : decide ((i2 : Int) ≤ (j2 : Int)) = false := by simp; omega
                have HD2 := Lib.hid (show Go.Sort.scanDown (fun x => ltU dk[a]! x) dk i2 j = j2 by rw [← HD.out]; exact down_end (.inl h2))
                have hgt : (j2 : Int) < (i2 : Int) := by omega
                have HE := Lib.hid (show Go.Sort.partitionEqual ltU d a b pv = (i2, dk) by rw [HR.out, ← HO.out]; exact partEq_end HUP.out HD2.out (by omega))
                clear hbk
                go_upto_region 5 with (fail)
                go_quiet (fail)
                repeat (first | go_skip | go_guarded | go_step)
                go_ret
                exact ⟨by rw [HE.out]; rfl, by rw [HE.out]; exact HK2.out, usDrew HT2.out _⟩
        · have h1i : decide ((i2 : Int) ≤ (j : Int)) = false := by simp; omega
          have HUP := Lib.hid (show Go.Sort.scanUp (fun x => !ltU dk[a]! x) dk j i = i2 by rw [← HU9.out]; exact up_end (.inl h1))
          clear hbk
          go_upto_region 3 with (fail)
          go_quiet (fail)
          obtain ⟨V, hV, hkV, htV⟩ : ∃ V, V = wr.drewN nq ∧ BkA V g dk rest ∧ Turn (fun k => k = g) w V := ⟨_, rfl, HK1.out, usDrew HT1.out _⟩
          rw [← hV]
          have HKV := Lib.hid hkV
          have HTV := Lib.hid htV
          clear hV hkV htV
          repeat (first | go_skip | go_guarded | go_step)
          rename World => V0
          go_loopw [10] (fun q wr => ∃ j2 : Nat, q = .int .i64 (j2 : Int) ∧ j2 ≤ j ∧ i2 ≤ j2 + 1 ∧ Go.Sort.scanDown (fun x => ltU dk[a]! x) dk i2 j2 = Go.Sort.scanDown (fun x => ltU dk[a]! x) dk i2 j ∧ BkA wr g dk rest ∧ Turn (fun k => k = g) w wr) (fun q _ => (intOf q).toNat)
          case atStart => exact ⟨j, rfl, Nat.le_refl _, by omega, rfl, HKV.out, HTV.out⟩
          case round =>
            obtain ⟨j2, rfl, hj2, hij2, hD, hbk, ht⟩ := hrel
            have HD := Lib.hid hD
            have HK2 := Lib.hid hbk
            have HT2 := Lib.hid ht
            clear hD ht
            by_cases h2 : i2 ≤ j2
            · exact absurd h2 (by omega)
            · have h2i : decide ((i2 : Int) ≤ (j2 : Int)) = false := by simp; omega
              have HD2 := Lib.hid (show Go.Sort.scanDown (fun x => ltU dk[a]! x) dk i2 j = j2 by rw [← HD.out]; exact down_end (.inl h2))
              have hgt : (j2 : Int) < (i2 : Int) := by omega
              have HE := Lib.hid (show Go.Sort.partitionEqual ltU d a b pv = (i2, dk) by rw [HR.out, ← HO.out]; exact partEq_end HUP.out HD2.out (by omega))
              clear hbk
              go_upto_region 5 with (fail)
              go_quiet (fail)
              repeat (first | go_skip | go_guarded | go_step)
              go_ret
              exact ⟨by rw [HE.out]; rfl, by rw [HE.out]; exact HK2.out, usDrew HT2.out _⟩
end Go.Proofs.Ytedgigoelhcfnaa
