/- slices.Sort of numbers of 32 bits: the partition. (Written by genUsE.py.) -/
import Derived.Test.YtedgigoelhcfnaaUsD
set_option linter.unusedVariables false
set_option linter.unusedSimpArgs false
namespace Go.Proofs.Ytedgigoelhcfnaa
open Go Go.RowKit

theorem part_end {a i j i2 j2 : Nat} {d : Array UInt32} (h1 : Go.Sort.scanUp (fun x => ltU x d[a]!) d j i = i2) (h2 : Go.Sort.scanDown (fun x => !ltU x d[a]!) d i2 j = j2) (h : j2 < i2) : Go.Sort.partLoop ltU a i j d = (j2, d) := by
  rw [Go.Sort.partLoop_eq, h1, h2, if_pos h]
theorem part_step {a i j i2 j2 : Nat} {d : Array UInt32} (h1 : Go.Sort.scanUp (fun x => ltU x d[a]!) d j i = i2) (h2 : Go.Sort.scanDown (fun x => !ltU x d[a]!) d i2 j = j2) (h : ¬ j2 < i2) : Go.Sort.partLoop ltU a (i2 + 1) (j2 - 1) (Go.Sort.swp d i2 j2) = Go.Sort.partLoop ltU a i j d := by
  conv => rhs; rw [Go.Sort.partLoop_eq, h1, h2, if_neg h]
theorem part_first_end {a b pv i j i2 j2 : Nat} {d d0 : Array UInt32} (hi : i = a + 1) (hj : j = b - 1) (hd : d0 = Go.Sort.swp d a pv) (h1 : Go.Sort.scanUp (fun x => ltU x d0[a]!) d0 j i = i2) (h2 : Go.Sort.scanDown (fun x => !ltU x d0[a]!) d0 i2 j = j2) (h : j2 < i2) : Go.Sort.partition ltU d a b pv = (j2, true, Go.Sort.swp d0 j2 a) := by
  subst hi; subst hj; subst hd; subst h1; subst h2
  unfold Go.Sort.partition
  simp only []
  rw [if_pos h]
theorem part_first_step {a b pv i j i2 j2 : Nat} {d d0 : Array UInt32} (hi : i = a + 1) (hj : j = b - 1) (hd : d0 = Go.Sort.swp d a pv) (h1 : Go.Sort.scanUp (fun x => ltU x d0[a]!) d0 j i = i2) (h2 : Go.Sort.scanDown (fun x => !ltU x d0[a]!) d0 i2 j = j2) (h : ¬ j2 < i2) : Go.Sort.partition ltU d a b pv = ((Go.Sort.partLoop ltU a (i2 + 1) (j2 - 1) (Go.Sort.swp d0 i2 j2)).1, false, Go.Sort.swp (Go.Sort.partLoop ltU a (i2 + 1) (j2 - 1) (Go.Sort.swp d0 i2 j2)).2 (Go.Sort.partLoop ltU a (i2 + 1) (j2 - 1) (Go.Sort.swp d0 i2 j2)).1 a) := by
  subst hi; subst hj; subst hd; subst h1; subst h2
  unfold Go.Sort.partition
  simp only []
  rw [if_neg h]
set_option maxRecDepth 100000 in
set_option maxHeartbeats 16000000 in
theorem usPart (g c a b pv : Nat) (d : Array UInt32) (rest : List Value) (w : World) (n : Nat) (hn : n = d.size) (hb : BkA w g d rest) (hab : a ≤ pv) (hpb : pv < b) (hbd : b ≤ n) (hsz : n ≤ 1000000000000) :
    Calls Try.prog 36 #[.slice (some ⟨g, 0, none⟩) n c, .int .i64 (a : Int), .int .i64 (b : Int), .int .i64 (pv : Int)] w fun e w' =>
      e = .returned (.tuple #[.int .i64 ((Go.Sort.partition ltU d a b pv).1 : Int), .bool (Go.Sort.partition ltU d a b pv).2.1]) ∧ BkA w' g (Go.Sort.partition ltU d a b pv).2.2 rest ∧ Turn (fun k => k = g) w w' := by
  have HN := Lib.hid hn
  obtain ⟨d0, hd0⟩ : ∃ d0, d0 = Go.Sort.swp d a pv := ⟨_, rfl⟩
  have hs0 : d0.size = n := by rw [hd0, Go.Sort.size_swp]; exact hn.symm
  have HD0 := Lib.hid hd0
  have c1 := hb.at_ (i := pv) (by omega)
  have c2 := hb.at_ (i := a) (by omega)
  have f1 := hb.frozen pv
  have f2 := hb.frozen a
  generalize hx : d[pv]! = x at c1
  generalize hy : d[a]! = y at c2
  have HSW := Lib.hid (show BkA ((w.setCell ⟨g, a, none⟩ (nu x)).setCell ⟨g, pv, none⟩ (nu y)) g d0 rest by rw [hd0]; exact hb.swp (i := a) (j := pv) (by omega) (by omega) hy hx)
  have HXY := Lib.hid (show a = pv → y = x from fun h => by rw [← hx, ← hy, h])
  have HS0 := Lib.hid hs0
  clear hb hx hy hd0 hn hs0
  rcases Nat.eq_or_lt_of_le hab with hap | hap
  · have hyx := HXY.out hap
    subst hyx
    have HSW2 := Lib.hid (show BkA ((w.setCell ⟨g, a, none⟩ (nu y)).setCell ⟨g, a, none⟩ (nu y)) g d0 rest by have := HSW.out; rwa [← hap] at this)
    subst hap
    go_enter Try.func36, Try.ntmps36
    go_upto_region 1 with (fail)
    go_region
    obtain ⟨W0, hW0, hkW, htW⟩ : ∃ W0, W0 = ((w.setCell { block := g, off := a } (Value.int IntKind.u32 y.toNat)).setCell { block := g, off := a } (Value.int IntKind.u32 y.toNat)).drew ∧ BkA W0 g d0 rest ∧ Turn (fun k => k = g) w W0 :=
      ⟨_, rfl, HSW2.out, (usSwpT (Turn.refl (fun k => k = g) w) g a a rfl _ _).drew⟩
    rw [← hW0]
    have HKW := Lib.hid hkW
    have HTW := Lib.hid htW
    clear hW0 hkW htW c1 c2 f1 f2
    repeat (first | go_skip | go_guarded | go_step)
    have e1 : ((a : Int) + 1) = ((a + 1 : Nat) : Int) := by omega
    have e2 : ((b : Int) - 1) = ((b - 1 : Nat) : Int) := by omega
    rw [e1, e2]
    clear e1 e2
    obtain ⟨i0, hi0⟩ : ∃ i0, i0 = a + 1 := ⟨_, rfl⟩
    obtain ⟨j0, hj0⟩ : ∃ j0, j0 = b - 1 := ⟨_, rfl⟩
    rw [← hi0, ← hj0]
    have HI0 := Lib.hid hi0
    have HJ0 := Lib.hid hj0
    have hai0 : a < i0 := by omega
    have hjb0 : j0 < b := by omega
    have hij0 : i0 ≤ j0 + 1 := by omega
    obtain ⟨p0, hp0⟩ : ∃ p0, d0[a]! = p0 := ⟨_, rfl⟩
    have HP0 := Lib.hid hp0
    clear hi0 hj0 hp0
    go_loopw [10] (fun q wr => ∃ u1 : Nat, q = .int .i64 (u1 : Int) ∧ i0 ≤ u1 ∧ u1 ≤ j0 + 1 ∧ Go.Sort.scanUp (fun x => ltU x d0[a]!) d0 j0 u1 = Go.Sort.scanUp (fun x => ltU x d0[a]!) d0 j0 i0 ∧ BkA wr g d0 rest ∧ Turn (fun k => k = g) w wr) (fun q _ => j0 + 1 - (intOf q).toNat)
    case atStart => exact ⟨i0, rfl, Nat.le_refl _, hij0, rfl, HKW.out, HTW.out⟩
    case round =>
      obtain ⟨u1, rfl, hu1, hu1j, hU19, hbk, ht⟩ := hrel
      have HU19 := Lib.hid hU19
      have HK1 := Lib.hid hbk
      have HT1 := Lib.hid ht
      clear hU19 ht
      by_cases h1 : u1 ≤ j0
      · have h1i : decide ((u1 : Int) ≤ (j0 : Int)) = true := by simp; omega
        have c1 := hbk.at_ (i := a) (by rw [HS0.out]; omega)
        have c2 := hbk.at_ (i := u1) (by rw [HS0.out]; omega)
        rw [HP0.out] at c1
        generalize hy : d0[u1]! = y1 at c2
        have HY1 := Lib.hid hy
        clear hbk hy
        go_upto_region 3 with (fail)
        go_quiet (refine Calls.quiet_of_same (usLess _ _ _))
        obtain ⟨V1, hV, hkV, htV⟩ : ∃ V, V = wr.drewN nq ∧ BkA V g d0 rest ∧ Turn (fun k => k = g) w V := ⟨_, rfl, HK1.out, usDrew HT1.out _⟩
        rw [← hV]
        have HKV := Lib.hid hkV
        have HTV := Lib.hid htV
        clear hV hkV htV c1 c2
        cases hl : ltU y1 p0 with
        | true =>
          have HL := Lib.hid hl
          clear hl
          repeat (first | go_skip | go_guarded | go_step)
          go_roundw
          case rel => exact ⟨u1 + 1, by go_num, by omega, by omega, by rw [up_step h1 (by show ltU d0[u1]! d0[a]! = true; rw [HP0.out, HY1.out]; exact HL.out)]; exact HU19.out, HKV.out, HTV.out⟩
          case measure => simp [intOf]; omega
        | false =>
          have HUP1 := Lib.hid (show Go.Sort.scanUp (fun x => ltU x d0[a]!) d0 j0 i0 = u1 by rw [← HU19.out]; exact up_end (.inr (by show ltU d0[u1]! d0[a]! = false; rw [HP0.out, HY1.out]; exact hl)))
          have HUPB1 := Lib.hid (show ltU d0[u1]! p0 = false by rw [HY1.out]; exact hl)
          clear hl
          repeat (first | go_skip | go_guarded | go_step)
          go_loopw [11] (fun q wr => ∃ v1 : Nat, q = .int .i64 (v1 : Int) ∧ v1 ≤ j0 ∧ u1 ≤ v1 + 1 ∧ Go.Sort.scanDown (fun x => !ltU x d0[a]!) d0 u1 v1 = Go.Sort.scanDown (fun x => !ltU x d0[a]!) d0 u1 j0 ∧ BkA wr g d0 rest ∧ Turn (fun k => k = g) w wr) (fun q _ => (intOf q).toNat)
          case atStart => exact ⟨j0, rfl, Nat.le_refl _, by omega, rfl, HKV.out, HTV.out⟩
          case round =>
            obtain ⟨v1, rfl, hv1, huv1, hD1, hbk, ht⟩ := hrel
            have HD1 := Lib.hid hD1
            have HK2 := Lib.hid hbk
            have HT2 := Lib.hid ht
            clear hD1 ht
            by_cases h2 : u1 ≤ v1
            · have h2i : decide ((u1 : Int) ≤ (v1 : Int)) = true := by simp; omega
              have c1 := hbk.at_ (i := a) (by rw [HS0.out]; omega)
              have c2 := hbk.at_ (i := v1) (by rw [HS0.out]; omega)
              rw [HP0.out] at c1
              generalize hy : d0[v1]! = y2 at c2
              have HY2 := Lib.hid hy
              have hjw : ((v1 : Int) - 1) = ((v1 - 1 : Nat) : Int) := by omega
              clear hbk hy
              go_upto_region 5 with (fail)
              go_quiet (refine Calls.quiet_of_same (usLess _ _ _))
              obtain ⟨U1, hU, hkU, htU⟩ : ∃ U, U = wr.drewN nq ∧ BkA U g d0 rest ∧ Turn (fun k => k = g) w U := ⟨_, rfl, HK2.out, usDrew HT2.out _⟩
              rw [← hU]
              have HKU := Lib.hid hkU
              have HTU := Lib.hid htU
              clear c1 c2
              cases hl : ltU y2 p0 with
              | false =>
                have HL := Lib.hid hl
                clear hl hU hkU htU
                repeat (first | go_skip | go_guarded | go_step)
                go_roundw
                case rel => exact ⟨v1 - 1, rfl, by omega, by omega, by rw [down_step (by omega) h2 (by show (!ltU d0[v1]! d0[a]!) = true; rw [HP0.out, HY2.out, HL.out]; rfl)]; exact HD1.out, HKU.out, HTU.out⟩
                case measure => simp [intOf]; omega
              | true =>
                have HD12 := Lib.hid (show Go.Sort.scanDown (fun x => !ltU x d0[a]!) d0 u1 j0 = v1 by rw [← HD1.out]; exact down_end (.inr (by show (!ltU d0[v1]! d0[a]!) = false; rw [HP0.out, HY2.out, hl]; rfl)))
                have hlt1 : u1 < v1 := by
                  rcases Nat.eq_or_lt_of_le h2 with h9 | h9
                  · subst h9
                    have h8 := HUPB1.out
                    rw [HY2.out] at h8
                    rw [h8] at hl
                    cases hl
                  · exact h9
                have hne9 : ¬ u1 = v1 := by omega
                have hgt : ¬ (v1 : Int) < (u1 : Int) := by omega
                have c1 := hkU.at_ (i := u1) (by rw [HS0.out]; omega)
                have c2 := hkU.at_ (i := v1) (by rw [HS0.out]; omega)
                rw [HY2.out] at c2
                generalize hz : d0[u1]! = z at c1
                have HZ9 := Lib.hid hz
                have f1 := hkU.frozen u1
                have f2 := hkU.frozen v1
                clear hl hU hkU htU hz
                repeat (first | go_skip | go_guarded | go_step)
                go_region
                obtain ⟨Z1, hZ, hkZ, htZ⟩ : ∃ Z, Z = ((U1.setCell { block := g, off := u1 } (Value.int IntKind.u32 y2.toNat)).setCell { block := g, off := v1 } (Value.int IntKind.u32 z.toNat)).drew ∧ BkA Z g (Go.Sort.swp d0 u1 v1) rest ∧ Turn (fun k => k = g) w Z :=
                  ⟨_, rfl, HKU.out.swp (by rw [HS0.out]; omega) (by rw [HS0.out]; omega) HZ9.out HY2.out, (usSwpT HTU.out g u1 v1 rfl _ _).drew⟩
                rw [← hZ]
                have HKZ := Lib.hid hkZ
                have HTZ := Lib.hid htZ
                clear hZ hkZ htZ c1 c2 f1 f2
                repeat (first | go_skip | go_guarded | go_step)
                have hvm : ((v1 : Int) - 1) = ((v1 - 1 : Nat) : Int) := by omega
                have hum : ((u1 : Int) + 1) = ((u1 + 1 : Nat) : Int) := by omega
                obtain ⟨r, hr⟩ : ∃ r, r = Go.Sort.partLoop ltU a (u1 + 1) (v1 - 1) (Go.Sort.swp d0 u1 v1) := ⟨_, rfl⟩
                have HR := Lib.hid (show Go.Sort.partition ltU d a b a = (r.1, false, Go.Sort.swp r.2 r.1 a) by rw [hr]; exact part_first_step HI0.out HJ0.out HD0.out HUP1.out HD12.out (by omega))
                have HRR := Lib.hid hr
                clear hr
                try rw [hvm]
                try rw [hum]
                go_loopw [10, 11] (fun p q wr => ∃ (i j : Nat) (dk : Array UInt32), p = .int .i64 (i : Int) ∧ q = .int .i64 (j : Int) ∧ a < i ∧ j < b ∧ i ≤ j + 1 ∧ dk.size = n ∧ Go.Sort.partLoop ltU a i j dk = r ∧ BkA wr g dk rest ∧ Turn (fun k => k = g) w wr) (fun p q _ => (intOf q).toNat + 1 - (intOf p).toNat)
                case atStart => exact ⟨u1 + 1, v1 - 1, _, by go_num, by go_num, by omega, by omega, by omega, by rw [Go.Sort.size_swp]; exact HS0.out, HRR.out.symm, HKZ.out, HTZ.out⟩
                case round =>
                  rename World => wr
                  obtain ⟨i, j, dk, rfl, rfl, hai, hjb, hij, hdk, hO, hbk, ht⟩ := hrel
                  have HO := Lib.hid hO
                  have HK := Lib.hid hbk
                  have HT := Lib.hid ht
                  have HDK := Lib.hid hdk
                  obtain ⟨pvt, hpvt⟩ : ∃ pvt, dk[a]! = pvt := ⟨_, rfl⟩
                  have HP := Lib.hid hpvt
                  clear hO hbk ht hdk hpvt
                  repeat (first | go_skip | go_guarded | go_step)
                  clear HKZ HTZ HKU HTU HKV HTV HK1 HT1 HK2 HT2 HY2 HZ9 HY1 h1 h1i h2 h2i hgt
                  go_loopw [10] (fun q wr => ∃ u2 : Nat, q = .int .i64 (u2 : Int) ∧ i ≤ u2 ∧ u2 ≤ j + 1 ∧ Go.Sort.scanUp (fun x => ltU x dk[a]!) dk j u2 = Go.Sort.scanUp (fun x => ltU x dk[a]!) dk j i ∧ BkA wr g dk rest ∧ Turn (fun k => k = g) w wr) (fun q _ => j + 1 - (intOf q).toNat)
                  case atStart => exact ⟨i, rfl, Nat.le_refl _, hij, rfl, HK.out, HT.out⟩
                  case round =>
                    obtain ⟨u2, rfl, hu2, hu2j, hU29, hbk, ht⟩ := hrel
                    have HU29 := Lib.hid hU29
                    have HK1 := Lib.hid hbk
                    have HT1 := Lib.hid ht
                    clear hU29 ht
                    by_cases h1 : u2 ≤ j
                    · have h1i : decide ((u2 : Int) ≤ (j : Int)) = true := by simp; omega
                      have c1 := hbk.at_ (i := a) (by rw [HDK.out]; omega)
                      have c2 := hbk.at_ (i := u2) (by rw [HDK.out]; omega)
                      rw [HP.out] at c1
                      generalize hy : dk[u2]! = y1 at c2
                      have HY1 := Lib.hid hy
                      clear hbk hy
                      go_upto_region 13 with (fail)
                      go_quiet (refine Calls.quiet_of_same (usLess _ _ _))
                      obtain ⟨V2, hV, hkV, htV⟩ : ∃ V, V = wr.drewN nq ∧ BkA V g dk rest ∧ Turn (fun k => k = g) w V := ⟨_, rfl, HK1.out, usDrew HT1.out _⟩
                      rw [← hV]
                      have HKV := Lib.hid hkV
                      have HTV := Lib.hid htV
                      clear hV hkV htV c1 c2
                      cases hl : ltU y1 pvt with
                      | true =>
                        have HL := Lib.hid hl
                        clear hl
                        repeat (first | go_skip | go_guarded | go_step)
                        go_roundw
                        case rel => exact ⟨u2 + 1, by go_num, by omega, by omega, by rw [up_step h1 (by show ltU dk[u2]! dk[a]! = true; rw [HP.out, HY1.out]; exact HL.out)]; exact HU29.out, HKV.out, HTV.out⟩
                        case measure => simp [intOf]; omega
                      | false =>
                        have HUP2 := Lib.hid (show Go.Sort.scanUp (fun x => ltU x dk[a]!) dk j i = u2 by rw [← HU29.out]; exact up_end (.inr (by show ltU dk[u2]! dk[a]! = false; rw [HP.out, HY1.out]; exact hl)))
                        have HUPB2 := Lib.hid (show ltU dk[u2]! pvt = false by rw [HY1.out]; exact hl)
                        clear hl
                        repeat (first | go_skip | go_guarded | go_step)
                        go_loopw [11] (fun q wr => ∃ v2 : Nat, q = .int .i64 (v2 : Int) ∧ v2 ≤ j ∧ u2 ≤ v2 + 1 ∧ Go.Sort.scanDown (fun x => !ltU x dk[a]!) dk u2 v2 = Go.Sort.scanDown (fun x => !ltU x dk[a]!) dk u2 j ∧ BkA wr g dk rest ∧ Turn (fun k => k = g) w wr) (fun q _ => (intOf q).toNat)
                        case atStart => exact ⟨j, rfl, Nat.le_refl _, by omega, rfl, HKV.out, HTV.out⟩
                        case round =>
                          obtain ⟨v2, rfl, hv2, huv2, hD2, hbk, ht⟩ := hrel
                          have HD2 := Lib.hid hD2
                          have HK2 := Lib.hid hbk
                          have HT2 := Lib.hid ht
                          clear hD2 ht
                          by_cases h2 : u2 ≤ v2
                          · have h2i : decide ((u2 : Int) ≤ (v2 : Int)) = true := by simp; omega
                            have c1 := hbk.at_ (i := a) (by rw [HDK.out]; omega)
                            have c2 := hbk.at_ (i := v2) (by rw [HDK.out]; omega)
                            rw [HP.out] at c1
                            generalize hy : dk[v2]! = y2 at c2
                            have HY2 := Lib.hid hy
                            have hjw : ((v2 : Int) - 1) = ((v2 - 1 : Nat) : Int) := by omega
                            clear hbk hy
                            go_upto_region 15 with (fail)
                            go_quiet (refine Calls.quiet_of_same (usLess _ _ _))
                            obtain ⟨U2, hU, hkU, htU⟩ : ∃ U, U = wr.drewN nq ∧ BkA U g dk rest ∧ Turn (fun k => k = g) w U := ⟨_, rfl, HK2.out, usDrew HT2.out _⟩
                            rw [← hU]
                            have HKU := Lib.hid hkU
                            have HTU := Lib.hid htU
                            clear c1 c2
                            cases hl : ltU y2 pvt with
                            | false =>
                              have HL := Lib.hid hl
                              clear hl hU hkU htU
                              repeat (first | go_skip | go_guarded | go_step)
                              go_roundw
                              case rel => exact ⟨v2 - 1, rfl, by omega, by omega, by rw [down_step (by omega) h2 (by show (!ltU dk[v2]! dk[a]!) = true; rw [HP.out, HY2.out, HL.out]; rfl)]; exact HD2.out, HKU.out, HTU.out⟩
                              case measure => simp [intOf]; omega
                            | true =>
                              have HD22 := Lib.hid (show Go.Sort.scanDown (fun x => !ltU x dk[a]!) dk u2 j = v2 by rw [← HD2.out]; exact down_end (.inr (by show (!ltU dk[v2]! dk[a]!) = false; rw [HP.out, HY2.out, hl]; rfl)))
                              have hlt2 : u2 < v2 := by
                                rcases Nat.eq_or_lt_of_le h2 with h9 | h9
                                · subst h9
                                  have h8 := HUPB2.out
                                  rw [HY2.out] at h8
                                  rw [h8] at hl
                                  cases hl
                                · exact h9
                              have hne9 : ¬ u2 = v2 := by omega
                              have hgt : ¬ (v2 : Int) < (u2 : Int) := by omega
                              have c1 := hkU.at_ (i := u2) (by rw [HDK.out]; omega)
                              have c2 := hkU.at_ (i := v2) (by rw [HDK.out]; omega)
                              rw [HY2.out] at c2
                              generalize hz : dk[u2]! = z at c1
                              have HZ9 := Lib.hid hz
                              have f1 := hkU.frozen u2
                              have f2 := hkU.frozen v2
                              clear hl hU hkU htU hz
                              repeat (first | go_skip | go_guarded | go_step)
                              go_region
                              obtain ⟨Z2, hZ, hkZ, htZ⟩ : ∃ Z, Z = ((U2.setCell { block := g, off := u2 } (Value.int IntKind.u32 y2.toNat)).setCell { block := g, off := v2 } (Value.int IntKind.u32 z.toNat)).drew ∧ BkA Z g (Go.Sort.swp dk u2 v2) rest ∧ Turn (fun k => k = g) w Z :=
                                ⟨_, rfl, HKU.out.swp (by rw [HDK.out]; omega) (by rw [HDK.out]; omega) HZ9.out HY2.out, (usSwpT HTU.out g u2 v2 rfl _ _).drew⟩
                              rw [← hZ]
                              have HKZ := Lib.hid hkZ
                              have HTZ := Lib.hid htZ
                              clear hZ hkZ htZ c1 c2 f1 f2
                              repeat (first | go_skip | go_guarded | go_step)
                              have HST := Lib.hid (part_step HUP2.out HD22.out (by omega))
                              go_roundw
                              case rel => exact ⟨u2 + 1, v2 - 1, _, by go_num, by go_num, by omega, by omega, by omega, by rw [Go.Sort.size_swp]; exact HDK.out, by rw [HST.out]; exact HO.out, HKZ.out, HTZ.out⟩
                              case measure => simp [intOf]; omega
                          · have h2i : decide ((u2 : Int) ≤ (v2 : Int)) = false := by simp; omega
                            have HD22 := Lib.hid (show Go.Sort.scanDown (fun x => !ltU x dk[a]!) dk u2 j = v2 by rw [← HD2.out]; exact down_end (.inl h2))
                            have hgt : (v2 : Int) < (u2 : Int) := by omega
                            have hja : a ≤ v2 := by omega
                            have HE := Lib.hid (show Go.Sort.partition ltU d a b a = (v2, false, Go.Sort.swp dk v2 a) by rw [HR.out, ← HO.out, part_end HUP2.out HD22.out (by omega)])
                            clear hbk
                            go_upto_region 15 with (fail)
                            go_quiet (fail)
                            obtain ⟨U2, hU, hkU, htU⟩ : ∃ U, U = wr.drewN nq ∧ BkA U g dk rest ∧ Turn (fun k => k = g) w U := ⟨_, rfl, HK2.out, usDrew HT2.out _⟩
                            rw [← hU]
                            have HKU := Lib.hid hkU
                            have HTU := Lib.hid htU
                            have c1 := hkU.at_ (i := a) (by rw [HDK.out]; omega)
                            have c2 := hkU.at_ (i := v2) (by rw [HDK.out]; omega)
                            rw [HP.out] at c1
                            generalize hz : dk[v2]! = z at c2
                            have HZ9 := Lib.hid hz
                            have f1 := hkU.frozen a
                            have f2 := hkU.frozen v2
                            clear hU hkU htU hz
                            repeat (first | go_skip | go_guarded | go_step)
                            rcases Nat.eq_or_lt_of_le hja with hja | hja
                            · have hz2 : z = pvt := by rw [← HZ9.out, ← HP.out, hja]
                              subst hz2
                              subst hja
                              go_region
                              obtain ⟨Z9, hZ, hkZ, htZ⟩ : ∃ Z, Z = ((U2.setCell { block := g, off := a } (Value.int IntKind.u32 z.toNat)).setCell { block := g, off := a } (Value.int IntKind.u32 z.toNat)).drew ∧ BkA Z g (Go.Sort.swp dk a a) rest ∧ Turn (fun k => k = g) w Z :=
                                ⟨_, rfl, HKU.out.swp (by rw [HDK.out]; omega) (by rw [HDK.out]; omega) HZ9.out HP.out, (usSwpT HTU.out g a a rfl _ _).drew⟩
                              rw [← hZ]
                              have HKZ := Lib.hid hkZ
                              have HTZ := Lib.hid htZ
                              clear hZ hkZ htZ c1 c2 f1 f2
                              repeat (first | go_skip | go_guarded | go_step)
                              go_ret2
                              exact ⟨by rw [HE.out]; rfl, by rw [HE.out]; exact HKZ.out, HTZ.out⟩
                            · have hne9 : ¬ v2 = a := by omega
                              go_region
                              obtain ⟨Z9, hZ, hkZ, htZ⟩ : ∃ Z, Z = ((U2.setCell { block := g, off := v2 } (Value.int IntKind.u32 pvt.toNat)).setCell { block := g, off := a } (Value.int IntKind.u32 z.toNat)).drew ∧ BkA Z g (Go.Sort.swp dk v2 a) rest ∧ Turn (fun k => k = g) w Z :=
                                ⟨_, rfl, HKU.out.swp (by rw [HDK.out]; omega) (by rw [HDK.out]; omega) HZ9.out HP.out, (usSwpT HTU.out g v2 a rfl _ _).drew⟩
                              rw [← hZ]
                              have HKZ := Lib.hid hkZ
                              have HTZ := Lib.hid htZ
                              clear hZ hkZ htZ c1 c2 f1 f2
                              repeat (first | go_skip | go_guarded | go_step)
                              go_ret2
                              exact ⟨by rw [HE.out]; rfl, by rw [HE.out]; exact HKZ.out, HTZ.out⟩
                    · have h1i : decide ((u2 : Int) ≤ (j : Int)) = false := by simp; omega
                      have HUP2 := Lib.hid (show Go.Sort.scanUp (fun x => ltU x dk[a]!) dk j i = u2 by rw [← HU29.out]; exact up_end (.inl h1))
                      clear hbk
                      go_upto_region 13 with (fail)
                      go_quiet (fail)
                      obtain ⟨V2, hV, hkV, htV⟩ : ∃ V, V = wr.drewN nq ∧ BkA V g dk rest ∧ Turn (fun k => k = g) w V := ⟨_, rfl, HK1.out, usDrew HT1.out _⟩
                      rw [← hV]
                      have HKV := Lib.hid hkV
                      have HTV := Lib.hid htV
                      clear hV hkV htV
                      repeat (first | go_skip | go_guarded | go_step)
                      go_loopw [11] (fun q wr => ∃ v2 : Nat, q = .int .i64 (v2 : Int) ∧ v2 ≤ j ∧ u2 ≤ v2 + 1 ∧ Go.Sort.scanDown (fun x => !ltU x dk[a]!) dk u2 v2 = Go.Sort.scanDown (fun x => !ltU x dk[a]!) dk u2 j ∧ BkA wr g dk rest ∧ Turn (fun k => k = g) w wr) (fun q _ => (intOf q).toNat)
                      case atStart => exact ⟨j, rfl, Nat.le_refl _, by omega, rfl, HKV.out, HTV.out⟩
                      case round =>
                        obtain ⟨v2, rfl, hv2, huv2, hD2, hbk, ht⟩ := hrel
                        have HD2 := Lib.hid hD2
                        have HK2 := Lib.hid hbk
                        have HT2 := Lib.hid ht
                        clear hD2 ht
                        by_cases h2 : u2 ≤ v2
                        · exact absurd h2 (by omega)
                        · have h2i : decide ((u2 : Int) ≤ (v2 : Int)) = false := by simp; omega
                          have HD22 := Lib.hid (show Go.Sort.scanDown (fun x => !ltU x dk[a]!) dk u2 j = v2 by rw [← HD2.out]; exact down_end (.inl h2))
                          have hgt : (v2 : Int) < (u2 : Int) := by omega
                          have hja : a ≤ v2 := by omega
                          have HE := Lib.hid (show Go.Sort.partition ltU d a b a = (v2, false, Go.Sort.swp dk v2 a) by rw [HR.out, ← HO.out, part_end HUP2.out HD22.out (by omega)])
                          clear hbk
                          go_upto_region 15 with (fail)
                          go_quiet (fail)
                          obtain ⟨U2, hU, hkU, htU⟩ : ∃ U, U = wr.drewN nq ∧ BkA U g dk rest ∧ Turn (fun k => k = g) w U := ⟨_, rfl, HK2.out, usDrew HT2.out _⟩
                          rw [← hU]
                          have HKU := Lib.hid hkU
                          have HTU := Lib.hid htU
                          have c1 := hkU.at_ (i := a) (by rw [HDK.out]; omega)
                          have c2 := hkU.at_ (i := v2) (by rw [HDK.out]; omega)
                          rw [HP.out] at c1
                          generalize hz : dk[v2]! = z at c2
                          have HZ9 := Lib.hid hz
                          have f1 := hkU.frozen a
                          have f2 := hkU.frozen v2
                          clear hU hkU htU hz
                          repeat (first | go_skip | go_guarded | go_step)
                          rcases Nat.eq_or_lt_of_le hja with hja | hja
                          · have hz2 : z = pvt := by rw [← HZ9.out, ← HP.out, hja]
                            subst hz2
                            subst hja
                            go_region
                            obtain ⟨Z9, hZ, hkZ, htZ⟩ : ∃ Z, Z = ((U2.setCell { block := g, off := a } (Value.int IntKind.u32 z.toNat)).setCell { block := g, off := a } (Value.int IntKind.u32 z.toNat)).drew ∧ BkA Z g (Go.Sort.swp dk a a) rest ∧ Turn (fun k => k = g) w Z :=
                              ⟨_, rfl, HKU.out.swp (by rw [HDK.out]; omega) (by rw [HDK.out]; omega) HZ9.out HP.out, (usSwpT HTU.out g a a rfl _ _).drew⟩
                            rw [← hZ]
                            have HKZ := Lib.hid hkZ
                            have HTZ := Lib.hid htZ
                            clear hZ hkZ htZ c1 c2 f1 f2
                            repeat (first | go_skip | go_guarded | go_step)
                            go_ret2
                            exact ⟨by rw [HE.out]; rfl, by rw [HE.out]; exact HKZ.out, HTZ.out⟩
                          · have hne9 : ¬ v2 = a := by omega
                            go_region
                            obtain ⟨Z9, hZ, hkZ, htZ⟩ : ∃ Z, Z = ((U2.setCell { block := g, off := v2 } (Value.int IntKind.u32 pvt.toNat)).setCell { block := g, off := a } (Value.int IntKind.u32 z.toNat)).drew ∧ BkA Z g (Go.Sort.swp dk v2 a) rest ∧ Turn (fun k => k = g) w Z :=
                              ⟨_, rfl, HKU.out.swp (by rw [HDK.out]; omega) (by rw [HDK.out]; omega) HZ9.out HP.out, (usSwpT HTU.out g v2 a rfl _ _).drew⟩
                            rw [← hZ]
                            have HKZ := Lib.hid hkZ
                            have HTZ := Lib.hid htZ
                            clear hZ hkZ htZ c1 c2 f1 f2
                            repeat (first | go_skip | go_guarded | go_step)
                            go_ret2
                            exact ⟨by rw [HE.out]; rfl, by rw [HE.out]; exact HKZ.out, HTZ.out⟩
            · have h2i : decide ((u1 : Int) ≤ (v1 : Int)) = false := by simp; omega
              have HD12 := Lib.hid (show Go.Sort.scanDown (fun x => !ltU x d0[a]!) d0 u1 j0 = v1 by rw [← HD1.out]; exact down_end (.inl h2))
              have hgt : (v1 : Int) < (u1 : Int) := by omega
              have hja : a ≤ v1 := by omega
              have HE := Lib.hid (part_first_end HI0.out HJ0.out HD0.out HUP1.out HD12.out (by omega))
              clear hbk
              go_upto_region 5 with (fail)
              go_quiet (fail)
              obtain ⟨U1, hU, hkU, htU⟩ : ∃ U, U = wr.drewN nq ∧ BkA U g d0 rest ∧ Turn (fun k => k = g) w U := ⟨_, rfl, HK2.out, usDrew HT2.out _⟩
              rw [← hU]
              have HKU := Lib.hid hkU
              have HTU := Lib.hid htU
              have c1 := hkU.at_ (i := a) (by rw [HS0.out]; omega)
              have c2 := hkU.at_ (i := v1) (by rw [HS0.out]; omega)
              rw [HP0.out] at c1
              generalize hz : d0[v1]! = z at c2
              have HZ9 := Lib.hid hz
              have f1 := hkU.frozen a
              have f2 := hkU.frozen v1
              clear hU hkU htU hz
              repeat (first | go_skip | go_guarded | go_step)
              rcases Nat.eq_or_lt_of_le hja with hja | hja
              · have hz2 : z = p0 := by rw [← HZ9.out, ← HP0.out, hja]
                subst hz2
                subst hja
                go_region
                obtain ⟨Z9, hZ, hkZ, htZ⟩ : ∃ Z, Z = ((U1.setCell { block := g, off := a } (Value.int IntKind.u32 z.toNat)).setCell { block := g, off := a } (Value.int IntKind.u32 z.toNat)).drew ∧ BkA Z g (Go.Sort.swp d0 a a) rest ∧ Turn (fun k => k = g) w Z :=
                  ⟨_, rfl, HKU.out.swp (by rw [HS0.out]; omega) (by rw [HS0.out]; omega) HZ9.out HP0.out, (usSwpT HTU.out g a a rfl _ _).drew⟩
                rw [← hZ]
                have HKZ := Lib.hid hkZ
                have HTZ := Lib.hid htZ
                clear hZ hkZ htZ c1 c2 f1 f2
                repeat (first | go_skip | go_guarded | go_step)
                go_ret2
                exact ⟨by rw [HE.out]; rfl, by rw [HE.out]; exact HKZ.out, HTZ.out⟩
              · have hne9 : ¬ v1 = a := by omega
                go_region
                obtain ⟨Z9, hZ, hkZ, htZ⟩ : ∃ Z, Z = ((U1.setCell { block := g, off := v1 } (Value.int IntKind.u32 p0.toNat)).setCell { block := g, off := a } (Value.int IntKind.u32 z.toNat)).drew ∧ BkA Z g (Go.Sort.swp d0 v1 a) rest ∧ Turn (fun k => k = g) w Z :=
                  ⟨_, rfl, HKU.out.swp (by rw [HS0.out]; omega) (by rw [HS0.out]; omega) HZ9.out HP0.out, (usSwpT HTU.out g v1 a rfl _ _).drew⟩
                rw [← hZ]
                have HKZ := Lib.hid hkZ
                have HTZ := Lib.hid htZ
                clear hZ hkZ htZ c1 c2 f1 f2
                repeat (first | go_skip | go_guarded | go_step)
                go_ret2
                exact ⟨by rw [HE.out]; rfl, by rw [HE.out]; exact HKZ.out, HTZ.out⟩
      · have h1i : decide ((u1 : Int) ≤ (j0 : Int)) = false := by simp; omega
        have HUP1 := Lib.hid (show Go.Sort.scanUp (fun x => ltU x d0[a]!) d0 j0 i0 = u1 by rw [← HU19.out]; exact up_end (.inl h1))
        clear hbk
        go_upto_region 3 with (fail)
        go_quiet (fail)
        obtain ⟨V1, hV, hkV, htV⟩ : ∃ V, V = wr.drewN nq ∧ BkA V g d0 rest ∧ Turn (fun k => k = g) w V := ⟨_, rfl, HK1.out, usDrew HT1.out _⟩
        rw [← hV]
        have HKV := Lib.hid hkV
        have HTV := Lib.hid htV
        clear hV hkV htV
        repeat (first | go_skip | go_guarded | go_step)
        go_loopw [11] (fun q wr => ∃ v1 : Nat, q = .int .i64 (v1 : Int) ∧ v1 ≤ j0 ∧ u1 ≤ v1 + 1 ∧ Go.Sort.scanDown (fun x => !ltU x d0[a]!) d0 u1 v1 = Go.Sort.scanDown (fun x => !ltU x d0[a]!) d0 u1 j0 ∧ BkA wr g d0 rest ∧ Turn (fun k => k = g) w wr) (fun q _ => (intOf q).toNat)
        case atStart => exact ⟨j0, rfl, Nat.le_refl _, by omega, rfl, HKV.out, HTV.out⟩
        case round =>
          obtain ⟨v1, rfl, hv1, huv1, hD1, hbk, ht⟩ := hrel
          have HD1 := Lib.hid hD1
          have HK2 := Lib.hid hbk
          have HT2 := Lib.hid ht
          clear hD1 ht
          by_cases h2 : u1 ≤ v1
          · exact absurd h2 (by omega)
          · have h2i : decide ((u1 : Int) ≤ (v1 : Int)) = false := by simp; omega
            have HD12 := Lib.hid (show Go.Sort.scanDown (fun x => !ltU x d0[a]!) d0 u1 j0 = v1 by rw [← HD1.out]; exact down_end (.inl h2))
            have hgt : (v1 : Int) < (u1 : Int) := by omega
            have hja : a ≤ v1 := by omega
            have HE := Lib.hid (part_first_end HI0.out HJ0.out HD0.out HUP1.out HD12.out (by omega))
            clear hbk
            go_upto_region 5 with (fail)
            go_quiet (fail)
            obtain ⟨U1, hU, hkU, htU⟩ : ∃ U, U = wr.drewN nq ∧ BkA U g d0 rest ∧ Turn (fun k => k = g) w U := ⟨_, rfl, HK2.out, usDrew HT2.out _⟩
            rw [← hU]
            have HKU := Lib.hid hkU
            have HTU := Lib.hid htU
            have c1 := hkU.at_ (i := a) (by rw [HS0.out]; omega)
            have c2 := hkU.at_ (i := v1) (by rw [HS0.out]; omega)
            rw [HP0.out] at c1
            generalize hz : d0[v1]! = z at c2
            have HZ9 := Lib.hid hz
            have f1 := hkU.frozen a
            have f2 := hkU.frozen v1
            clear hU hkU htU hz
            repeat (first | go_skip | go_guarded | go_step)
            rcases Nat.eq_or_lt_of_le hja with hja | hja
            · have hz2 : z = p0 := by rw [← HZ9.out, ← HP0.out, hja]
              subst hz2
              subst hja
              go_region
              obtain ⟨Z9, hZ, hkZ, htZ⟩ : ∃ Z, Z = ((U1.setCell { block := g, off := a } (Value.int IntKind.u32 z.toNat)).setCell { block := g, off := a } (Value.int IntKind.u32 z.toNat)).drew ∧ BkA Z g (Go.Sort.swp d0 a a) rest ∧ Turn (fun k => k = g) w Z :=
                ⟨_, rfl, HKU.out.swp (by rw [HS0.out]; omega) (by rw [HS0.out]; omega) HZ9.out HP0.out, (usSwpT HTU.out g a a rfl _ _).drew⟩
              rw [← hZ]
              have HKZ := Lib.hid hkZ
              have HTZ := Lib.hid htZ
              clear hZ hkZ htZ c1 c2 f1 f2
              repeat (first | go_skip | go_guarded | go_step)
              go_ret2
              exact ⟨by rw [HE.out]; rfl, by rw [HE.out]; exact HKZ.out, HTZ.out⟩
            · have hne9 : ¬ v1 = a := by omega
              go_region
              obtain ⟨Z9, hZ, hkZ, htZ⟩ : ∃ Z, Z = ((U1.setCell { block := g, off := v1 } (Value.int IntKind.u32 p0.toNat)).setCell { block := g, off := a } (Value.int IntKind.u32 z.toNat)).drew ∧ BkA Z g (Go.Sort.swp d0 v1 a) rest ∧ Turn (fun k => k = g) w Z :=
                ⟨_, rfl, HKU.out.swp (by rw [HS0.out]; omega) (by rw [HS0.out]; omega) HZ9.out HP0.out, (usSwpT HTU.out g v1 a rfl _ _).drew⟩
              rw [← hZ]
              have HKZ := Lib.hid hkZ
              have HTZ := Lib.hid htZ
              clear hZ hkZ htZ c1 c2 f1 f2
              repeat (first | go_skip | go_guarded | go_step)
              go_ret2
              exact ⟨by rw [HE.out]; rfl, by rw [HE.out]; exact HKZ.out, HTZ.out⟩
  · have hne : ¬ a = pv := by omega
    have HSW2 := HSW
    go_enter Try.func36, Try.ntmps36
    go_upto_region 1 with (fail)
    go_region
    obtain ⟨W0, hW0, hkW, htW⟩ : ∃ W0, W0 = ((w.setCell { block := g, off := a } (Value.int IntKind.u32 x.toNat)).setCell { block := g, off := pv } (Value.int IntKind.u32 y.toNat)).drew ∧ BkA W0 g d0 rest ∧ Turn (fun k => k = g) w W0 :=
      ⟨_, rfl, HSW2.out, (usSwpT (Turn.refl (fun k => k = g) w) g a pv rfl _ _).drew⟩
    rw [← hW0]
    have HKW := Lib.hid hkW
    have HTW := Lib.hid htW
    clear hW0 hkW htW c1 c2 f1 f2
    repeat (first | go_skip | go_guarded | go_step)
    have e1 : ((a : Int) + 1) = ((a + 1 : Nat) : Int) := by omega
    have e2 : ((b : Int) - 1) = ((b - 1 : Nat) : Int) := by omega
    rw [e1, e2]
    clear e1 e2
    obtain ⟨i0, hi0⟩ : ∃ i0, i0 = a + 1 := ⟨_, rfl⟩
    obtain ⟨j0, hj0⟩ : ∃ j0, j0 = b - 1 := ⟨_, rfl⟩
    rw [← hi0, ← hj0]
    have HI0 := Lib.hid hi0
    have HJ0 := Lib.hid hj0
    have hai0 : a < i0 := by omega
    have hjb0 : j0 < b := by omega
    have hij0 : i0 ≤ j0 + 1 := by omega
    obtain ⟨p0, hp0⟩ : ∃ p0, d0[a]! = p0 := ⟨_, rfl⟩
    have HP0 := Lib.hid hp0
    clear hi0 hj0 hp0
    go_loopw [10] (fun q wr => ∃ u1 : Nat, q = .int .i64 (u1 : Int) ∧ i0 ≤ u1 ∧ u1 ≤ j0 + 1 ∧ Go.Sort.scanUp (fun x => ltU x d0[a]!) d0 j0 u1 = Go.Sort.scanUp (fun x => ltU x d0[a]!) d0 j0 i0 ∧ BkA wr g d0 rest ∧ Turn (fun k => k = g) w wr) (fun q _ => j0 + 1 - (intOf q).toNat)
    case atStart => exact ⟨i0, rfl, Nat.le_refl _, hij0, rfl, HKW.out, HTW.out⟩
    case round =>
      obtain ⟨u1, rfl, hu1, hu1j, hU19, hbk, ht⟩ := hrel
      have HU19 := Lib.hid hU19
      have HK1 := Lib.hid hbk
      have HT1 := Lib.hid ht
      clear hU19 ht
      by_cases h1 : u1 ≤ j0
      · have h1i : decide ((u1 : Int) ≤ (j0 : Int)) = true := by simp; omega
        have c1 := hbk.at_ (i := a) (by rw [HS0.out]; omega)
        have c2 := hbk.at_ (i := u1) (by rw [HS0.out]; omega)
        rw [HP0.out] at c1
        generalize hy : d0[u1]! = y1 at c2
        have HY1 := Lib.hid hy
        clear hbk hy
        go_upto_region 3 with (fail)
        go_quiet (refine Calls.quiet_of_same (usLess _ _ _))
        obtain ⟨V1, hV, hkV, htV⟩ : ∃ V, V = wr.drewN nq ∧ BkA V g d0 rest ∧ Turn (fun k => k = g) w V := ⟨_, rfl, HK1.out, usDrew HT1.out _⟩
        rw [← hV]
        have HKV := Lib.hid hkV
        have HTV := Lib.hid htV
        clear hV hkV htV c1 c2
        cases hl : ltU y1 p0 with
        | true =>
          have HL := Lib.hid hl
          clear hl
          repeat (first | go_skip | go_guarded | go_step)
          go_roundw
          case rel => exact ⟨u1 + 1, by go_num, by omega, by omega, by rw [up_step h1 (by show ltU d0[u1]! d0[a]! = true; rw [HP0.out, HY1.out]; exact HL.out)]; exact HU19.out, HKV.out, HTV.out⟩
          case measure => simp [intOf]; omega
        | false =>
          have HUP1 := Lib.hid (show Go.Sort.scanUp (fun x => ltU x d0[a]!) d0 j0 i0 = u1 by rw [← HU19.out]; exact up_end (.inr (by show ltU d0[u1]! d0[a]! = false; rw [HP0.out, HY1.out]; exact hl)))
          have HUPB1 := Lib.hid (show ltU d0[u1]! p0 = false by rw [HY1.out]; exact hl)
          clear hl
          repeat (first | go_skip | go_guarded | go_step)
          go_loopw [11] (fun q wr => ∃ v1 : Nat, q = .int .i64 (v1 : Int) ∧ v1 ≤ j0 ∧ u1 ≤ v1 + 1 ∧ Go.Sort.scanDown (fun x => !ltU x d0[a]!) d0 u1 v1 = Go.Sort.scanDown (fun x => !ltU x d0[a]!) d0 u1 j0 ∧ BkA wr g d0 rest ∧ Turn (fun k => k = g) w wr) (fun q _ => (intOf q).toNat)
          case atStart => exact ⟨j0, rfl, Nat.le_refl _, by omega, rfl, HKV.out, HTV.out⟩
          case round =>
            obtain ⟨v1, rfl, hv1, huv1, hD1, hbk, ht⟩ := hrel
            have HD1 := Lib.hid hD1
            have HK2 := Lib.hid hbk
            have HT2 := Lib.hid ht
            clear hD1 ht
            by_cases h2 : u1 ≤ v1
            · have h2i : decide ((u1 : Int) ≤ (v1 : Int)) = true := by simp; omega
              have c1 := hbk.at_ (i := a) (by rw [HS0.out]; omega)
              have c2 := hbk.at_ (i := v1) (by rw [HS0.out]; omega)
              rw [HP0.out] at c1
              generalize hy : d0[v1]! = y2 at c2
              have HY2 := Lib.hid hy
              have hjw : ((v1 : Int) - 1) = ((v1 - 1 : Nat) : Int) := by omega
              clear hbk hy
              go_upto_region 5 with (fail)
              go_quiet (refine Calls.quiet_of_same (usLess _ _ _))
              obtain ⟨U1, hU, hkU, htU⟩ : ∃ U, U = wr.drewN nq ∧ BkA U g d0 rest ∧ Turn (fun k => k = g) w U := ⟨_, rfl, HK2.out, usDrew HT2.out _⟩
              rw [← hU]
              have HKU := Lib.hid hkU
              have HTU := Lib.hid htU
              clear c1 c2
              cases hl : ltU y2 p0 with
              | false =>
                have HL := Lib.hid hl
                clear hl hU hkU htU
                repeat (first | go_skip | go_guarded | go_step)
                go_roundw
                case rel => exact ⟨v1 - 1, rfl, by omega, by omega, by rw [down_step (by omega) h2 (by show (!ltU d0[v1]! d0[a]!) = true; rw [HP0.out, HY2.out, HL.out]; rfl)]; exact HD1.out, HKU.out, HTU.out⟩
                case measure => simp [intOf]; omega
              | true =>
                have HD12 := Lib.hid (show Go.Sort.scanDown (fun x => !ltU x d0[a]!) d0 u1 j0 = v1 by rw [← HD1.out]; exact down_end (.inr (by show (!ltU d0[v1]! d0[a]!) = false; rw [HP0.out, HY2.out, hl]; rfl)))
                have hlt1 : u1 < v1 := by
                  rcases Nat.eq_or_lt_of_le h2 with h9 | h9
                  · subst h9
                    have h8 := HUPB1.out
                    rw [HY2.out] at h8
                    rw [h8] at hl
                    cases hl
                  · exact h9
                have hne9 : ¬ u1 = v1 := by omega
                have hgt : ¬ (v1 : Int) < (u1 : Int) := by omega
                have c1 := hkU.at_ (i := u1) (by rw [HS0.out]; omega)
                have c2 := hkU.at_ (i := v1) (by rw [HS0.out]; omega)
                rw [HY2.out] at c2
                generalize hz : d0[u1]! = z at c1
                have HZ9 := Lib.hid hz
                have f1 := hkU.frozen u1
                have f2 := hkU.frozen v1
                clear hl hU hkU htU hz
                repeat (first | go_skip | go_guarded | go_step)
                go_region
                obtain ⟨Z1, hZ, hkZ, htZ⟩ : ∃ Z, Z = ((U1.setCell { block := g, off := u1 } (Value.int IntKind.u32 y2.toNat)).setCell { block := g, off := v1 } (Value.int IntKind.u32 z.toNat)).drew ∧ BkA Z g (Go.Sort.swp d0 u1 v1) rest ∧ Turn (fun k => k = g) w Z :=
                  ⟨_, rfl, HKU.out.swp (by rw [HS0.out]; omega) (by rw [HS0.out]; omega) HZ9.out HY2.out, (usSwpT HTU.out g u1 v1 rfl _ _).drew⟩
                rw [← hZ]
                have HKZ := Lib.hid hkZ
                have HTZ := Lib.hid htZ
                clear hZ hkZ htZ c1 c2 f1 f2
                repeat (first | go_skip | go_guarded | go_step)
                have hvm : ((v1 : Int) - 1) = ((v1 - 1 : Nat) : Int) := by omega
                have hum : ((u1 : Int) + 1) = ((u1 + 1 : Nat) : Int) := by omega
                obtain ⟨r, hr⟩ : ∃ r, r = Go.Sort.partLoop ltU a (u1 + 1) (v1 - 1) (Go.Sort.swp d0 u1 v1) := ⟨_, rfl⟩
                have HR := Lib.hid (show Go.Sort.partition ltU d a b pv = (r.1, false, Go.Sort.swp r.2 r.1 a) by rw [hr]; exact part_first_step HI0.out HJ0.out HD0.out HUP1.out HD12.out (by omega))
                have HRR := Lib.hid hr
                clear hr
                try rw [hvm]
                try rw [hum]
                go_loopw [10, 11] (fun p q wr => ∃ (i j : Nat) (dk : Array UInt32), p = .int .i64 (i : Int) ∧ q = .int .i64 (j : Int) ∧ a < i ∧ j < b ∧ i ≤ j + 1 ∧ dk.size = n ∧ Go.Sort.partLoop ltU a i j dk = r ∧ BkA wr g dk rest ∧ Turn (fun k => k = g) w wr) (fun p q _ => (intOf q).toNat + 1 - (intOf p).toNat)
                case atStart => exact ⟨u1 + 1, v1 - 1, _, by go_num, by go_num, by omega, by omega, by omega, by rw [Go.Sort.size_swp]; exact HS0.out, HRR.out.symm, HKZ.out, HTZ.out⟩
                case round =>
                  rename World => wr
                  obtain ⟨i, j, dk, rfl, rfl, hai, hjb, hij, hdk, hO, hbk, ht⟩ := hrel
                  have HO := Lib.hid hO
                  have HK := Lib.hid hbk
                  have HT := Lib.hid ht
                  have HDK := Lib.hid hdk
                  obtain ⟨pvt, hpvt⟩ : ∃ pvt, dk[a]! = pvt := ⟨_, rfl⟩
                  have HP := Lib.hid hpvt
                  clear hO hbk ht hdk hpvt
                  repeat (first | go_skip | go_guarded | go_step)
                  clear HKZ HTZ HKU HTU HKV HTV HK1 HT1 HK2 HT2 HY2 HZ9 HY1 h1 h1i h2 h2i hgt
                  go_loopw [10] (fun q wr => ∃ u2 : Nat, q = .int .i64 (u2 : Int) ∧ i ≤ u2 ∧ u2 ≤ j + 1 ∧ Go.Sort.scanUp (fun x => ltU x dk[a]!) dk j u2 = Go.Sort.scanUp (fun x => ltU x dk[a]!) dk j i ∧ BkA wr g dk rest ∧ Turn (fun k => k = g) w wr) (fun q _ => j + 1 - (intOf q).toNat)
                  case atStart => exact ⟨i, rfl, Nat.le_refl _, hij, rfl, HK.out, HT.out⟩
                  case round =>
                    obtain ⟨u2, rfl, hu2, hu2j, hU29, hbk, ht⟩ := hrel
                    have HU29 := Lib.hid hU29
                    have HK1 := Lib.hid hbk
                    have HT1 := Lib.hid ht
                    clear hU29 ht
                    by_cases h1 : u2 ≤ j
                    · have h1i : decide ((u2 : Int) ≤ (j : Int)) = true := by simp; omega
                      have c1 := hbk.at_ (i := a) (by rw [HDK.out]; omega)
                      have c2 := hbk.at_ (i := u2) (by rw [HDK.out]; omega)
                      rw [HP.out] at c1
                      generalize hy : dk[u2]! = y1 at c2
                      have HY1 := Lib.hid hy
                      clear hbk hy
                      go_upto_region 13 with (fail)
                      go_quiet (refine Calls.quiet_of_same (usLess _ _ _))
                      obtain ⟨V2, hV, hkV, htV⟩ : ∃ V, V = wr.drewN nq ∧ BkA V g dk rest ∧ Turn (fun k => k = g) w V := ⟨_, rfl, HK1.out, usDrew HT1.out _⟩
                      rw [← hV]
                      have HKV := Lib.hid hkV
                      have HTV := Lib.hid htV
                      clear hV hkV htV c1 c2
                      cases hl : ltU y1 pvt with
                      | true =>
                        have HL := Lib.hid hl
                        clear hl
                        repeat (first | go_skip | go_guarded | go_step)
                        go_roundw
                        case rel => exact ⟨u2 + 1, by go_num, by omega, by omega, by rw [up_step h1 (by show ltU dk[u2]! dk[a]! = true; rw [HP.out, HY1.out]; exact HL.out)]; exact HU29.out, HKV.out, HTV.out⟩
                        case measure => simp [intOf]; omega
                      | false =>
                        have HUP2 := Lib.hid (show Go.Sort.scanUp (fun x => ltU x dk[a]!) dk j i = u2 by rw [← HU29.out]; exact up_end (.inr (by show ltU dk[u2]! dk[a]! = false; rw [HP.out, HY1.out]; exact hl)))
                        have HUPB2 := Lib.hid (show ltU dk[u2]! pvt = false by rw [HY1.out]; exact hl)
                        clear hl
                        repeat (first | go_skip | go_guarded | go_step)
                        go_loopw [11] (fun q wr => ∃ v2 : Nat, q = .int .i64 (v2 : Int) ∧ v2 ≤ j ∧ u2 ≤ v2 + 1 ∧ Go.Sort.scanDown (fun x => !ltU x dk[a]!) dk u2 v2 = Go.Sort.scanDown (fun x => !ltU x dk[a]!) dk u2 j ∧ BkA wr g dk rest ∧ Turn (fun k => k = g) w wr) (fun q _ => (intOf q).toNat)
                        case atStart => exact ⟨j, rfl, Nat.le_refl _, by omega, rfl, HKV.out, HTV.out⟩
                        case round =>
                          obtain ⟨v2, rfl, hv2, huv2, hD2, hbk, ht⟩ := hrel
                          have HD2 := Lib.hid hD2
                          have HK2 := Lib.hid hbk
                          have HT2 := Lib.hid ht
                          clear hD2 ht
                          by_cases h2 : u2 ≤ v2
                          · have h2i : decide ((u2 : Int) ≤ (v2 : Int)) = true := by simp; omega
                            have c1 := hbk.at_ (i := a) (by rw [HDK.out]; omega)
                            have c2 := hbk.at_ (i := v2) (by rw [HDK.out]; omega)
                            rw [HP.out] at c1
                            generalize hy : dk[v2]! = y2 at c2
                            have HY2 := Lib.hid hy
                            have hjw : ((v2 : Int) - 1) = ((v2 - 1 : Nat) : Int) := by omega
                            clear hbk hy
                            go_upto_region 15 with (fail)
                            go_quiet (refine Calls.quiet_of_same (usLess _ _ _))
                            obtain ⟨U2, hU, hkU, htU⟩ : ∃ U, U = wr.drewN nq ∧ BkA U g dk rest ∧ Turn (fun k => k = g) w U := ⟨_, rfl, HK2.out, usDrew HT2.out _⟩
                            rw [← hU]
                            have HKU := Lib.hid hkU
                            have HTU := Lib.hid htU
                            clear c1 c2
                            cases hl : ltU y2 pvt with
                            | false =>
                              have HL := Lib.hid hl
                              clear hl hU hkU htU
                              repeat (first | go_skip | go_guarded | go_step)
                              go_roundw
                              case rel => exact ⟨v2 - 1, rfl, by omega, by omega, by rw [down_step (by omega) h2 (by show (!ltU dk[v2]! dk[a]!) = true; rw [HP.out, HY2.out, HL.out]; rfl)]; exact HD2.out, HKU.out, HTU.out⟩
                              case measure => simp [intOf]; omega
                            | true =>
                              have HD22 := Lib.hid (show Go.Sort.scanDown (fun x => !ltU x dk[a]!) dk u2 j = v2 by rw [← HD2.out]; exact down_end (.inr (by show (!ltU dk[v2]! dk[a]!) = false; rw [HP.out, HY2.out, hl]; rfl)))
                              have hlt2 : u2 < v2 := by
                                rcases Nat.eq_or_lt_of_le h2 with h9 | h9
                                · subst h9
                                  have h8 := HUPB2.out
                                  rw [HY2.out] at h8
                                  rw [h8] at hl
                                  cases hl
                                · exact h9
                              have hne9 : ¬ u2 = v2 := by omega
                              have hgt : ¬ (v2 : Int) < (u2 : Int) := by omega
                              have c1 := hkU.at_ (i := u2) (by rw [HDK.out]; omega)
                              have c2 := hkU.at_ (i := v2) (by rw [HDK.out]; omega)
                              rw [HY2.out] at c2
                              generalize hz : dk[u2]! = z at c1
                              have HZ9 := Lib.hid hz
                              have f1 := hkU.frozen u2
                              have f2 := hkU.frozen v2
                              clear hl hU hkU htU hz
                              repeat (first | go_skip | go_guarded | go_step)
                              go_region
                              obtain ⟨Z2, hZ, hkZ, htZ⟩ : ∃ Z, Z = ((U2.setCell { block := g, off := u2 } (Value.int IntKind.u32 y2.toNat)).setCell { block := g, off := v2 } (Value.int IntKind.u32 z.toNat)).drew ∧ BkA Z g (Go.Sort.swp dk u2 v2) rest ∧ Turn (fun k => k = g) w Z :=
                                ⟨_, rfl, HKU.out.swp (by rw [HDK.out]; omega) (by rw [HDK.out]; omega) HZ9.out HY2.out, (usSwpT HTU.out g u2 v2 rfl _ _).drew⟩
                              rw [← hZ]
                              have HKZ := Lib.hid hkZ
                              have HTZ := Lib.hid htZ
                              clear hZ hkZ htZ c1 c2 f1 f2
                              repeat (first | go_skip | go_guarded | go_step)
                              have HST := Lib.hid (part_step HUP2.out HD22.out (by omega))
                              go_roundw
                              case rel => exact ⟨u2 + 1, v2 - 1, _, by go_num, by go_num, by omega, by omega, by omega, by rw [Go.Sort.size_swp]; exact HDK.out, by rw [HST.out]; exact HO.out, HKZ.out, HTZ.out⟩
                              case measure => simp [intOf]; omega
                          · have h2i : decide ((u2 : Int) ≤ (v2 : Int)) = false := by simp; omega
                            have HD22 := Lib.hid (show Go.Sort.scanDown (fun x => !ltU x dk[a]!) dk u2 j = v2 by rw [← HD2.out]; exact down_end (.inl h2))
                            have hgt : (v2 : Int) < (u2 : Int) := by omega
                            have hja : a ≤ v2 := by omega
                            have HE := Lib.hid (show Go.Sort.partition ltU d a b pv = (v2, false, Go.Sort.swp dk v2 a) by rw [HR.out, ← HO.out, part_end HUP2.out HD22.out (by omega)])
                            clear hbk
                            go_upto_region 15 with (fail)
                            go_quiet (fail)
                            obtain ⟨U2, hU, hkU, htU⟩ : ∃ U, U = wr.drewN nq ∧ BkA U g dk rest ∧ Turn (fun k => k = g) w U := ⟨_, rfl, HK2.out, usDrew HT2.out _⟩
                            rw [← hU]
                            have HKU := Lib.hid hkU
                            have HTU := Lib.hid htU
                            have c1 := hkU.at_ (i := a) (by rw [HDK.out]; omega)
                            have c2 := hkU.at_ (i := v2) (by rw [HDK.out]; omega)
                            rw [HP.out] at c1
                            generalize hz : dk[v2]! = z at c2
                            have HZ9 := Lib.hid hz
                            have f1 := hkU.frozen a
                            have f2 := hkU.frozen v2
                            clear hU hkU htU hz
                            repeat (first | go_skip | go_guarded | go_step)
                            rcases Nat.eq_or_lt_of_le hja with hja | hja
                            · have hz2 : z = pvt := by rw [← HZ9.out, ← HP.out, hja]
                              subst hz2
                              subst hja
                              go_region
                              obtain ⟨Z9, hZ, hkZ, htZ⟩ : ∃ Z, Z = ((U2.setCell { block := g, off := a } (Value.int IntKind.u32 z.toNat)).setCell { block := g, off := a } (Value.int IntKind.u32 z.toNat)).drew ∧ BkA Z g (Go.Sort.swp dk a a) rest ∧ Turn (fun k => k = g) w Z :=
                                ⟨_, rfl, HKU.out.swp (by rw [HDK.out]; omega) (by rw [HDK.out]; omega) HZ9.out HP.out, (usSwpT HTU.out g a a rfl _ _).drew⟩
                              rw [← hZ]
                              have HKZ := Lib.hid hkZ
                              have HTZ := Lib.hid htZ
                              clear hZ hkZ htZ c1 c2 f1 f2
                              repeat (first | go_skip | go_guarded | go_step)
                              go_ret2
                              exact ⟨by rw [HE.out]; rfl, by rw [HE.out]; exact HKZ.out, HTZ.out⟩
                            · have hne9 : ¬ v2 = a := by omega
                              go_region
                              obtain ⟨Z9, hZ, hkZ, htZ⟩ : ∃ Z, Z = ((U2.setCell { block := g, off := v2 } (Value.int IntKind.u32 pvt.toNat)).setCell { block := g, off := a } (Value.int IntKind.u32 z.toNat)).drew ∧ BkA Z g (Go.Sort.swp dk v2 a) rest ∧ Turn (fun k => k = g) w Z :=
                                ⟨_, rfl, HKU.out.swp (by rw [HDK.out]; omega) (by rw [HDK.out]; omega) HZ9.out HP.out, (usSwpT HTU.out g v2 a rfl _ _).drew⟩
                              rw [← hZ]
                              have HKZ := Lib.hid hkZ
                              have HTZ := Lib.hid htZ
                              clear hZ hkZ htZ c1 c2 f1 f2
                              repeat (first | go_skip | go_guarded | go_step)
                              go_ret2
                              exact ⟨by rw [HE.out]; rfl, by rw [HE.out]; exact HKZ.out, HTZ.out⟩
                    · have h1i : decide ((u2 : Int) ≤ (j : Int)) = false := by simp; omega
                      have HUP2 := Lib.hid (show Go.Sort.scanUp (fun x => ltU x dk[a]!) dk j i = u2 by rw [← HU29.out]; exact up_end (.inl h1))
                      clear hbk
                      go_upto_region 13 with (fail)
                      go_quiet (fail)
                      obtain ⟨V2, hV, hkV, htV⟩ : ∃ V, V = wr.drewN nq ∧ BkA V g dk rest ∧ Turn (fun k => k = g) w V := ⟨_, rfl, HK1.out, usDrew HT1.out _⟩
                      rw [← hV]
                      have HKV := Lib.hid hkV
                      have HTV := Lib.hid htV
                      clear hV hkV htV
                      repeat (first | go_skip | go_guarded | go_step)
                      go_loopw [11] (fun q wr => ∃ v2 : Nat, q = .int .i64 (v2 : Int) ∧ v2 ≤ j ∧ u2 ≤ v2 + 1 ∧ Go.Sort.scanDown (fun x => !ltU x dk[a]!) dk u2 v2 = Go.Sort.scanDown (fun x => !ltU x dk[a]!) dk u2 j ∧ BkA wr g dk rest ∧ Turn (fun k => k = g) w wr) (fun q _ => (intOf q).toNat)
                      case atStart => exact ⟨j, rfl, Nat.le_refl _, by omega, rfl, HKV.out, HTV.out⟩
                      case round =>
                        obtain ⟨v2, rfl, hv2, huv2, hD2, hbk, ht⟩ := hrel
                        have HD2 := Lib.hid hD2
                        have HK2 := Lib.hid hbk
                        have HT2 := Lib.hid ht
                        clear hD2 ht
                        by_cases h2 : u2 ≤ v2
                        · exact absurd h2 (by omega)
                        · have h2i : decide ((u2 : Int) ≤ (v2 : Int)) = false := by simp; omega
                          have HD22 := Lib.hid (show Go.Sort.scanDown (fun x => !ltU x dk[a]!) dk u2 j = v2 by rw [← HD2.out]; exact down_end (.inl h2))
                          have hgt : (v2 : Int) < (u2 : Int) := by omega
                          have hja : a ≤ v2 := by omega
                          have HE := Lib.hid (show Go.Sort.partition ltU d a b pv = (v2, false, Go.Sort.swp dk v2 a) by rw [HR.out, ← HO.out, part_end HUP2.out HD22.out (by omega)])
                          clear hbk
                          go_upto_region 15 with (fail)
                          go_quiet (fail)
                          obtain ⟨U2, hU, hkU, htU⟩ : ∃ U, U = wr.drewN nq ∧ BkA U g dk rest ∧ Turn (fun k => k = g) w U := ⟨_, rfl, HK2.out, usDrew HT2.out _⟩
                          rw [← hU]
                          have HKU := Lib.hid hkU
                          have HTU := Lib.hid htU
                          have c1 := hkU.at_ (i := a) (by rw [HDK.out]; omega)
                          have c2 := hkU.at_ (i := v2) (by rw [HDK.out]; omega)
                          rw [HP.out] at c1
                          generalize hz : dk[v2]! = z at c2
                          have HZ9 := Lib.hid hz
                          have f1 := hkU.frozen a
                          have f2 := hkU.frozen v2
                          clear hU hkU htU hz
                          repeat (first | go_skip | go_guarded | go_step)
                          rcases Nat.eq_or_lt_of_le hja with hja | hja
                          · have hz2 : z = pvt := by rw [← HZ9.out, ← HP.out, hja]
                            subst hz2
                            subst hja
                            go_region
                            obtain ⟨Z9, hZ, hkZ, htZ⟩ : ∃ Z, Z = ((U2.setCell { block := g, off := a } (Value.int IntKind.u32 z.toNat)).setCell { block := g, off := a } (Value.int IntKind.u32 z.toNat)).drew ∧ BkA Z g (Go.Sort.swp dk a a) rest ∧ Turn (fun k => k = g) w Z :=
                              ⟨_, rfl, HKU.out.swp (by rw [HDK.out]; omega) (by rw [HDK.out]; omega) HZ9.out HP.out, (usSwpT HTU.out g a a rfl _ _).drew⟩
                            rw [← hZ]
                            have HKZ := Lib.hid hkZ
                            have HTZ := Lib.hid htZ
                            clear hZ hkZ htZ c1 c2 f1 f2
                            repeat (first | go_skip | go_guarded | go_step)
                            go_ret2
                            exact ⟨by rw [HE.out]; rfl, by rw [HE.out]; exact HKZ.out, HTZ.out⟩
                          · have hne9 : ¬ v2 = a := by omega
                            go_region
                            obtain ⟨Z9, hZ, hkZ, htZ⟩ : ∃ Z, Z = ((U2.setCell { block := g, off := v2 } (Value.int IntKind.u32 pvt.toNat)).setCell { block := g, off := a } (Value.int IntKind.u32 z.toNat)).drew ∧ BkA Z g (Go.Sort.swp dk v2 a) rest ∧ Turn (fun k => k = g) w Z :=
                              ⟨_, rfl, HKU.out.swp (by rw [HDK.out]; omega) (by rw [HDK.out]; omega) HZ9.out HP.out, (usSwpT HTU.out g v2 a rfl _ _).drew⟩
                            rw [← hZ]
                            have HKZ := Lib.hid hkZ
                            have HTZ := Lib.hid htZ
                            clear hZ hkZ htZ c1 c2 f1 f2
                            repeat (first | go_skip | go_guarded | go_step)
                            go_ret2
                            exact ⟨by rw [HE.out]; rfl, by rw [HE.out]; exact HKZ.out, HTZ.out⟩
            · have h2i : decide ((u1 : Int) ≤ (v1 : Int)) = false := by simp; omega
              have HD12 := Lib.hid (show Go.Sort.scanDown (fun x => !ltU x d0[a]!) d0 u1 j0 = v1 by rw [← HD1.out]; exact down_end (.inl h2))
              have hgt : (v1 : Int) < (u1 : Int) := by omega
              have hja : a ≤ v1 := by omega
              have HE := Lib.hid (part_first_end HI0.out HJ0.out HD0.out HUP1.out HD12.out (by omega))
              clear hbk
              go_upto_region 5 with (fail)
              go_quiet (fail)
              obtain ⟨U1, hU, hkU, htU⟩ : ∃ U, U = wr.drewN nq ∧ BkA U g d0 rest ∧ Turn (fun k => k = g) w U := ⟨_, rfl, HK2.out, usDrew HT2.out _⟩
              rw [← hU]
              have HKU := Lib.hid hkU
              have HTU := Lib.hid htU
              have c1 := hkU.at_ (i := a) (by rw [HS0.out]; omega)
              have c2 := hkU.at_ (i := v1) (by rw [HS0.out]; omega)
              rw [HP0.out] at c1
              generalize hz : d0[v1]! = z at c2
              have HZ9 := Lib.hid hz
              have f1 := hkU.frozen a
              have f2 := hkU.frozen v1
              clear hU hkU htU hz
              repeat (first | go_skip | go_guarded | go_step)
              rcases Nat.eq_or_lt_of_le hja with hja | hja
              · have hz2 : z = p0 := by rw [← HZ9.out, ← HP0.out, hja]
                subst hz2
                subst hja
                go_region
                obtain ⟨Z9, hZ, hkZ, htZ⟩ : ∃ Z, Z = ((U1.setCell { block := g, off := a } (Value.int IntKind.u32 z.toNat)).setCell { block := g, off := a } (Value.int IntKind.u32 z.toNat)).drew ∧ BkA Z g (Go.Sort.swp d0 a a) rest ∧ Turn (fun k => k = g) w Z :=
                  ⟨_, rfl, HKU.out.swp (by rw [HS0.out]; omega) (by rw [HS0.out]; omega) HZ9.out HP0.out, (usSwpT HTU.out g a a rfl _ _).drew⟩
                rw [← hZ]
                have HKZ := Lib.hid hkZ
                have HTZ := Lib.hid htZ
                clear hZ hkZ htZ c1 c2 f1 f2
                repeat (first | go_skip | go_guarded | go_step)
                go_ret2
                exact ⟨by rw [HE.out]; rfl, by rw [HE.out]; exact HKZ.out, HTZ.out⟩
              · have hne9 : ¬ v1 = a := by omega
                go_region
                obtain ⟨Z9, hZ, hkZ, htZ⟩ : ∃ Z, Z = ((U1.setCell { block := g, off := v1 } (Value.int IntKind.u32 p0.toNat)).setCell { block := g, off := a } (Value.int IntKind.u32 z.toNat)).drew ∧ BkA Z g (Go.Sort.swp d0 v1 a) rest ∧ Turn (fun k => k = g) w Z :=
                  ⟨_, rfl, HKU.out.swp (by rw [HS0.out]; omega) (by rw [HS0.out]; omega) HZ9.out HP0.out, (usSwpT HTU.out g v1 a rfl _ _).drew⟩
                rw [← hZ]
                have HKZ := Lib.hid hkZ
                have HTZ := Lib.hid htZ
                clear hZ hkZ htZ c1 c2 f1 f2
                repeat (first | go_skip | go_guarded | go_step)
                go_ret2
                exact ⟨by rw [HE.out]; rfl, by rw [HE.out]; exact HKZ.out, HTZ.out⟩
      · have h1i : decide ((u1 : Int) ≤ (j0 : Int)) = false := by simp; omega
        have HUP1 := Lib.hid (show Go.Sort.scanUp (fun x => ltU x d0[a]!) d0 j0 i0 = u1 by rw [← HU19.out]; exact up_end (.inl h1))
        clear hbk
        go_upto_region 3 with (fail)
        go_quiet (fail)
        obtain ⟨V1, hV, hkV, htV⟩ : ∃ V, V = wr.drewN nq ∧ BkA V g d0 rest ∧ Turn (fun k => k = g) w V := ⟨_, rfl, HK1.out, usDrew HT1.out _⟩
        rw [← hV]
        have HKV := Lib.hid hkV
        have HTV := Lib.hid htV
        clear hV hkV htV
        repeat (first | go_skip | go_guarded | go_step)
        go_loopw [11] (fun q wr => ∃ v1 : Nat, q = .int .i64 (v1 : Int) ∧ v1 ≤ j0 ∧ u1 ≤ v1 + 1 ∧ Go.Sort.scanDown (fun x => !ltU x d0[a]!) d0 u1 v1 = Go.Sort.scanDown (fun x => !ltU x d0[a]!) d0 u1 j0 ∧ BkA wr g d0 rest ∧ Turn (fun k => k = g) w wr) (fun q _ => (intOf q).toNat)
        case atStart => exact ⟨j0, rfl, Nat.le_refl _, by omega, rfl, HKV.out, HTV.out⟩
        case round =>
          obtain ⟨v1, rfl, hv1, huv1, hD1, hbk, ht⟩ := hrel
          have HD1 := Lib.hid hD1
          have HK2 := Lib.hid hbk
          have HT2 := Lib.hid ht
          clear hD1 ht
          by_cases h2 : u1 ≤ v1
          · exact absurd h2 (by omega)
          · have h2i : decide ((u1 : Int) ≤ (v1 : Int)) = false := by simp; omega
            have HD12 := Lib.hid (show Go.Sort.scanDown (fun x => !ltU x d0[a]!) d0 u1 j0 = v1 by rw [← HD1.out]; exact down_end (.inl h2))
            have hgt : (v1 : Int) < (u1 : Int) := by omega
            have hja : a ≤ v1 := by omega
            have HE := Lib.hid (part_first_end HI0.out HJ0.out HD0.out HUP1.out HD12.out (by omega))
            clear hbk
            go_upto_region 5 with (fail)
            go_quiet (fail)
            obtain ⟨U1, hU, hkU, htU⟩ : ∃ U, U = wr.drewN nq ∧ BkA U g d0 rest ∧ Turn (fun k => k = g) w U := ⟨_, rfl, HK2.out, usDrew HT2.out _⟩
            rw [← hU]
            have HKU := Lib.hid hkU
            have HTU := Lib.hid htU
            have c1 := hkU.at_ (i := a) (by rw [HS0.out]; omega)
            have c2 := hkU.at_ (i := v1) (by rw [HS0.out]; omega)
            rw [HP0.out] at c1
            generalize hz : d0[v1]! = z at c2
            have HZ9 := Lib.hid hz
            have f1 := hkU.frozen a
            have f2 := hkU.frozen v1
            clear hU hkU htU hz
            repeat (first | go_skip | go_guarded | go_step)
            rcases Nat.eq_or_lt_of_le hja with hja | hja
            · have hz2 : z = p0 := by rw [← HZ9.out, ← HP0.out, hja]
              subst hz2
              subst hja
              go_region
              obtain ⟨Z9, hZ, hkZ, htZ⟩ : ∃ Z, Z = ((U1.setCell { block := g, off := a } (Value.int IntKind.u32 z.toNat)).setCell { block := g, off := a } (Value.int IntKind.u32 z.toNat)).drew ∧ BkA Z g (Go.Sort.swp d0 a a) rest ∧ Turn (fun k => k = g) w Z :=
                ⟨_, rfl, HKU.out.swp (by rw [HS0.out]; omega) (by rw [HS0.out]; omega) HZ9.out HP0.out, (usSwpT HTU.out g a a rfl _ _).drew⟩
              rw [← hZ]
              have HKZ := Lib.hid hkZ
              have HTZ := Lib.hid htZ
              clear hZ hkZ htZ c1 c2 f1 f2
              repeat (first | go_skip | go_guarded | go_step)
              go_ret2
              exact ⟨by rw [HE.out]; rfl, by rw [HE.out]; exact HKZ.out, HTZ.out⟩
            · have hne9 : ¬ v1 = a := by omega
              go_region
              obtain ⟨Z9, hZ, hkZ, htZ⟩ : ∃ Z, Z = ((U1.setCell { block := g, off := v1 } (Value.int IntKind.u32 p0.toNat)).setCell { block := g, off := a } (Value.int IntKind.u32 z.toNat)).drew ∧ BkA Z g (Go.Sort.swp d0 v1 a) rest ∧ Turn (fun k => k = g) w Z :=
                ⟨_, rfl, HKU.out.swp (by rw [HS0.out]; omega) (by rw [HS0.out]; omega) HZ9.out HP0.out, (usSwpT HTU.out g v1 a rfl _ _).drew⟩
              rw [← hZ]
              have HKZ := Lib.hid hkZ
              have HTZ := Lib.hid htZ
              clear hZ hkZ htZ c1 c2 f1 f2
              repeat (first | go_skip | go_guarded | go_step)
              go_ret2
              exact ⟨by rw [HE.out]; rfl, by rw [HE.out]; exact HKZ.out, HTZ.out⟩
end Go.Proofs.Ytedgigoelhcfnaa
