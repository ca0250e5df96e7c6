/- slices.Sort of numbers of 32 bits: the sort itself. (Written by genUsQ.py.) -/
import Derived.Test.YtedgigoelhcfnaaUsK
import Derived.Sort.Walk13a
import Derived.Sort.LotD4
import Derived.Sort.LotB
import Derived.Sort.WalkB3
import Derived.Deep.Cut
set_option linter.unusedVariables false
set_option linter.unusedSimpArgs false
namespace Go.Proofs.Ytedgigoelhcfnaa
open Go Go.RowKit Go.Sort

/-- The block holds d, behind it what was there; nothing else is turned. -/
structure AtU (w : World) (g : Nat) (rest : List Value) (d : Array UInt32) (wr : World) : Prop where
  bk : BkA wr g d rest
  tn : Turn (fun k => k = g) w wr
theorem AtU.step {w wr w1 : World} {g : Nat} {rest : List Value} {d d' : Array UInt32} (h : AtU w g rest d wr) (h1 : BkA w1 g d' rest) (h2 : Turn (fun k => k = g) wr w1) : AtU w g rest d' w1 := ⟨h1, h.tn.trans h2⟩
theorem AtU.ahead {w wr : World} {g : Nat} {rest : List Value} {d : Array UInt32} (h : AtU w g rest d wr) (m : Nat) : AtU w g rest d (wr.drewN m) := ⟨h.bk, usDrew h.tn _⟩
theorem hintTwo {h : Hint} (e : hintCode h = 2) : h = .decreasing := by cases h <;> simp [hintCode] at e ⊢
theorem eighthU {x y p q : Nat} (h1 : q ≤ p) (h2 : y ≤ x) : decide (((x : Int) - (y : Int)) / 8 ≤ (p : Int) - (q : Int)) = decide (p - q ≥ (x - y) / 8) :=
  decide_eq_decide.2 ⟨fun h => by omega, fun h => by omega⟩
set_option maxHeartbeats 12800000 in
set_option maxRecDepth 1000000 in
theorem usPdq : ∀ (N g c a b limit n : Nat) (d : Array UInt32) (rest : List Value) (w : World), b - a < N → d.size = n → BkA w g d rest → a ≤ b → b ≤ n → n ≤ 1000000000000 → limit < 4611686018427387904 → Below ltU a b d →
    Calls Try.prog 26 #[.slice (some ⟨g, 0, none⟩) n c, .int .i64 (a : Int), .int .i64 (b : Int), .int .i64 (limit : Int)] w fun e w' => e = .returned (.tuple #[]) ∧ AtU w g rest (pdq ltU d a b limit true true) w' := by
  intro N
  induction N with
  | zero => intro _ _ _ _ _ _ _ _ _ h; exact absurd h (Nat.not_lt_zero _)
  | succ N ih =>
    intro g c a b limit n d rest w hN hn hH hab hb hsz hlimit hBel0
    have HNN := Lib.hid hn
    have HH := Lib.hid (AtU.mk hH (Turn.refl (fun k => k = g) w))
    have hsz2 : n < 4611686018427387904 := by omega
    clear hH hn
    go_enter Try.func26, Try.ntmps26
    go_wp2
    go_loopg [1, 2, 3, 8, 9] (b - a) (fun k s1 s2 s3 s8 s9 wr => ∃ (a' b' lim : Nat) (wb wp : Bool) (dk : Array UInt32), s1 = .int .i64 a' ∧ s2 = .int .i64 b' ∧ s3 = .int .i64 lim ∧ s8 = .bool wb ∧ s9 = .bool wp ∧
      a' ≤ b' ∧ b' ≤ n ∧ b' - a' ≤ k ∧ k ≤ b - a ∧ lim ≤ limit ∧ dk.size = n ∧ Below ltU a' b' dk ∧ AtU w g rest dk wr ∧ pdq ltU dk a' b' lim wb wp = pdq ltU d a b limit true true)
    case atStart => exact ⟨a, b, limit, true, true, d, rfl, rfl, rfl, rfl, rfl, hab, hb, Nat.le_refl _, Nat.le_refl _, Nat.le_refl _, HNN.out, hBel0, HH.out, rfl⟩
    case round =>
      obtain ⟨a', b', lim, wb, wp, dk, rfl, rfl, rfl, rfl, rfl, hab', hb', hk, hkN, hlim, hds, hBel, hAt, heq⟩ := hrel
      have A := Lib.hid heq
      have HDS := Lib.hid hds
      clear heq
      by_cases h12 : b' - a' ≤ 12
      · have h12z : (b' : Int) - (a' : Int) ≤ 12 := by omega
        have hc := usIns g c a' b' dk rest wr hAt.bk hab' (by omega) (by omega)
        rw [hds] at hc
        clear hds
        go_wp2_with (go_at_call 28; refine hc.mono ?_; rintro e w1 ⟨rfl, hk1, ht1⟩)
        (try simp only [Exit.inBlock, Exit.then]); refine bodyPost_ret (results_none rfl _ _ _) rfl ?_
        refine ⟨rfl, ?_⟩
        rw [← A.out, pdq_small h12]
        exact hAt.step hk1 ht1
      · have h12z : ¬ ((b' : Int) - (a' : Int) ≤ 12) := by omega
        by_cases hl0 : lim = 0
        · subst hl0
          have hc := usHeap g c a' b' dk rest wr n hds.symm hAt.bk (by omega) (by omega) hsz
          clear hds
          go_wp2_with (go_at_call 29; refine hc.mono ?_; rintro e w1 ⟨rfl, hk1, ht1⟩)
          (try simp only [Exit.inBlock, Exit.then]); refine bodyPost_ret (results_none rfl _ _ _) rfl ?_
          refine ⟨rfl, ?_⟩
          rw [← A.out, pdq_heap h12 rfl]
          exact hAt.step hk1 ht1
        · have hl0z : ¬ ((lim : Int) = 0) := by omega
          obtain ⟨s1, B1, hc1, s2, B2, hpv, s3, B3⟩ := rd_facts (limit := lim) (wb := wb) (wp := wp) swo_ltU partialInsertionSort_holds reverseRange_holds (show a' < b' by omega) (show b' ≤ dk.size by omega) hBel
          have S1 := Lib.hid (s1.trans hds)
          have S2 := Lib.hid (s2.trans hds)
          have S3 := Lib.hid (s3.trans hds)
          have hx0 : a' + 12 < b' := by omega
          clear s1 s2 s3 hds
          go_upto_if 35 with fail
          go_cut [3] from 19 (fun s3 wc => s3 = .int .i64 (rd ltU dk a' b' lim wb wp).lim ∧ AtU w g rest (rd ltU dk a' b' lim wb wp).d1 wc)
          case first =>
            cases wb
            · have hc := usBreak g c a' b' dk rest wr n HDS.out.symm hAt.bk hx0 (by omega) hsz
              go_wp2_with (go_at_call 30; refine hc.mono ?_; rintro e w1 ⟨rfl, hk1, ht1⟩)
              go_meet
              case rel =>
                refine ⟨?_, hAt.step hk1 ht1⟩
                show Value.int .i64 ((lim : Int) - 1) = Value.int .i64 ((lim - 1 : Nat) : Int)
                congr 1
                omega
            · go_wp2_with fail
              go_meet
              case rel => exact ⟨rfl, hAt⟩
          case rest =>
            obtain ⟨rfl, hAt1⟩ := hcut
            have hc17 : Calls Try.prog 31 #[.slice (some ⟨g, 0, none⟩) n c, .int .i64 (a' : Int), .int .i64 (b' : Int)] wc fun e w' => e = .returned (.tuple #[.int .i64 (rd ltU dk a' b' lim wb wp).c.1, .int .i64 (hintCode (rd ltU dk a' b' lim wb wp).c.2)]) ∧ BkA w' g (rd ltU dk a' b' lim wb wp).d1 rest ∧ Turn (fun k => k = g) wc w' :=
              usPivot g c a' b' (rd ltU dk a' b' lim wb wp).d1 rest wc n S1.out.symm hAt1.bk hx0 (by omega) hsz
            go_upto_if 50 with (go_at_call 31; refine hc17.mono ?_; rintro e w2 ⟨rfl, hk2, ht2⟩)
            have hAt2 : AtU w g rest (rd ltU dk a' b' lim wb wp).d1 w2 := hAt1.step hk2 ht2
            clear hk2 ht2
            go_cut [11, 12] from 19 (fun s11 s12 wc => s11 = .int .i64 (rd ltU dk a' b' lim wb wp).pivot ∧ s12 = .int .i64 (hintCode (rd ltU dk a' b' lim wb wp).hint) ∧ AtU w g rest (rd ltU dk a' b' lim wb wp).d2 wc)
            case first =>
              by_cases hh : (rd ltU dk a' b' lim wb wp).c.2 = .decreasing
              · have hcode : hintCode (rd ltU dk a' b' lim wb wp).c.2 = 2 := by rw [hh]; rfl
                obtain ⟨e2, epv, eht⟩ := rd_dec hh
                have E2 := Lib.hid e2
                have EPV := Lib.hid epv
                have EHT := Lib.hid eht
                have hc18 := usRev g c a' b' (rd ltU dk a' b' lim wb wp).d1 rest w2 hAt2.bk (by omega) (by rw [S1.out]; omega) (by rw [S1.out]; omega)
                rw [S1.out] at hc18
                clear e2 epv eht hh
                go_wp2_with (go_at_call 32; refine hc18.mono ?_; rintro e w3 ⟨rfl, hk3, ht3⟩)
                go_meet
                case rel =>
                  refine ⟨?_, by rw [EHT.out]; rfl, by rw [E2.out]; exact hAt2.step hk3 ht3⟩
                  rw [EPV.out]
                  congr 1
                  omega
              · have hcode : ¬ (hintCode (rd ltU dk a' b' lim wb wp).c.2 = 2) := fun h => hh (hintTwo h)
                obtain ⟨e2, epv, eht⟩ := rd_not hh
                have E2 := Lib.hid e2
                have EPV := Lib.hid epv
                have EHT := Lib.hid eht
                clear e2 epv eht
                go_wp2_with fail
                go_meet
                case rel => exact ⟨by rw [EPV.out], by rw [EHT.out], by rw [E2.out]; exact hAt2⟩
            case rest =>
              obtain ⟨rfl, rfl, hAt3⟩ := hcut
              go_upto_region 15 with fail
              go_cut [12, 68] from 19 (fun s12 s68 wx => s12 = .int .i64 (hintCode (rd ltU dk a' b' lim wb wp).hint) ∧ s68 = .bool (wb && wp && decide ((rd ltU dk a' b' lim wb wp).hint = .increasing)) ∧ wx = wc)
              case first =>
                cases wb <;> cases wp <;> cases hh3 : (rd ltU dk a' b' lim _ _).hint <;>
                  (have hcode3 := congrArg hintCode hh3
                   simp only [hintCode] at hcode3
                   go_wp2_with fail
                   go_meet
                   exact ⟨by simp [hh3, hintCode], by simp [hh3, hintCode], rfl⟩)
              case rest =>
                obtain ⟨rfl, rfl, rfl⟩ := hcut
                go_upto_if 68 with fail
                go_cut [] from 19 (fun wx => (rd ltU dk a' b' lim wb wp).pi.2 = false ∧ AtU w g rest (rd ltU dk a' b' lim wb wp).pi.1 wx)
                case first =>
                  cases h68 : (wb && wp && decide ((rd ltU dk a' b' lim wb wp).hint = .increasing))
                  · have epi := Lib.hid (rd_pi_no h68)
                    go_wp2_with fail
                    go_meet
                    case rel => exact ⟨by rw [epi.out], by rw [epi.out]; exact hAt3⟩
                  · have epi := Lib.hid (rd_pi_yes h68)
                    have hc19 := usPins g c a' b' (rd ltU dk a' b' lim wb wp).d2 rest wc n S2.out.symm hAt3.bk (by omega) (by omega) hsz
                    rw [← epi.out] at hc19
                    go_wp2_with (go_at_call 33; refine hc19.mono ?_; rintro e w4 ⟨rfl, hk4, ht4⟩)
                    all_goals first
                      | (have hp2 : (rd ltU dk a' b' lim wb wp).pi.2 = false := by assumption
                         go_meet
                         exact ⟨hp2, hAt3.step hk4 ht4⟩)
                      | (have hp2 : (rd ltU dk a' b' lim wb wp).pi.2 = true := by assumption
                         (try simp only [Exit.inBlock, Exit.then]); refine bodyPost_ret (results_none rfl _ _ _) rfl ?_
                         refine ⟨rfl, ?_⟩
                         rw [← A.out, pdq_done h12 hl0 hp2]
                         exact hAt3.step hk4 ht4)
                case rest =>
                  obtain ⟨hp2, hAt5⟩ := hcut
                  have HP2 := Lib.hid hp2
                  obtain ⟨pv, hpve⟩ : ∃ pv, pv = (rd ltU dk a' b' lim wb wp).pivot := ⟨_, rfl⟩
                  rw [← hpve] at hpv ⊢
                  have HPV := Lib.hid hpve
                  obtain ⟨D, hD⟩ : ∃ D, D = (rd ltU dk a' b' lim wb wp).pi.1 := ⟨_, rfl⟩
                  rw [← hD] at B3 hAt5
                  have HD := Lib.hid hD
                  have SD := Lib.hid (show D.size = n by rw [hD]; exact S3.out)
                  clear hp2 hpve hD
                  go_upto_region 17 with fail
                  go_cut [87] from 19 (fun s87 wx => s87 = .bool (decide (a' > 0) && !ltU D[a' - 1]! D[pv]!) ∧ AtU w g rest D wx)
                  case first =>
                    rcases Nat.eq_zero_or_pos a' with ha0 | ha0
                    · have ha0z : decide ((a' : Int) > 0) = false := decide_eq_false (by omega)
                      go_big_quiet (first | (go_at_call 34; refine Calls.quiet_of_same (usLess _ _ _)))
                      go_wp2_with fail
                      go_meet
                      case rel => exact ⟨by simp [ha0], hAt5.ahead nq⟩
                    · have ha0z : (a' : Int) > 0 := by omega
                      have k1 := hAt5.bk.at_ (i := a' - 1) (by rw [SD.out]; omega)
                      have k2 := hAt5.bk.at_ (i := pv) (by rw [SD.out]; omega)
                      have hjw : ((a' : Int) - 1) = ((a' - 1 : Nat) : Int) := by omega
                      go_big_quiet (first | (go_at_call 34; refine Calls.quiet_of_same (usLess _ _ _)))
                      go_wp2_with fail
                      go_meet
                      case rel => exact ⟨by simp [ha0], hAt5.ahead nq⟩
                  case rest =>
                    obtain ⟨rfl, hAt6⟩ := hcut
                    cases h87 : (decide (a' > 0) && !ltU D[a' - 1]! D[pv]!)
                    · obtain ⟨mid, ap, d4, hx⟩ : ∃ mid ap d4, partition ltU D a' b' pv = (mid, ap, d4) := ⟨(partition ltU D a' b' pv).1, (partition ltU D a' b' pv).2.1, (partition ltU D a' b' pv).2.2, rfl⟩
                      obtain ⟨r1, r2, r3, r4, r5, r6, r7⟩ := round_part swo_ltU (partition_holds _) hpv.1 hpv.2 (show b' ≤ D.size by rw [SD.out]; omega) B3 hx
                      have hc22 := usPart g c a' b' pv D rest wc n SD.out.symm hAt6.bk hpv.1 hpv.2 (by omega) hsz
                      rw [hx] at hc22
                      have X := Lib.hid hx
                      have R3 := Lib.hid (r3.trans SD.out)
                      have H87 := Lib.hid h87
                      clear hx r3 h87
                      go_upto_if 113 with (go_at_call 36; refine hc22.mono ?_; rintro e w7 ⟨rfl, hk7, ht7⟩)
                      have hAt7 : AtU w g rest d4 w7 := hAt6.step hk7 ht7
                      by_cases h4 : mid - a' < b' - mid
                      · have h4z : (mid : Int) - (a' : Int) < (b' : Int) - (mid : Int) := by omega
                        have hih := ih g c a' mid (rd ltU dk a' b' lim wb wp).lim n d4 rest w7 (by omega) R3.out hAt7.bk (by omega) (by omega) hsz (Nat.lt_of_le_of_lt (Nat.le_trans rd_lim_le hlim) hlimit) r4
                        obtain ⟨pL, sL⟩ := pdq_sorts ltU swo_ltU d4 a' mid (rd ltU dk a' b' lim wb wp).lim true true (by omega) (by rw [R3.out]; omega) r4
                        have R6 := Lib.hid (r6 _ pL sL).1
                        have PL := Lib.hid (pL.1.trans R3.out)
                        clear pL sL r6 r7
                        go_wp2_with (go_at_call 26; refine hih.mono ?_; rintro e w8 ⟨rfl, hw8⟩)
                        go_roundg (b' - (mid + 1))
                        case measure => omega
                        case rel =>
                          refine ⟨mid + 1, b', (rd ltU dk a' b' lim wb wp).lim, decide (mid - a' ≥ (b' - a') / 8), ap, pdq ltU d4 a' mid (rd ltU dk a' b' lim wb wp).lim true true, by simp, rfl, rfl, ?_, rfl, by omega, by omega, Nat.le_refl _, by omega, Nat.le_trans rd_lim_le hlim, PL.out, R6.out, hAt7.step hw8.bk hw8.tn, ?_⟩
                          · exact congrArg Value.bool (eighthU (by omega) (by omega))
                          · have hx := X.out
                            have h87 := H87.out
                            rw [HD.out, HPV.out] at hx h87
                            rw [← A.out, pdq_left h12 hl0 HP2.out h87 (by rw [hx]; exact ⟨r1, r2⟩) (by rw [hx]; exact h4), hx]
                      · have h4z : ¬ ((mid : Int) - (a' : Int) < (b' : Int) - (mid : Int)) := by omega
                        have hih := ih g c (mid + 1) b' (rd ltU dk a' b' lim wb wp).lim n d4 rest w7 (by omega) R3.out hAt7.bk (by omega) (by omega) hsz (Nat.lt_of_le_of_lt (Nat.le_trans rd_lim_le hlim) hlimit) r5
                        obtain ⟨pL, sL⟩ := pdq_sorts ltU swo_ltU d4 (mid + 1) b' (rd ltU dk a' b' lim wb wp).lim true true (by omega) (by rw [R3.out]; omega) r5
                        have R7 := Lib.hid (r7 _ pL sL).1
                        have PL := Lib.hid (pL.1.trans R3.out)
                        clear pL sL r6 r7
                        go_wp2_with (go_at_call 26; refine hih.mono ?_; rintro e w8 ⟨rfl, hw8⟩)
                        go_roundg (mid - a')
                        case measure => omega
                        case rel =>
                          refine ⟨a', mid, (rd ltU dk a' b' lim wb wp).lim, decide (b' - mid ≥ (b' - a') / 8), ap, pdq ltU d4 (mid + 1) b' (rd ltU dk a' b' lim wb wp).lim true true, rfl, rfl, rfl, ?_, rfl, by omega, by omega, Nat.le_refl _, by omega, Nat.le_trans rd_lim_le hlim, PL.out, R7.out, hAt7.step hw8.bk hw8.tn, ?_⟩
                          · exact congrArg Value.bool (eighthU (by omega) (by omega))
                          · have hx := X.out
                            have h87 := H87.out
                            rw [HD.out, HPV.out] at hx h87
                            rw [← A.out, pdq_right h12 hl0 HP2.out h87 (by rw [hx]; exact ⟨r1, r2⟩) (by rw [hx]; exact h4), hx]
                    · have h87' := h87
                      simp only [Bool.and_eq_true, decide_eq_true_eq, Bool.not_eq_true'] at h87'
                      obtain ⟨mid, d4, hx⟩ : ∃ mid d4, partitionEqual ltU D a' b' pv = (mid, d4) := ⟨(partitionEqual ltU D a' b' pv).1, (partitionEqual ltU D a' b' pv).2, rfl⟩
                      obtain ⟨r1, r2, r3, r4, _⟩ := round_eq swo_ltU (partitionEqual_holds _) h87'.1 hpv.1 hpv.2 (show b' ≤ D.size by rw [SD.out]; omega) B3 h87'.2 hx
                      have hc21 := usPartEq g c a' b' pv D rest wc n SD.out.symm hAt6.bk hpv.1 hpv.2 (by omega) hsz
                      rw [hx] at hc21
                      have X := Lib.hid hx
                      have R3 := Lib.hid (r3.trans SD.out)
                      have H87 := Lib.hid h87
                      clear hx r3 h87 h87'
                      go_wp2_with (go_at_call 35; refine hc21.mono ?_; rintro e w7 ⟨rfl, hk7, ht7⟩)
                      go_roundg (b' - mid)
                      case measure => omega
                      case rel =>
                        have hx := X.out
                        have h87 := H87.out
                        rw [HD.out, HPV.out] at hx h87
                        exact ⟨mid, b', (rd ltU dk a' b' lim wb wp).lim, wb, wp, d4, rfl, rfl, rfl, rfl, rfl, r2, hb', Nat.le_refl _, by omega, Nat.le_trans rd_lim_le hlim, R3.out, r4, hAt6.step hk7 ht7, by rw [← A.out, pdq_eq h12 hl0 HP2.out h87 (by rw [hx]; exact ⟨r1, r2⟩), hx]⟩
end Go.Proofs.Ytedgigoelhcfnaa
