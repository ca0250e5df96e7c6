/- OctetRows: the walk, side R. -/
import Derived.Test.YtdoonjldnehbdaaOctRh
set_option linter.unusedVariables false
set_option linter.unusedSimpArgs false
namespace Go.Proofs.Ytdoonjldnehbdaa.octetRows
open Go Go.RowKit Go.ChangeShapes Go.WideShapes Go.ChangeAt

set_option maxRecDepth 100000 in
set_option maxHeartbeats 4000000 in
theorem walkR (A0 A1 : Option Addr) (n0 c0 n1 c1 : Nat) (nl : List Nat) (R : Nat → Option Addr × Nat × Nat) (sl : List (List UInt8)) (N : Nat) (w : World)
    (hr0 : Rd w w.heap.size 1 A0 n0 (nl.map nv)) (hn : ∀ i, nl.getD i 0 < 18446744073709551616) (hr1 : Rws w w.heap.size A1 n1 R sl) (hv0 : n0 ≤ 40) (hv1 : n1 ≤ 40) (hN : N < 65536) (hnm : n1 ≤ n0) :
    Calls Try.prog 7 #[.slice A0 n0 c0, .slice A1 n1 c1, .int .u16 (N : Int)] w fun e w' => e = .returned (.bool true) ∧ Below w.heap.size w w' := by
  have hd0 : decide ((40 : Int) < (n0 : Int)) = false := by simp; omega
  have hd1 : decide ((40 : Int) < (n1 : Int)) = false := by simp; omega
  have hl0 := Lib.hid (show nl.length = n0 by simpa using hr0.len1)
  have hl1 := Lib.hid hr1.len
  have hM40 : n0 ≤ 40 := by omega
  have hnm2 : ¬ n0 < n1 := by omega
  go_enter Try.func7, Try.ntmps7
  go_wp2_with fail
  go_loopw [7, 8, 9] (fun qb qe qi wr => ∃ (i : Nat) (Ab : Option Addr) (nb cb : Nat) (Ae : Option Addr) (ne ce : Nat), qb = .slice Ab nb cb ∧ qe = .slice Ae ne ce ∧ qi = .int .i64 (i : Int) ∧ i ≤ n0 ∧
      Ow wr w.heap.size Ab cb nb (rowE nl sl i) ∧ wr.ownsRow w.heap.size 3 1 (.slice Ae ne ce) ne ((rowZ nl sl i).map iv) ∧ Below w.heap.size w wr ∧ nb ≤ 320 * i ∧ (∀ k, (Value.slice Ab nb cb).ownBlock = some k → (Value.slice Ae ne ce).ownBlock ≠ some k) ∧ (∀ t, t < i → t < n1 → (sl.getD t []).length ≤ 300))
    (fun _ _ qi _ => n0 - (intOf qi).toNat)
  case atStart => exact ⟨0, none, 0, 0, none, 0, 0, rfl, rfl, rfl, by omega, owNil _ _, World.ownsRow_nil _ _ _ _, Below.refl _ _, by omega, (by intro k h; simp [Value.ownBlock] at h), fun t ht => by omega⟩
  case round =>
    obtain ⟨i, Ab, nb, cb, Ae, ne, ce, rfl, rfl, rfl, hi, hob, hoe, hbr, hnb, hne, hL⟩ := hrel
    by_cases hlt : i < n0
    · have hmx : decide ((i : Int) < (n0 : Int)) = true := by simp; omega
      have hmx2 : decide (i < n0) = true := by simp; omega
      have hi0 : (0 : Int) ≤ (i : Int) := by omega
      have hz := rowZ_len nl sl i
      have hnel : ne = (rowZ nl sl i).length := by have := hoe.1; simpa using this.symm
      have HNE := Lib.hid hnel
      have hne80 : ne ≤ 80 := by omega
      have HOE := Lib.hid hoe
      clear hnel hoe hne
      by_cases h0 : i < n0
      · by_cases h1 : i < n1
        · have hc1 : decide ((i : Int) < (n1 : Int)) = true := by simp; omega
          have hi2 : (i : Int) < (n1 : Int) := by omega
          obtain ⟨p1, o1, rfl, hp1, hrow⟩ := (hr1.below hbr).at_ h1
          have hrrd := hr1.row i h1
          obtain ⟨Ar, Lr, Cr, hR⟩ : ∃ Ar Lr Cr, R i = (Ar, Lr, Cr) := ⟨_, _, _, rfl⟩
          rw [hR] at hrow hrrd
          dsimp only at hrow hrrd
          obtain ⟨ss, hss⟩ : ∃ ss, sl.getD i [] = ss := ⟨_, rfl⟩
          rw [hss] at hrrd
          have HSS := Lib.hid hss
          clear hss hR
          have hcell0 : ∃ p0 o0, A0 = some ⟨p0, o0, none⟩ ∧ p0 < w.heap.size ∧ wr.cell? ⟨p0, o0 + i, none⟩ = some (.int .u64 ((nl.getD i 0 : Nat) : Int)) := nums_at (hr0.below hbr) h0
          have hc0 : decide ((i : Int) < (n0 : Int)) = true := by simp; omega
          have hi1 : (i : Int) < (n0 : Int) := by omega
          obtain ⟨v, hv⟩ : ∃ v, nl.getD i 0 = v := ⟨_, rfl⟩
          have hvn : v < 18446744073709551616 := by rw [← hv]; exact hn i
          obtain ⟨p0, o0, rfl, hp0, hcell⟩ := hcell0
          rw [hv] at hcell
          have HV := Lib.hid hv
          clear hv
          have HLS := Lib.hid (show ss.length = Lr by simpa using hrrd.len1)
          by_cases hbig : 300 < Lr
          · have hgb : decide ((300 : Int) < (Lr : Int)) = true := by simp; omega
            go_wp2_with fail
            refine (putVar_any Ab nb cb _ v _ hob.rd (by omega) (by omega) (by omega)).mono ?_
            rintro e w1 ⟨A2, m2, c2, rfl, ho2, hb2⟩
            rw [Int.toNat_natCast] at ho2
            have hbr2 := hbr.trans (hb2.mono hbr.size)
            have hcell2 : w1.cell? ⟨p0, o0 + i, none⟩ = some (.int .u64 (v : Int)) := by rw [← hcell]; exact hb2.cell (Nat.lt_of_lt_of_le hp0 hbr.size)
            have hm2 : m2 = nb + (var v).length := by have h1 := ho2.len; have h2 := hob.len; simp at h1; omega
            have HM2 := Lib.hid hm2
            clear hm2
            go_wp2_with fail
            go_loop [11, 12] (fun q p => ∃ (f g r : Nat), q = .int .i64 (g : Int) ∧ p = .int .u64 (r : Int) ∧ r < 18446744073709551616 ∧ r < 128 ^ f ∧ f + g = 10 ∧ g + cnt f r = (var v).length) (fun _ p => (intOf p).toNat)
            case atStart => exact ⟨9, 1, v / 128, rfl, rfl, by omega, by omega, rfl, (var_cnt v hvn).symm⟩
            case round =>
              obtain ⟨f, g, r, rfl, rfl, hr, hrf, hfg, hc⟩ := hrel
              have HC := Lib.hid hc
              clear hc
              rcases Nat.eq_zero_or_pos r with rfl | hpos
              · have hg : g = (var v).length := by
                  have := HC.out
                  cases f <;> simp [cnt] at this <;> omega
                have hgm : nb + g = m2 := by rw [HM2.out, hg]
                have hg10 : g ≤ 10 := by have := var_len v; omega
                have hm2b : m2 ≤ 320 * i + 10 := by omega
                have hgw : IntKind.i64.wrap ((nb : Int) + (g : Int)) = (nb : Int) + (g : Int) := IntWalk.i64_in _ (by omega)
                have hgc : ((m2 : Int) == (nb : Int) + (g : Int)) = true := by simp; omega
                have HGM := Lib.hid hgm
                clear hg hgm
                have hoe1 : w1.ownsRow w.heap.size 3 1 (.slice Ae ne ce) ne ((rowZ nl sl i).map iv) := ownBelow HOE.out hb2 (Nat.le_refl _)
                have HOE1 := Lib.hid (World.ownsRow.alloc hoe1 (.cells #[.int .i64 (m2 : Int)] 3))
                clear hoe1
                have hba1 := hbr2.alloc hbr2.size (.cells #[.int .i64 (m2 : Int)] 3)
                go_wp2_with (first
                  | (at_builtin; refine appI _ rfl _ _ rfl w.heap.size Ae ce ne _ rfl HOE1.out _ _ 1 1 [m2] rfl (rdOneI w1 m2) (by omega) hba1.size ?_; intro A3 c3 w3 hoe3 hb3 hg3 hk3; have hbr3 := hba1.trans hb3; obtain ⟨ho3, hd3⟩ := after_app ho2 HOE.out hg3 hk3 hbr.size; have hrow3 : w3.cell? ⟨p1, o1 + i, none⟩ = some (.slice Ar Lr Cr) := by rw [hbr3.cell hp1, ← hbr.cell hp1]; exact hrow)
                  | (go_at_call 9; refine (works_any _).mono ?_; rintro e wk ⟨rfl, hbk⟩))
                go_ret
                exact ⟨rfl, hbr3.trans (hbk.mono hbr3.size)⟩
              · obtain ⟨f, rfl⟩ : ∃ h, f = h + 1 := ⟨f - 1, by
                  rcases f with _ | f
                  · simp at hrf; omega
                  · rfl⟩
                go_wp2
                go_round
                case rel => exact ⟨f, g + 1, r / 128, by go_num, by go_num, by omega, by rw [Nat.pow_succ] at hrf; omega, by omega, by have := HC.out; rw [cnt, if_neg (by omega)] at this; omega⟩
                case measure => simp [intOf]; omega
          · have hgb : decide ((300 : Int) < (Lr : Int)) = false := by simp; omega
            go_wp2_with fail
            refine (putVar_any Ab nb cb _ v _ hob.rd (by omega) (by omega) (by omega)).mono ?_
            rintro e w1 ⟨A2, m2, c2, rfl, ho2, hb2⟩
            rw [Int.toNat_natCast] at ho2
            have hbr2 := hbr.trans (hb2.mono hbr.size)
            have hcell2 : w1.cell? ⟨p0, o0 + i, none⟩ = some (.int .u64 (v : Int)) := by rw [← hcell]; exact hb2.cell (Nat.lt_of_lt_of_le hp0 hbr.size)
            have hm2 : m2 = nb + (var v).length := by have h1 := ho2.len; have h2 := hob.len; simp at h1; omega
            have HM2 := Lib.hid hm2
            clear hm2
            go_wp2_with fail
            go_loop [11, 12] (fun q p => ∃ (f g r : Nat), q = .int .i64 (g : Int) ∧ p = .int .u64 (r : Int) ∧ r < 18446744073709551616 ∧ r < 128 ^ f ∧ f + g = 10 ∧ g + cnt f r = (var v).length) (fun _ p => (intOf p).toNat)
            case atStart => exact ⟨9, 1, v / 128, rfl, rfl, by omega, by omega, rfl, (var_cnt v hvn).symm⟩
            case round =>
              obtain ⟨f, g, r, rfl, rfl, hr, hrf, hfg, hc⟩ := hrel
              have HC := Lib.hid hc
              clear hc
              rcases Nat.eq_zero_or_pos r with rfl | hpos
              · have hg : g = (var v).length := by
                  have := HC.out
                  cases f <;> simp [cnt] at this <;> omega
                have hgm : nb + g = m2 := by rw [HM2.out, hg]
                have hg10 : g ≤ 10 := by have := var_len v; omega
                have hm2b : m2 ≤ 320 * i + 10 := by omega
                have hgw : IntKind.i64.wrap ((nb : Int) + (g : Int)) = (nb : Int) + (g : Int) := IntWalk.i64_in _ (by omega)
                have hgc : ((m2 : Int) == (nb : Int) + (g : Int)) = true := by simp; omega
                have HGM := Lib.hid hgm
                clear hg hgm
                have hoe1 : w1.ownsRow w.heap.size 3 1 (.slice Ae ne ce) ne ((rowZ nl sl i).map iv) := ownBelow HOE.out hb2 (Nat.le_refl _)
                have HOE1 := Lib.hid (World.ownsRow.alloc hoe1 (.cells #[.int .i64 (m2 : Int)] 3))
                clear hoe1
                have hba1 := hbr2.alloc hbr2.size (.cells #[.int .i64 (m2 : Int)] 3)
                go_wp2_with (first
                  | (at_builtin; refine appI _ rfl _ _ rfl w.heap.size Ae ce ne _ rfl HOE1.out _ _ 1 1 [m2] rfl (rdOneI w1 m2) (by omega) hba1.size ?_; intro A3 c3 w3 hoe3 hb3 hg3 hk3; have hbr3 := hba1.trans hb3; obtain ⟨ho3, hd3⟩ := after_app ho2 HOE.out hg3 hk3 hbr.size; have hrow3 : w3.cell? ⟨p1, o1 + i, none⟩ = some (.slice Ar Lr Cr) := by rw [hbr3.cell hp1, ← hbr.cell hp1]; exact hrow))
                have hpv : pv nl i = var v := by unfold pv; rw [if_pos (by rw [hl0.out]; exact h0), HV.out]
                have hpb : pb sl i = var Lr ++ ss := by unfold pb; rw [if_pos (by rw [hl1.out]; exact h1), HSS.out, HLS.out]
                go_wp2_with fail
                refine (putBytes_any A2 m2 c2 _ Ar Lr Cr ss _ ho3.rd ((hrrd.below hbr3).more hbr3.size) (by omega)).mono ?_
                rintro e w4 ⟨A4, m4, c4, rfl, ho4, hb4⟩
                have hbr4 := hbr3.trans (hb4.mono hbr3.size)
                have hm4 : m4 ≤ 320 * i + 320 := by have h1 := ho4.len; have h2 := ho3.len; have h3 := var_len Lr; have h4 := HLS.out; simp only [List.length_append] at h1; (try simp only [List.length_append] at h2); omega
                have hoe4 : w4.ownsRow w.heap.size 3 1 (.slice A3 (ne + 1) c3) (ne + 1) _ := ownBelow hoe3 hb4 (Nat.le_refl _)
                have HOE4 := Lib.hid (World.ownsRow.alloc hoe4 (.cells #[.int .i64 (m4 : Int)] 3))
                clear hoe4
                have hba4 := hbr4.alloc hbr4.size (.cells #[.int .i64 (m4 : Int)] 3)
                go_wp2_with (at_builtin; refine appI _ rfl _ _ rfl w.heap.size A3 c3 (ne + 1) _ rfl HOE4.out _ _ 1 1 [m4] rfl (rdOneI w4 m4) (by omega) hba4.size ?_; intro A5 c5 w5 hoe5 hb5 hg5 hk5; have hbr5 := hba4.trans hb5; obtain ⟨ho5, hd5⟩ := after_app ho4 hoe3 hg5 hk5 hbr3.size)
                go_roundw
                case rel => 
                  exact ⟨i + 1, A4, m4, c4, A5, ne + 1 + 1, c5, rfl, rfl, by go_num, by omega,
                    by (rw [rowE, hpv, hpb]; simpa using ho5), by (rw [rowZ, if_pos (by rw [hl0.out]; exact h0), if_pos (by rw [hl1.out]; exact h1), hpv, hpb]; have e1 := ho2.len; have e2 := ho4.len; simp only [List.append_assoc] at e1 e2 hoe5 ⊢; rw [e1, e2]; exact hoe5), hbr5, by omega, hd5, fun t ht ht1 => by
                      by_cases e : t = i
                      · rw [e, HSS.out, HLS.out]; omega
                      · exact hL t (by omega) ht1⟩
                case measure => simp [intOf]; omega
              · obtain ⟨f, rfl⟩ : ∃ h, f = h + 1 := ⟨f - 1, by
                  rcases f with _ | f
                  · simp at hrf; omega
                  · rfl⟩
                go_wp2
                go_round
                case rel => exact ⟨f, g + 1, r / 128, by go_num, by go_num, by omega, by rw [Nat.pow_succ] at hrf; omega, by omega, by have := HC.out; rw [cnt, if_neg (by omega)] at this; omega⟩
                case measure => simp [intOf]; omega
        · have hcell0 : ∃ p0 o0, A0 = some ⟨p0, o0, none⟩ ∧ p0 < w.heap.size ∧ wr.cell? ⟨p0, o0 + i, none⟩ = some (.int .u64 ((nl.getD i 0 : Nat) : Int)) := nums_at (hr0.below hbr) h0
          have hc0 : decide ((i : Int) < (n0 : Int)) = true := by simp; omega
          have hi1 : (i : Int) < (n0 : Int) := by omega
          obtain ⟨v, hv⟩ : ∃ v, nl.getD i 0 = v := ⟨_, rfl⟩
          have hvn : v < 18446744073709551616 := by rw [← hv]; exact hn i
          obtain ⟨p0, o0, rfl, hp0, hcell⟩ := hcell0
          rw [hv] at hcell
          have HV := Lib.hid hv
          clear hv
          have hc1 : decide ((i : Int) < (n1 : Int)) = false := by simp; omega
          go_wp2_with fail
          refine (putVar_any Ab nb cb _ v _ hob.rd (by omega) (by omega) (by omega)).mono ?_
          rintro e w1 ⟨A2, m2, c2, rfl, ho2, hb2⟩
          rw [Int.toNat_natCast] at ho2
          have hbr2 := hbr.trans (hb2.mono hbr.size)
          have hcell2 : w1.cell? ⟨p0, o0 + i, none⟩ = some (.int .u64 (v : Int)) := by rw [← hcell]; exact hb2.cell (Nat.lt_of_lt_of_le hp0 hbr.size)
          have hm2 : m2 = nb + (var v).length := by have h1 := ho2.len; have h2 := hob.len; simp at h1; omega
          have HM2 := Lib.hid hm2
          clear hm2
          go_wp2_with fail
          go_loop [11, 12] (fun q p => ∃ (f g r : Nat), q = .int .i64 (g : Int) ∧ p = .int .u64 (r : Int) ∧ r < 18446744073709551616 ∧ r < 128 ^ f ∧ f + g = 10 ∧ g + cnt f r = (var v).length) (fun _ p => (intOf p).toNat)
          case atStart => exact ⟨9, 1, v / 128, rfl, rfl, by omega, by omega, rfl, (var_cnt v hvn).symm⟩
          case round =>
            obtain ⟨f, g, r, rfl, rfl, hr, hrf, hfg, hc⟩ := hrel
            have HC := Lib.hid hc
            clear hc
            rcases Nat.eq_zero_or_pos r with rfl | hpos
            · have hg : g = (var v).length := by
                have := HC.out
                cases f <;> simp [cnt] at this <;> omega
              have hgm : nb + g = m2 := by rw [HM2.out, hg]
              have hg10 : g ≤ 10 := by have := var_len v; omega
              have hm2b : m2 ≤ 320 * i + 10 := by omega
              have hgw : IntKind.i64.wrap ((nb : Int) + (g : Int)) = (nb : Int) + (g : Int) := IntWalk.i64_in _ (by omega)
              have hgc : ((m2 : Int) == (nb : Int) + (g : Int)) = true := by simp; omega
              have HGM := Lib.hid hgm
              clear hg hgm
              have hoe1 : w1.ownsRow w.heap.size 3 1 (.slice Ae ne ce) ne ((rowZ nl sl i).map iv) := ownBelow HOE.out hb2 (Nat.le_refl _)
              have HOE1 := Lib.hid (World.ownsRow.alloc hoe1 (.cells #[.int .i64 (m2 : Int)] 3))
              clear hoe1
              have hba1 := hbr2.alloc hbr2.size (.cells #[.int .i64 (m2 : Int)] 3)
              go_wp2_with (first
                | (at_builtin; refine appI _ rfl _ _ rfl w.heap.size Ae ce ne _ rfl HOE1.out _ _ 1 1 [m2] rfl (rdOneI w1 m2) (by omega) hba1.size ?_; intro A3 c3 w3 hoe3 hb3 hg3 hk3; have hbr3 := hba1.trans hb3; obtain ⟨ho3, hd3⟩ := after_app ho2 HOE.out hg3 hk3 hbr.size))
              have hpv : pv nl i = var v := by unfold pv; rw [if_pos (by rw [hl0.out]; exact h0), HV.out]
              have hpb : pb sl i = [] := by unfold pb; rw [if_neg (by rw [hl1.out]; exact h1)]
              go_roundw
              case rel => 
                exact ⟨i + 1, A2, m2, c2, A3, ne + 1, c3, rfl, rfl, by go_num, by omega,
                  by (rw [rowE, hpv, hpb]; simpa using ho3), by (rw [rowZ, if_pos (by rw [hl0.out]; exact h0), if_neg (by rw [hl1.out]; exact h1), hpv]; have e1 := ho2.len; rw [e1]; simpa using hoe3), hbr3, by omega, hd3, fun t ht ht1 => hL t (by omega) ht1⟩
              case measure => simp [intOf]; omega
            · obtain ⟨f, rfl⟩ : ∃ h, f = h + 1 := ⟨f - 1, by
                rcases f with _ | f
                · simp at hrf; omega
                · rfl⟩
              go_wp2
              go_round
              case rel => exact ⟨f, g + 1, r / 128, by go_num, by go_num, by omega, by rw [Nat.pow_succ] at hrf; omega, by omega, by have := HC.out; rw [cnt, if_neg (by omega)] at this; omega⟩
              case measure => simp [intOf]; omega
      · omega
    · obtain rfl : n0 = i := by omega
      obtain ⟨wq, hwq⟩ : ∃ wq, wq = wr := ⟨_, rfl⟩
      subst hwq
      have hmx : decide ((n0 : Int) < (n0 : Int)) = false := by simp
      have hcb := hob.le
      have hEl := hob.len
      obtain ⟨E, hE⟩ : ∃ E, rowE nl sl n0 = E := ⟨_, rfl⟩
      have HE := Lib.hid hE
      have hrb := hob.rd
      rw [hE] at hrb hEl
      have hre : Rd wq wq.heap.size 1 Ae ne ((rowZ nl sl n0).map iv) := Rd.ofOwn hoe
      have hrl := hr0.below hbr
      have hrs := hr1.below hbr
      have hsz := hbr.size
      have hnel : ne = (rowZ nl sl n0).length := by have := hoe.1; simpa using this.symm
      have hne80 : ne ≤ 80 := by have := rowZ_len nl sl n0; omega
      have HNE := Lib.hid hnel
      clear hob hoe hne hnel hE
      obtain ⟨K, hK⟩ : ∃ K, N % (nb + 1) = K := ⟨_, rfl⟩
      have hKle : K ≤ nb := by have := Nat.mod_lt N (show 0 < nb + 1 by omega); omega
      have hk1 : (N : Int) % ((nb : Int) + 1) = (K : Int) := by rw [← hK]; simp
      have hk2 : Int.tmod (N : Int) ((nb : Int) + 1) = (K : Int) := by rw [Int.tmod_eq_emod_of_nonneg (by omega)]; exact hk1
      have hk3 : ((nb : Int) + 1 == 0) = false := by simp; omega
      have hk4 : IntKind.i64.wrap ((nb : Int) + 1) = (nb : Int) + 1 := IntWalk.i64_in _ (by omega)
      clear hK
      have hcutK : ∀ W : World, Below wq.heap.size wq W → Rd W wq.heap.size 1 Ab K ((E.take K).map bv) := by
        intro W hW
        have h := (hrb.below hW).cut (k := 0) (m := K) (cap := cb) (by omega) hKle hcb
        have hA : (if cb = 0 then Ab else Ab.map (fun y => y.add (0 * 1))) = Ab := by
          split
          · rfl
          · cases Ab <;> simp [Addr.add]
        rw [hA] at h
        simpa using h
      have hK0 : (0 : Int) ≤ (K : Int) := by omega
      have hKc : (K : Int) ≤ (cb : Int) := by omega
      go_wp2_with fail
      go_loopw [14, 15, 16] (fun qa qm qj wr => ∃ (j a mn : Nat), qa = .int .i64 (a : Int) ∧ qm = .int .i64 (mn : Int) ∧ qj = .int .i64 (j : Int) ∧ j ≤ n0 ∧ a = (rowE nl sl j).length ∧ mn = (rowZ nl sl j).length ∧ a ≤ K ∧ Below wq.heap.size wq wr)
        (fun _ _ qj _ => n0 - (intOf qj).toNat)
      case atStart => exact ⟨0, 0, 0, rfl, rfl, rfl, by omega, rfl, rfl, by omega, Below.refl _ _⟩
      case round =>
        obtain ⟨j, a, mn, rfl, rfl, rfl, hj, ha, hmn, haK, hbx⟩ := hrel
        by_cases hlt : j < n0
        · have hmx : decide ((j : Int) < (n0 : Int)) = true := by simp; omega
          have hmx2 : decide (j < n0) = true := by simp; omega
          have hj0 : (0 : Int) ≤ (j : Int) := by omega
          have hmn80 : mn ≤ 80 := by have := rowZ_len nl sl j; omega
          have hmw : IntKind.i64.wrap ((mn : Int) + 1) = (mn : Int) + 1 := IntWalk.i64_in _ (by omega)
          have hmw2 : IntKind.i64.wrap ((mn : Int) + 1 + 1) = (mn : Int) + 1 + 1 := IntWalk.i64_in _ (by omega)
          have hm0 : (0 : Int) ≤ (mn : Int) := by omega
          obtain ⟨r, hr⟩ := rowE_at nl sl n0 j hlt
          rw [HE.out] at hr
          have HA := Lib.hid ha
          have HMN := Lib.hid hmn
          have HR := Lib.hid hr
          clear ha hmn hr
          by_cases h0 : j < n0
          · by_cases h1 : j < n1
            · have hc1 : decide ((j : Int) < (n1 : Int)) = true := by simp; omega
              have hi2 : (j : Int) < (n1 : Int) := by omega
              obtain ⟨p1, o1, rfl, hp1, hrow⟩ := (hrs.below (hbx.mono hbr.size)).at_ h1
              have hrrd := hr1.row j h1
              obtain ⟨Ar, Lr, Cr, hR⟩ : ∃ Ar Lr Cr, R j = (Ar, Lr, Cr) := ⟨_, _, _, rfl⟩
              rw [hR] at hrow hrrd
              dsimp only at hrow hrrd
              obtain ⟨ss, hss⟩ : ∃ ss, sl.getD j [] = ss := ⟨_, rfl⟩
              rw [hss] at hrrd
              have HSS := Lib.hid hss
              clear hss hR
              have HLS := Lib.hid (show ss.length = Lr by simpa using hrrd.len1)
              have hL300 : Lr ≤ 300 := by have := hL j hlt h1; rw [HSS.out, HLS.out] at this; exact this
              have hcell0 : ∃ p0 o0, A0 = some ⟨p0, o0, none⟩ ∧ p0 < w.heap.size ∧ wr.cell? ⟨p0, o0 + j, none⟩ = some (.int .u64 ((nl.getD j 0 : Nat) : Int)) := nums_at (hrl.below (hbx.mono hbr.size)) h0
              have hc0 : decide ((j : Int) < (n0 : Int)) = true := by simp; omega
              have hi1 : (j : Int) < (n0 : Int) := by omega
              obtain ⟨v, hv⟩ : ∃ v, nl.getD j 0 = v := ⟨_, rfl⟩
              have hvn : v < 18446744073709551616 := by rw [← hv]; exact hn j
              obtain ⟨p0, o0, rfl, hp0, hcell⟩ := hcell0
              rw [hv] at hcell
              have HV := Lib.hid hv
              clear hv
              have hz1 := rowZ_at1 nl sl n0 j hlt (by rw [hl0.out]; exact h0)
              have hpv : pv nl j = var v := by unfold pv; rw [if_pos (by rw [hl0.out]; exact h0), HV.out]
              rw [hpv, List.length_append, ← HA.out, ← HMN.out] at hz1
              obtain ⟨e1, he1⟩ : ∃ e1, a + (var v).length = e1 := ⟨_, rfl⟩
              rw [he1] at hz1
              obtain ⟨pe, oe, rfl, hpe, hce⟩ := ints_at (hre.below hbx) hz1
              have hmn1 : (mn : Int) < (ne : Int) := by have := (List.getElem?_eq_some_iff.1 hz1).1; have := HNE.out; omega
              have hr1' : E = rowE nl sl j ++ (var v ++ (pb sl j ++ r)) := by rw [HR.out, hpv]
              have hans := tvAns_cut (rowE nl sl j) (pb sl j ++ r) v K hvn (by rw [← HA.out]; exact haK) (by rw [← hr1', hEl]; exact hKle)
              rw [← hr1', ← HA.out, he1] at hans
              have HE1 := Lib.hid he1
              have HPV := Lib.hid hpv
              clear he1 hz1 hpv hr1'
              by_cases hw : e1 ≤ K
              · rw [if_pos hw] at hans
                have hw1 : decide ((e1 : Int) ≤ (K : Int)) = true := by simp; omega
                have hw2 : decide (e1 ≤ K) = true := by simp; omega
                have HANS := Lib.hid hans
                clear hans
                ((try dsimp only); (repeat (first | go_skip | go_guarded | go_step)))
                refine (takeVar_any Ab K cb _ a (E.take K) _ (hcutK _ hbx) (by omega) (by omega) _ _ _ HANS.out).mono ?_
                rintro e w1 ⟨rfl, rfl⟩
                have hz2 := rowZ_at2 nl sl n0 j hlt (by rw [hl1.out]; exact h1)
                have hpb : pb sl j = var Lr ++ ss := by unfold pb; rw [if_pos (by rw [hl1.out]; exact h1), HSS.out, HLS.out]
                have hif : (rowE nl sl j ++ pv nl j).length = e1 := by rw [HPV.out, List.length_append, ← HA.out, HE1.out]
                rw [if_pos (by rw [hl0.out]; exact h0), ← HMN.out] at hz2
                have hans2 := tbAns_cut (rowE nl sl j ++ pv nl j) ss r K 300 (by rw [HLS.out]; exact hL300) (by omega) (by rw [hif]; omega) (by rw [HLS.out, List.append_assoc, ← List.append_assoc (var Lr), ← hpb, ← HR.out, hEl]; exact hKle)
                rw [HLS.out, List.append_assoc, ← List.append_assoc (var Lr), ← hpb, ← HR.out, hif] at hans2
                rw [List.length_append, hif, hpb, List.length_append, HLS.out, ← Nat.add_assoc] at hz2
                obtain ⟨e2, he2⟩ : ∃ e2, e1 + (var Lr).length + Lr = e2 := ⟨_, rfl⟩
                rw [he2] at hz2 hans2
                obtain ⟨pe2, oe2, hpp, hpe2, hce2⟩ := ints_at (hre.below hbx) hz2
                simp only [Option.some.injEq, Addr.mk.injEq] at hpp
                obtain ⟨rfl, rfl, _⟩ := hpp
                have hmn2 : ((mn + 1 : Nat) : Int) < (ne : Int) := by have := (List.getElem?_eq_some_iff.1 hz2).1; have := HNE.out; omega
                have hmn3 : (mn : Int) + 1 < (ne : Int) := by omega
                have hmn4 : (0 : Int) ≤ (mn : Int) + 1 := by omega
                have HE2 := Lib.hid he2
                have HAN2 := Lib.hid hans2
                have HAA := Lib.hid (show e2 = (rowE nl sl (j + 1)).length by rw [rowE, hpb, List.length_append, hif, List.length_append, HLS.out, ← he2, Nat.add_assoc])
                have Hn0 := Lib.hid (show mn + 1 + 1 = (rowZ nl sl (j + 1)).length by rw [rowZ, if_pos (by rw [hl0.out]; exact h0), if_pos (by rw [hl1.out]; exact h1)]; simp [HMN.out])
                clear hz2 he2 hans2 hif hpb
                ((try dsimp only); (repeat (first | go_skip | go_guarded | go_step)))
                by_cases hw3 : e2 ≤ K
                · have HAN3 := Lib.hid (by have := HAN2.out; rw [if_pos hw3] at this; exact this)
                  have hw4 : decide ((e2 : Int) ≤ (K : Int)) = true := by simp; omega
                  have hw5 : decide (e2 ≤ K) = true := by simp; omega
                  refine (takeBytes_any Ab K cb e1 300 (E.take K) _ ((hcutK _ hbx).more hbx.size) (by omega) (by omega) (by omega) (by omega) _ _ _ HAN3.out).mono ?_
                  rintro e w6 ⟨A6, c6, m6, rfl, ho6, hb6⟩
                  have hb6q := hbx.trans (hb6.mono hbx.size)
                  have hrow6 : w6.cell? ⟨p1, o1 + j, none⟩ = some (.slice Ar Lr Cr) := by rw [(hbr.trans (hb6q.mono hbr.size)).cell hp1, ← (hbr.trans (hbx.mono hbr.size)).cell hp1]; exact hrow
                  have hce6 : w6.cell? ⟨pe, oe + (mn + 1), none⟩ = some (.int .i64 (e2 : Int)) := by rw [hb6q.cell hpe, ← hbx.cell hpe]; exact hce2
                  have k1 := run_conv_str (P := Try.prog) w6 22 9 5 Try.underlying22 Try.underlying5 Try.underlying9 _ A6 m6 c6 _ ho6.rd
                  have k2 := run_conv_str (P := Try.prog) w6 22 9 5 Try.underlying22 Try.underlying5 Try.underlying9 _ Ar Lr Cr ss (hrrd.below (hbr.trans (hb6q.mono hbr.size)))
                  have ho6d : Rd w6.drew w6.drew.heap.size 1 A6 m6 (ss.map bv) := ho6.rd.below (Below.refl _ _).drew
                  have hrr6 : Rd w6.drew w.heap.size 1 Ar Lr (ss.map bv) := (hrrd.below (hbr.trans (hb6q.mono hbr.size))).below (Below.refl _ _).drew
                  have hbd : Below wq.heap.size wq w6.drew := hb6q.drew
                  clear k1 k2
                  dsimp only
                  repeat go_step
                  refine wp_region_any (by kernel_rfl) ?_
                  try (change wpAny _ _ _ _ _ _ _ (World.drew _))
                  refine wpAny_meet (b := ?ad107) (fun V => V = World.drew w6) ?cd107 ?rd107
                  case rd107 =>
                    intro hEnd
                    have hf0 : World.drew w6 = World.drew w6 := rfl
                    refine wpAny_take (i := 0) (oi := ?oid108) (v := ?vd108) ?hod108 (by kernel_rfl) ?hfd108 ?hrd108 ?hQd108 ?hyd108 ?restd108
                    case hod108 => (simp only [List.getElem?_toArray, List.getElem?_cons_succ, List.getElem?_cons_zero]; exact rfl)
                    case hfd108 => kernel_rfl
                    case hrd108 => kernel_rfl
                    case hQd108 => exact fun _ _ _ h => h
                    case hyd108 =>
                      refine Or.inl ⟨by rfl, ?_⟩
                      intro w
                      go_simp
                      (try with_reducible rfl)
                    try simp only [Act.put, List.setIfInBounds_toArray, List.set_cons_zero, List.set_cons_succ]
                    refine wpAny_take (i := 1) (oi := ?oid109) (v := ?vd109) ?hod109 (by kernel_rfl) ?hfd109 ?hrd109 ?hQd109 ?hyd109 ?restd109
                    case hod109 => (simp only [List.getElem?_toArray, List.getElem?_cons_succ, List.getElem?_cons_zero]; exact rfl)
                    case hfd109 => kernel_rfl
                    case hrd109 => kernel_rfl
                    case hQd109 => exact fun _ _ _ h => h
                    case hyd109 =>
                      refine Or.inl ⟨by rfl, ?_⟩
                      intro w
                      go_simp
                      (try with_reducible rfl)
                    try simp only [Act.put, List.setIfInBounds_toArray, List.set_cons_zero, List.set_cons_succ]
                    refine wpAny_take (i := 2) (oi := ?oid110) (v := ?vd110) ?hod110 (by kernel_rfl) ?hfd110 ?hrd110 ?hQd110 ?hyd110 ?restd110
                    case hod110 => (simp only [List.getElem?_toArray, List.getElem?_cons_succ, List.getElem?_cons_zero]; exact rfl)
                    case hfd110 => kernel_rfl
                    case hrd110 => kernel_rfl
                    case hQd110 => exact fun _ _ _ h => h
                    case hyd110 =>
                      refine Or.inl ⟨by rfl, ?_⟩
                      intro w
                      go_simp
                      (try with_reducible rfl)
                    try simp only [Act.put, List.setIfInBounds_toArray, List.set_cons_zero, List.set_cons_succ]
                    refine wpAny_take (i := 3) (oi := ?oid111) (v := ?vd111) ?hod111 (by kernel_rfl) ?hfd111 ?hrd111 ?hQd111 ?hyd111 ?restd111
                    case hod111 => (simp only [List.getElem?_toArray, List.getElem?_cons_succ, List.getElem?_cons_zero]; exact rfl)
                    case hfd111 => kernel_rfl
                    case hrd111 => kernel_rfl
                    case hQd111 => exact fun _ _ _ h => h
                    case hyd111 =>
                      refine Or.inl ⟨by rfl, ?_⟩
                      intro w
                      go_simp
                      (try with_reducible rfl)
                    try simp only [Act.put, List.setIfInBounds_toArray, List.set_cons_zero, List.set_cons_succ]
                    refine wpAny_take (i := 4) (oi := ?oid112) (v := ?vd112) ?hod112 (by kernel_rfl) ?hfd112 ?hrd112 ?hQd112 ?hyd112 ?restd112
                    case hod112 => (simp only [List.getElem?_toArray, List.getElem?_cons_succ, List.getElem?_cons_zero]; exact rfl)
                    case hfd112 => kernel_rfl
                    case hrd112 => kernel_rfl
                    case hQd112 => exact fun _ _ _ h => h
                    case hyd112 =>
                      refine Or.inl ⟨by rfl, ?_⟩
                      intro w
                      go_simp
                      (try with_reducible rfl)
                    try simp only [Act.put, List.setIfInBounds_toArray, List.set_cons_zero, List.set_cons_succ]
                    refine wpAny_take (i := 5) (oi := ?oid113) (v := ?vd113) ?hod113 (by kernel_rfl) ?hfd113 ?hrd113 ?hQd113 ?hyd113 ?restd113
                    case hod113 => (simp only [List.getElem?_toArray, List.getElem?_cons_succ, List.getElem?_cons_zero]; exact rfl)
                    case hfd113 => kernel_rfl
                    case hrd113 => kernel_rfl
                    case hQd113 => exact fun _ _ _ h => h
                    case hyd113 =>
                      refine Or.inl ⟨by rfl, ?_⟩
                      intro w
                      go_simp
                      (try with_reducible rfl)
                    try simp only [Act.put, List.setIfInBounds_toArray, List.set_cons_zero, List.set_cons_succ]
                    refine wpAny_take (i := 6) (oi := ?oid114) (v := ?vd114) ?hod114 (by kernel_rfl) ?hfd114 ?hrd114 ?hQd114 ?hyd114 ?restd114
                    case hod114 => (simp only [List.getElem?_toArray, List.getElem?_cons_succ, List.getElem?_cons_zero]; exact rfl)
                    case hfd114 => kernel_rfl
                    case hrd114 => kernel_rfl
                    case hQd114 => exact fun _ _ _ h => h
                    case hyd114 =>
                      refine Or.inl ⟨by rfl, ?_⟩
                      intro w
                      go_simp
                      (try with_reducible rfl)
                    try simp only [Act.put, List.setIfInBounds_toArray, List.set_cons_zero, List.set_cons_succ]
                    refine wpAny_take (i := 7) (oi := ?oid115) (v := ?vd115) ?hod115 (by kernel_rfl) ?hfd115 ?hrd115 ?hQd115 ?hyd115 ?restd115
                    case hod115 => (simp only [List.getElem?_toArray, List.getElem?_cons_succ, List.getElem?_cons_zero]; exact rfl)
                    case hfd115 => kernel_rfl
                    case hrd115 => kernel_rfl
                    case hQd115 => exact fun _ _ _ h => h
                    case hyd115 =>
                      refine Or.inl ⟨by rfl, ?_⟩
                      intro w
                      go_simp
                      (try with_reducible rfl)
                    try simp only [Act.put, List.setIfInBounds_toArray, List.set_cons_zero, List.set_cons_succ]
                    refine wpAny_take (i := 9) (oi := ?oid116) (v := ?vd116) ?hod116 (by kernel_rfl) ?hfd116 ?hrd116 ?hQd116 ?hyd116 ?restd116
                    case hod116 => (simp only [List.getElem?_toArray, List.getElem?_cons_succ, List.getElem?_cons_zero]; exact rfl)
                    case hfd116 => kernel_rfl
                    case hrd116 => kernel_rfl
                    case hQd116 => exact fun _ _ _ h => h
                    case hyd116 =>
                      refine Or.inl ⟨by rfl, ?_⟩
                      intro w
                      go_simp
                      (try with_reducible rfl)
                    try simp only [Act.put, List.setIfInBounds_toArray, List.set_cons_zero, List.set_cons_succ]
                    refine wpAny_take (i := 10) (oi := ?oid117) (v := ?vd117) ?hod117 (by kernel_rfl) ?hfd117 ?hrd117 ?hQd117 ?hyd117 ?restd117
                    case hod117 => (simp only [List.getElem?_toArray, List.getElem?_cons_succ, List.getElem?_cons_zero]; exact rfl)
                    case hfd117 => kernel_rfl
                    case hrd117 => kernel_rfl
                    case hQd117 => exact fun _ _ _ h => h
                    case hyd117 =>
                      refine Or.inl ⟨by rfl, ?_⟩
                      intro w
                      go_simp
                      (try with_reducible rfl)
                    try simp only [Act.put, List.setIfInBounds_toArray, List.set_cons_zero, List.set_cons_succ]
                    refine wpAny_take (i := 11) (oi := ?oid118) (v := ?vd118) ?hod118 (by kernel_rfl) ?hfd118 ?hrd118 ?hQd118 ?hyd118 ?restd118
                    case hod118 => (simp only [List.getElem?_toArray, List.getElem?_cons_succ, List.getElem?_cons_zero]; exact rfl)
                    case hfd118 => kernel_rfl
                    case hrd118 => kernel_rfl
                    case hQd118 => exact fun _ _ _ h => h
                    case hyd118 =>
                      refine Or.inl ⟨by rfl, ?_⟩
                      intro w
                      go_simp
                      (try with_reducible rfl)
                    try simp only [Act.put, List.setIfInBounds_toArray, List.set_cons_zero, List.set_cons_succ]
                    refine wpAny_ready (rs := [8, 12]) (by kernel_rfl) (by simp) ?_
                    refine AllReady.cons (o := ?od119) ?hod119 (fun K hK => ?kd119) ?md119
                    case hod119 => (simp only [List.getElem?_toArray, List.getElem?_cons_succ, List.getElem?_cons_zero]; exact rfl)
                    case kd119 =>
                      refine anyd_str (by rfl) (.tmp 192) rfl _ _ _ _ ss (by rfl) ho6d ?_
                      refine hK _ _ ?_
                      clear hK K
                      try simp only [Act.put, List.setIfInBounds_toArray, List.set_cons_zero, List.set_cons_succ]
                      refine wpAny_ready (rs := [12]) (by kernel_rfl) (by simp) ?_
                      refine AllReady.cons (o := ?od120) ?hod120 (fun K hK => ?kd120) ?md120
                      case hod120 => (simp only [List.getElem?_toArray, List.getElem?_cons_succ, List.getElem?_cons_zero]; exact rfl)
                      case kd120 =>
                        refine anyd_loadS (by rfl) (.tmp 196) rfl p1 (o1 + j) _ (by rfl) hrow6 ?_
                        refine hK _ _ ?_
                        clear hK K
                        try simp only [Act.put, List.setIfInBounds_toArray, List.set_cons_zero, List.set_cons_succ]
                        refine wpAny_ready (rs := [13]) (by kernel_rfl) (by simp) ?_
                        refine AllReady.cons (o := ?od121) ?hod121 (fun K hK => ?kd121) ?md121
                        case hod121 => (simp only [List.getElem?_toArray, List.getElem?_cons_succ, List.getElem?_cons_zero]; exact rfl)
                        case kd121 =>
                          refine anyd_str (by rfl) (.tmp 197) rfl _ _ _ _ ss (by rfl) hrr6 ?_
                          refine hK _ _ ?_
                          clear hK K
                          try simp only [Act.put, List.setIfInBounds_toArray, List.set_cons_zero, List.set_cons_succ]
                          refine wpAny_take (i := 14) (oi := ?oid122) (v := ?vd122) ?hod122 (by kernel_rfl) ?hfd122 ?hrd122 ?hQd122 ?hyd122 ?restd122
                          case hod122 => (simp only [List.getElem?_toArray, List.getElem?_cons_succ, List.getElem?_cons_zero]; exact rfl)
                          case hfd122 => kernel_rfl
                          case hrd122 => kernel_rfl
                          case hQd122 => exact fun _ _ _ h => h
                          case hyd122 =>
                            refine Or.inl ⟨by rfl, ?_⟩
                            intro w
                            go_simp
                            (try with_reducible rfl)
                          try simp only [Act.put, List.setIfInBounds_toArray, List.set_cons_zero, List.set_cons_succ]
                          refine wpAny_take (i := 15) (oi := ?oid123) (v := ?vd123) ?hod123 (by kernel_rfl) ?hfd123 ?hrd123 ?hQd123 ?hyd123 ?restd123
                          case hod123 => (simp only [List.getElem?_toArray, List.getElem?_cons_succ, List.getElem?_cons_zero]; exact rfl)
                          case hfd123 => kernel_rfl
                          case hrd123 => kernel_rfl
                          case hQd123 => exact fun _ _ _ h => h
                          case hyd123 =>
                            refine Or.inl ⟨by rfl, ?_⟩
                            intro w
                            go_simp
                            (try with_reducible rfl)
                          try simp only [Act.put, List.setIfInBounds_toArray, List.set_cons_zero, List.set_cons_succ]
                          refine wpAny_take (i := 16) (oi := ?oid124) (v := ?vd124) ?hod124 (by kernel_rfl) ?hfd124 ?hrd124 ?hQd124 ?hyd124 ?restd124
                          case hod124 => (simp only [List.getElem?_toArray, List.getElem?_cons_succ, List.getElem?_cons_zero]; exact rfl)
                          case hfd124 => kernel_rfl
                          case hrd124 => kernel_rfl
                          case hQd124 => exact fun _ _ _ h => h
                          case hyd124 =>
                            refine Or.inl ⟨by rfl, ?_⟩
                            intro w
                            go_simp
                            (try with_reducible rfl)
                          try simp only [Act.put, List.setIfInBounds_toArray, List.set_cons_zero, List.set_cons_succ]
                          refine wpAny_take (i := 17) (oi := ?oid125) (v := ?vd125) ?hod125 (by kernel_rfl) ?hfd125 ?hrd125 ?hQd125 ?hyd125 ?restd125
                          case hod125 => (simp only [List.getElem?_toArray, List.getElem?_cons_succ, List.getElem?_cons_zero]; exact rfl)
                          case hfd125 => kernel_rfl
                          case hrd125 => kernel_rfl
                          case hQd125 => exact fun _ _ _ h => h
                          case hyd125 =>
                            refine Or.inl ⟨by rfl, ?_⟩
                            intro w
                            go_simp
                            (try with_reducible rfl)
                          try simp only [Act.put, List.setIfInBounds_toArray, List.set_cons_zero, List.set_cons_succ]
                          refine wpAny_take (i := 18) (oi := ?oid126) (v := ?vd126) ?hod126 (by kernel_rfl) ?hfd126 ?hrd126 ?hQd126 ?hyd126 ?restd126
                          case hod126 => (simp only [List.getElem?_toArray, List.getElem?_cons_succ, List.getElem?_cons_zero]; exact rfl)
                          case hfd126 => kernel_rfl
                          case hrd126 => kernel_rfl
                          case hQd126 => exact fun _ _ _ h => h
                          case hyd126 =>
                            refine Or.inl ⟨by rfl, ?_⟩
                            intro w
                            go_simp
                            (try with_reducible rfl)
                          try simp only [Act.put, List.setIfInBounds_toArray, List.set_cons_zero, List.set_cons_succ]
                          refine wpAny_take (i := 19) (oi := ?oid127) (v := ?vd127) ?hod127 (by kernel_rfl) ?hfd127 ?hrd127 ?hQd127 ?hyd127 ?restd127
                          case hod127 => (simp only [List.getElem?_toArray, List.getElem?_cons_succ, List.getElem?_cons_zero]; exact rfl)
                          case hfd127 => kernel_rfl
                          case hrd127 => kernel_rfl
                          case hQd127 => exact fun _ _ _ h => h
                          case hyd127 =>
                            refine Or.inl ⟨by rfl, ?_⟩
                            intro w
                            go_simp
                            (try with_reducible rfl)
                          try simp only [Act.put, List.setIfInBounds_toArray, List.set_cons_zero, List.set_cons_succ]
                          refine wpAny_ready (rs := [20]) (by kernel_rfl) (by simp) ?_
                          refine AllReady.cons (o := ?od128) ?hod128 (fun K hK => ?kd128) ?md128
                          case hod128 => (simp only [List.getElem?_toArray, List.getElem?_cons_succ, List.getElem?_cons_zero]; exact rfl)
                          case kd128 =>
                            refine anyd_loadI (by rfl) (.tmp 204) rfl pe (oe + (mn + 1)) _ (by rfl) hce6 ?_
                            refine hK _ _ ?_
                            clear hK K
                            try simp only [Act.put, List.setIfInBounds_toArray, List.set_cons_zero, List.set_cons_succ]
                            refine wpAny_take (i := 21) (oi := ?oid129) (v := ?vd129) ?hod129 (by kernel_rfl) ?hfd129 ?hrd129 ?hQd129 ?hyd129 ?restd129
                            case hod129 => (simp only [List.getElem?_toArray, List.getElem?_cons_succ, List.getElem?_cons_zero]; exact rfl)
                            case hfd129 => kernel_rfl
                            case hrd129 => kernel_rfl
                            case hQd129 => exact fun _ _ _ h => h
                            case hyd129 =>
                              refine Or.inl ⟨by rfl, ?_⟩
                              intro w
                              go_simp
                              (try with_reducible rfl)
                            try simp only [Act.put, List.setIfInBounds_toArray, List.set_cons_zero, List.set_cons_succ]
                            refine wpAny_take (i := 22) (oi := ?oid130) (v := ?vd130) ?hod130 (by kernel_rfl) ?hfd130 ?hrd130 ?hQd130 ?hyd130 ?restd130
                            case hod130 => (simp only [List.getElem?_toArray, List.getElem?_cons_succ, List.getElem?_cons_zero]; exact rfl)
                            case hfd130 => kernel_rfl
                            case hrd130 => kernel_rfl
                            case hQd130 => exact fun _ _ _ h => h
                            case hyd130 =>
                              refine Or.inl ⟨by rfl, ?_⟩
                              intro w
                              go_simp
                              (try with_reducible rfl)
                            try simp only [Act.put, List.setIfInBounds_toArray, List.set_cons_zero, List.set_cons_succ]
                            refine wpAny_take (i := 23) (oi := ?oid131) (v := ?vd131) ?hod131 (by kernel_rfl) ?hfd131 ?hrd131 ?hQd131 ?hyd131 ?restd131
                            case hod131 => (simp only [List.getElem?_toArray, List.getElem?_cons_succ, List.getElem?_cons_zero]; exact rfl)
                            case hfd131 => kernel_rfl
                            case hrd131 => kernel_rfl
                            case hQd131 => exact fun _ _ _ h => h
                            case hyd131 =>
                              refine Or.inl ⟨by rfl, ?_⟩
                              intro w
                              go_simp
                              (try with_reducible rfl)
                            try simp only [Act.put, List.setIfInBounds_toArray, List.set_cons_zero, List.set_cons_succ]
                            refine wpAny_take (i := 24) (oi := ?oid132) (v := ?vd132) ?hod132 (by kernel_rfl) ?hfd132 ?hrd132 ?hQd132 ?hyd132 ?restd132
                            case hod132 => (simp only [List.getElem?_toArray, List.getElem?_cons_succ, List.getElem?_cons_zero]; exact rfl)
                            case hfd132 => kernel_rfl
                            case hrd132 => kernel_rfl
                            case hQd132 => exact fun _ _ _ h => h
                            case hyd132 =>
                              refine Or.inl ⟨by rfl, ?_⟩
                              intro w
                              go_simp
                              (try with_reducible rfl)
                            try simp only [Act.put, List.setIfInBounds_toArray, List.set_cons_zero, List.set_cons_succ]
                            exact wpAny_done (by kernel_rfl) (hEnd _ hf0) _
                          exact AllReady.nil
                        exact AllReady.nil
                      exact AllReady.nil
                    refine AllReady.cons (o := ?od133) ?hod133 (fun K hK => ?kd133) ?md133
                    case hod133 => (simp only [List.getElem?_toArray, List.getElem?_cons_succ, List.getElem?_cons_zero]; exact rfl)
                    case kd133 =>
                      refine anyd_loadS (by rfl) (.tmp 196) rfl p1 (o1 + j) _ (by rfl) hrow6 ?_
                      refine hK _ _ ?_
                      clear hK K
                      try simp only [Act.put, List.setIfInBounds_toArray, List.set_cons_zero, List.set_cons_succ]
                      refine wpAny_ready (rs := [8, 13]) (by kernel_rfl) (by simp) ?_
                      refine AllReady.cons (o := ?od134) ?hod134 (fun K hK => ?kd134) ?md134
                      case hod134 => (simp only [List.getElem?_toArray, List.getElem?_cons_succ, List.getElem?_cons_zero]; exact rfl)
                      case kd134 =>
                        refine anyd_str (by rfl) (.tmp 192) rfl _ _ _ _ ss (by rfl) ho6d ?_
                        refine hK _ _ ?_
                        clear hK K
                        try simp only [Act.put, List.setIfInBounds_toArray, List.set_cons_zero, List.set_cons_succ]
                        refine wpAny_ready (rs := [13]) (by kernel_rfl) (by simp) ?_
                        refine AllReady.cons (o := ?od135) ?hod135 (fun K hK => ?kd135) ?md135
                        case hod135 => (simp only [List.getElem?_toArray, List.getElem?_cons_succ, List.getElem?_cons_zero]; exact rfl)
                        case kd135 =>
                          refine anyd_str (by rfl) (.tmp 197) rfl _ _ _ _ ss (by rfl) hrr6 ?_
                          refine hK _ _ ?_
                          clear hK K
                          try simp only [Act.put, List.setIfInBounds_toArray, List.set_cons_zero, List.set_cons_succ]
                          refine wpAny_take (i := 14) (oi := ?oid136) (v := ?vd136) ?hod136 (by kernel_rfl) ?hfd136 ?hrd136 ?hQd136 ?hyd136 ?restd136
                          case hod136 => (simp only [List.getElem?_toArray, List.getElem?_cons_succ, List.getElem?_cons_zero]; exact rfl)
                          case hfd136 => kernel_rfl
                          case hrd136 => kernel_rfl
                          case hQd136 => exact fun _ _ _ h => h
                          case hyd136 =>
                            refine Or.inl ⟨by rfl, ?_⟩
                            intro w
                            go_simp
                            (try with_reducible rfl)
                          try simp only [Act.put, List.setIfInBounds_toArray, List.set_cons_zero, List.set_cons_succ]
                          refine wpAny_take (i := 15) (oi := ?oid137) (v := ?vd137) ?hod137 (by kernel_rfl) ?hfd137 ?hrd137 ?hQd137 ?hyd137 ?restd137
                          case hod137 => (simp only [List.getElem?_toArray, List.getElem?_cons_succ, List.getElem?_cons_zero]; exact rfl)
                          case hfd137 => kernel_rfl
                          case hrd137 => kernel_rfl
                          case hQd137 => exact fun _ _ _ h => h
                          case hyd137 =>
                            refine Or.inl ⟨by rfl, ?_⟩
                            intro w
                            go_simp
                            (try with_reducible rfl)
                          try simp only [Act.put, List.setIfInBounds_toArray, List.set_cons_zero, List.set_cons_succ]
                          refine wpAny_take (i := 16) (oi := ?oid138) (v := ?vd138) ?hod138 (by kernel_rfl) ?hfd138 ?hrd138 ?hQd138 ?hyd138 ?restd138
                          case hod138 => (simp only [List.getElem?_toArray, List.getElem?_cons_succ, List.getElem?_cons_zero]; exact rfl)
                          case hfd138 => kernel_rfl
                          case hrd138 => kernel_rfl
                          case hQd138 => exact fun _ _ _ h => h
                          case hyd138 =>
                            refine Or.inl ⟨by rfl, ?_⟩
                            intro w
                            go_simp
                            (try with_reducible rfl)
                          try simp only [Act.put, List.setIfInBounds_toArray, List.set_cons_zero, List.set_cons_succ]
                          refine wpAny_take (i := 17) (oi := ?oid139) (v := ?vd139) ?hod139 (by kernel_rfl) ?hfd139 ?hrd139 ?hQd139 ?hyd139 ?restd139
                          case hod139 => (simp only [List.getElem?_toArray, List.getElem?_cons_succ, List.getElem?_cons_zero]; exact rfl)
                          case hfd139 => kernel_rfl
                          case hrd139 => kernel_rfl
                          case hQd139 => exact fun _ _ _ h => h
                          case hyd139 =>
                            refine Or.inl ⟨by rfl, ?_⟩
                            intro w
                            go_simp
                            (try with_reducible rfl)
                          try simp only [Act.put, List.setIfInBounds_toArray, List.set_cons_zero, List.set_cons_succ]
                          refine wpAny_take (i := 18) (oi := ?oid140) (v := ?vd140) ?hod140 (by kernel_rfl) ?hfd140 ?hrd140 ?hQd140 ?hyd140 ?restd140
                          case hod140 => (simp only [List.getElem?_toArray, List.getElem?_cons_succ, List.getElem?_cons_zero]; exact rfl)
                          case hfd140 => kernel_rfl
                          case hrd140 => kernel_rfl
                          case hQd140 => exact fun _ _ _ h => h
                          case hyd140 =>
                            refine Or.inl ⟨by rfl, ?_⟩
                            intro w
                            go_simp
                            (try with_reducible rfl)
                          try simp only [Act.put, List.setIfInBounds_toArray, List.set_cons_zero, List.set_cons_succ]
                          refine wpAny_take (i := 19) (oi := ?oid141) (v := ?vd141) ?hod141 (by kernel_rfl) ?hfd141 ?hrd141 ?hQd141 ?hyd141 ?restd141
                          case hod141 => (simp only [List.getElem?_toArray, List.getElem?_cons_succ, List.getElem?_cons_zero]; exact rfl)
                          case hfd141 => kernel_rfl
                          case hrd141 => kernel_rfl
                          case hQd141 => exact fun _ _ _ h => h
                          case hyd141 =>
                            refine Or.inl ⟨by rfl, ?_⟩
                            intro w
                            go_simp
                            (try with_reducible rfl)
                          try simp only [Act.put, List.setIfInBounds_toArray, List.set_cons_zero, List.set_cons_succ]
                          refine wpAny_ready (rs := [20]) (by kernel_rfl) (by simp) ?_
                          refine AllReady.cons (o := ?od142) ?hod142 (fun K hK => ?kd142) ?md142
                          case hod142 => (simp only [List.getElem?_toArray, List.getElem?_cons_succ, List.getElem?_cons_zero]; exact rfl)
                          case kd142 =>
                            refine anyd_loadI (by rfl) (.tmp 204) rfl pe (oe + (mn + 1)) _ (by rfl) hce6 ?_
                            refine hK _ _ ?_
                            clear hK K
                            try simp only [Act.put, List.setIfInBounds_toArray, List.set_cons_zero, List.set_cons_succ]
                            refine wpAny_take (i := 21) (oi := ?oid143) (v := ?vd143) ?hod143 (by kernel_rfl) ?hfd143 ?hrd143 ?hQd143 ?hyd143 ?restd143
                            case hod143 => (simp only [List.getElem?_toArray, List.getElem?_cons_succ, List.getElem?_cons_zero]; exact rfl)
                            case hfd143 => kernel_rfl
                            case hrd143 => kernel_rfl
                            case hQd143 => exact fun _ _ _ h => h
                            case hyd143 =>
                              refine Or.inl ⟨by rfl, ?_⟩
                              intro w
                              go_simp
                              (try with_reducible rfl)
                            try simp only [Act.put, List.setIfInBounds_toArray, List.set_cons_zero, List.set_cons_succ]
                            refine wpAny_take (i := 22) (oi := ?oid144) (v := ?vd144) ?hod144 (by kernel_rfl) ?hfd144 ?hrd144 ?hQd144 ?hyd144 ?restd144
                            case hod144 => (simp only [List.getElem?_toArray, List.getElem?_cons_succ, List.getElem?_cons_zero]; exact rfl)
                            case hfd144 => kernel_rfl
                            case hrd144 => kernel_rfl
                            case hQd144 => exact fun _ _ _ h => h
                            case hyd144 =>
                              refine Or.inl ⟨by rfl, ?_⟩
                              intro w
                              go_simp
                              (try with_reducible rfl)
                            try simp only [Act.put, List.setIfInBounds_toArray, List.set_cons_zero, List.set_cons_succ]
                            refine wpAny_take (i := 23) (oi := ?oid145) (v := ?vd145) ?hod145 (by kernel_rfl) ?hfd145 ?hrd145 ?hQd145 ?hyd145 ?restd145
                            case hod145 => (simp only [List.getElem?_toArray, List.getElem?_cons_succ, List.getElem?_cons_zero]; exact rfl)
                            case hfd145 => kernel_rfl
                            case hrd145 => kernel_rfl
                            case hQd145 => exact fun _ _ _ h => h
                            case hyd145 =>
                              refine Or.inl ⟨by rfl, ?_⟩
                              intro w
                              go_simp
                              (try with_reducible rfl)
                            try simp only [Act.put, List.setIfInBounds_toArray, List.set_cons_zero, List.set_cons_succ]
                            refine wpAny_take (i := 24) (oi := ?oid146) (v := ?vd146) ?hod146 (by kernel_rfl) ?hfd146 ?hrd146 ?hQd146 ?hyd146 ?restd146
                            case hod146 => (simp only [List.getElem?_toArray, List.getElem?_cons_succ, List.getElem?_cons_zero]; exact rfl)
                            case hfd146 => kernel_rfl
                            case hrd146 => kernel_rfl
                            case hQd146 => exact fun _ _ _ h => h
                            case hyd146 =>
                              refine Or.inl ⟨by rfl, ?_⟩
                              intro w
                              go_simp
                              (try with_reducible rfl)
                            try simp only [Act.put, List.setIfInBounds_toArray, List.set_cons_zero, List.set_cons_succ]
                            exact wpAny_done (by kernel_rfl) (hEnd _ hf0) _
                          exact AllReady.nil
                        exact AllReady.nil
                      refine AllReady.cons (o := ?od147) ?hod147 (fun K hK => ?kd147) ?md147
                      case hod147 => (simp only [List.getElem?_toArray, List.getElem?_cons_succ, List.getElem?_cons_zero]; exact rfl)
                      case kd147 =>
                        refine anyd_str (by rfl) (.tmp 197) rfl _ _ _ _ ss (by rfl) hrr6 ?_
                        refine hK _ _ ?_
                        clear hK K
                        try simp only [Act.put, List.setIfInBounds_toArray, List.set_cons_zero, List.set_cons_succ]
                        refine wpAny_ready (rs := [8]) (by kernel_rfl) (by simp) ?_
                        refine AllReady.cons (o := ?od148) ?hod148 (fun K hK => ?kd148) ?md148
                        case hod148 => (simp only [List.getElem?_toArray, List.getElem?_cons_succ, List.getElem?_cons_zero]; exact rfl)
                        case kd148 =>
                          refine anyd_str (by rfl) (.tmp 192) rfl _ _ _ _ ss (by rfl) ho6d ?_
                          refine hK _ _ ?_
                          clear hK K
                          try simp only [Act.put, List.setIfInBounds_toArray, List.set_cons_zero, List.set_cons_succ]
                          refine wpAny_take (i := 14) (oi := ?oid149) (v := ?vd149) ?hod149 (by kernel_rfl) ?hfd149 ?hrd149 ?hQd149 ?hyd149 ?restd149
                          case hod149 => (simp only [List.getElem?_toArray, List.getElem?_cons_succ, List.getElem?_cons_zero]; exact rfl)
                          case hfd149 => kernel_rfl
                          case hrd149 => kernel_rfl
                          case hQd149 => exact fun _ _ _ h => h
                          case hyd149 =>
                            refine Or.inl ⟨by rfl, ?_⟩
                            intro w
                            go_simp
                            (try with_reducible rfl)
                          try simp only [Act.put, List.setIfInBounds_toArray, List.set_cons_zero, List.set_cons_succ]
                          refine wpAny_take (i := 15) (oi := ?oid150) (v := ?vd150) ?hod150 (by kernel_rfl) ?hfd150 ?hrd150 ?hQd150 ?hyd150 ?restd150
                          case hod150 => (simp only [List.getElem?_toArray, List.getElem?_cons_succ, List.getElem?_cons_zero]; exact rfl)
                          case hfd150 => kernel_rfl
                          case hrd150 => kernel_rfl
                          case hQd150 => exact fun _ _ _ h => h
                          case hyd150 =>
                            refine Or.inl ⟨by rfl, ?_⟩
                            intro w
                            go_simp
                            (try with_reducible rfl)
                          try simp only [Act.put, List.setIfInBounds_toArray, List.set_cons_zero, List.set_cons_succ]
                          refine wpAny_take (i := 16) (oi := ?oid151) (v := ?vd151) ?hod151 (by kernel_rfl) ?hfd151 ?hrd151 ?hQd151 ?hyd151 ?restd151
                          case hod151 => (simp only [List.getElem?_toArray, List.getElem?_cons_succ, List.getElem?_cons_zero]; exact rfl)
                          case hfd151 => kernel_rfl
                          case hrd151 => kernel_rfl
                          case hQd151 => exact fun _ _ _ h => h
                          case hyd151 =>
                            refine Or.inl ⟨by rfl, ?_⟩
                            intro w
                            go_simp
                            (try with_reducible rfl)
                          try simp only [Act.put, List.setIfInBounds_toArray, List.set_cons_zero, List.set_cons_succ]
                          refine wpAny_take (i := 17) (oi := ?oid152) (v := ?vd152) ?hod152 (by kernel_rfl) ?hfd152 ?hrd152 ?hQd152 ?hyd152 ?restd152
                          case hod152 => (simp only [List.getElem?_toArray, List.getElem?_cons_succ, List.getElem?_cons_zero]; exact rfl)
                          case hfd152 => kernel_rfl
                          case hrd152 => kernel_rfl
                          case hQd152 => exact fun _ _ _ h => h
                          case hyd152 =>
                            refine Or.inl ⟨by rfl, ?_⟩
                            intro w
                            go_simp
                            (try with_reducible rfl)
                          try simp only [Act.put, List.setIfInBounds_toArray, List.set_cons_zero, List.set_cons_succ]
                          refine wpAny_take (i := 18) (oi := ?oid153) (v := ?vd153) ?hod153 (by kernel_rfl) ?hfd153 ?hrd153 ?hQd153 ?hyd153 ?restd153
                          case hod153 => (simp only [List.getElem?_toArray, List.getElem?_cons_succ, List.getElem?_cons_zero]; exact rfl)
                          case hfd153 => kernel_rfl
                          case hrd153 => kernel_rfl
                          case hQd153 => exact fun _ _ _ h => h
                          case hyd153 =>
                            refine Or.inl ⟨by rfl, ?_⟩
                            intro w
                            go_simp
                            (try with_reducible rfl)
                          try simp only [Act.put, List.setIfInBounds_toArray, List.set_cons_zero, List.set_cons_succ]
                          refine wpAny_take (i := 19) (oi := ?oid154) (v := ?vd154) ?hod154 (by kernel_rfl) ?hfd154 ?hrd154 ?hQd154 ?hyd154 ?restd154
                          case hod154 => (simp only [List.getElem?_toArray, List.getElem?_cons_succ, List.getElem?_cons_zero]; exact rfl)
                          case hfd154 => kernel_rfl
                          case hrd154 => kernel_rfl
                          case hQd154 => exact fun _ _ _ h => h
                          case hyd154 =>
                            refine Or.inl ⟨by rfl, ?_⟩
                            intro w
                            go_simp
                            (try with_reducible rfl)
                          try simp only [Act.put, List.setIfInBounds_toArray, List.set_cons_zero, List.set_cons_succ]
                          refine wpAny_ready (rs := [20]) (by kernel_rfl) (by simp) ?_
                          refine AllReady.cons (o := ?od155) ?hod155 (fun K hK => ?kd155) ?md155
                          case hod155 => (simp only [List.getElem?_toArray, List.getElem?_cons_succ, List.getElem?_cons_zero]; exact rfl)
                          case kd155 =>
                            refine anyd_loadI (by rfl) (.tmp 204) rfl pe (oe + (mn + 1)) _ (by rfl) hce6 ?_
                            refine hK _ _ ?_
                            clear hK K
                            try simp only [Act.put, List.setIfInBounds_toArray, List.set_cons_zero, List.set_cons_succ]
                            refine wpAny_take (i := 21) (oi := ?oid156) (v := ?vd156) ?hod156 (by kernel_rfl) ?hfd156 ?hrd156 ?hQd156 ?hyd156 ?restd156
                            case hod156 => (simp only [List.getElem?_toArray, List.getElem?_cons_succ, List.getElem?_cons_zero]; exact rfl)
                            case hfd156 => kernel_rfl
                            case hrd156 => kernel_rfl
                            case hQd156 => exact fun _ _ _ h => h
                            case hyd156 =>
                              refine Or.inl ⟨by rfl, ?_⟩
                              intro w
                              go_simp
                              (try with_reducible rfl)
                            try simp only [Act.put, List.setIfInBounds_toArray, List.set_cons_zero, List.set_cons_succ]
                            refine wpAny_take (i := 22) (oi := ?oid157) (v := ?vd157) ?hod157 (by kernel_rfl) ?hfd157 ?hrd157 ?hQd157 ?hyd157 ?restd157
                            case hod157 => (simp only [List.getElem?_toArray, List.getElem?_cons_succ, List.getElem?_cons_zero]; exact rfl)
                            case hfd157 => kernel_rfl
                            case hrd157 => kernel_rfl
                            case hQd157 => exact fun _ _ _ h => h
                            case hyd157 =>
                              refine Or.inl ⟨by rfl, ?_⟩
                              intro w
                              go_simp
                              (try with_reducible rfl)
                            try simp only [Act.put, List.setIfInBounds_toArray, List.set_cons_zero, List.set_cons_succ]
                            refine wpAny_take (i := 23) (oi := ?oid158) (v := ?vd158) ?hod158 (by kernel_rfl) ?hfd158 ?hrd158 ?hQd158 ?hyd158 ?restd158
                            case hod158 => (simp only [List.getElem?_toArray, List.getElem?_cons_succ, List.getElem?_cons_zero]; exact rfl)
                            case hfd158 => kernel_rfl
                            case hrd158 => kernel_rfl
                            case hQd158 => exact fun _ _ _ h => h
                            case hyd158 =>
                              refine Or.inl ⟨by rfl, ?_⟩
                              intro w
                              go_simp
                              (try with_reducible rfl)
                            try simp only [Act.put, List.setIfInBounds_toArray, List.set_cons_zero, List.set_cons_succ]
                            refine wpAny_take (i := 24) (oi := ?oid159) (v := ?vd159) ?hod159 (by kernel_rfl) ?hfd159 ?hrd159 ?hQd159 ?hyd159 ?restd159
                            case hod159 => (simp only [List.getElem?_toArray, List.getElem?_cons_succ, List.getElem?_cons_zero]; exact rfl)
                            case hfd159 => kernel_rfl
                            case hrd159 => kernel_rfl
                            case hQd159 => exact fun _ _ _ h => h
                            case hyd159 =>
                              refine Or.inl ⟨by rfl, ?_⟩
                              intro w
                              go_simp
                              (try with_reducible rfl)
                            try simp only [Act.put, List.setIfInBounds_toArray, List.set_cons_zero, List.set_cons_succ]
                            exact wpAny_done (by kernel_rfl) (hEnd _ hf0) _
                          exact AllReady.nil
                        exact AllReady.nil
                      exact AllReady.nil
                    exact AllReady.nil
                  case cd107 =>
                    rintro V rfl
                    repeat go_step
                    go_roundw
                    case rel => exact ⟨j + 1, e2, mn + 1 + 1, by go_num, by go_num, by go_num, by omega, HAA.out, Hn0.out, by omega, hbd⟩
                    case measure => simp [intOf]; omega
                · have HAN3 := Lib.hid (by have := HAN2.out; rw [if_neg hw3] at this; exact this)
                  have hw4 : decide ((e2 : Int) ≤ (K : Int)) = false := by simp; omega
                  have hw5 : decide (e2 ≤ K) = false := by simp; omega
                  refine (takeBytes_any Ab K cb e1 300 (E.take K) _ ((hcutK _ hbx).more hbx.size) (by omega) (by omega) (by omega) (by omega) _ _ _ HAN3.out).mono ?_
                  rintro e w6 ⟨A6, c6, m6, rfl, ho6, hb6⟩
                  have hb6q := hbx.trans (hb6.mono hbx.size)
                  have hrow6 : w6.cell? ⟨p1, o1 + j, none⟩ = some (.slice Ar Lr Cr) := by rw [(hbr.trans (hb6q.mono hbr.size)).cell hp1, ← (hbr.trans (hbx.mono hbr.size)).cell hp1]; exact hrow
                  have hce6 : w6.cell? ⟨pe, oe + (mn + 1), none⟩ = some (.int .i64 (e2 : Int)) := by rw [hb6q.cell hpe, ← hbx.cell hpe]; exact hce2
                  have k1 := run_conv_str (P := Try.prog) w6 22 9 5 Try.underlying22 Try.underlying5 Try.underlying9 _ A6 m6 c6 _ ho6.rd
                  have k2 := run_conv_str (P := Try.prog) w6 22 9 5 Try.underlying22 Try.underlying5 Try.underlying9 _ Ar Lr Cr ss (hrrd.below (hbr.trans (hb6q.mono hbr.size)))
                  ((try dsimp only); (repeat (first | go_skip | go_guarded | go_step)))
                  go_quiet (fail)
                  have hbn : Below wq.heap.size wq (w6.drewN nq) := ⟨hb6q.os, hb6q.tape, hb6q.output, hb6q.size, hb6q.block⟩
                  go_wp2_with (go_at_call 9; refine (works_any _).mono ?_; rintro e wk ⟨rfl, hbk⟩)
                  go_ret
                  exact ⟨rfl, (hbr.trans (hbn.mono hbr.size)).trans (hbk.mono (Nat.le_trans hbr.size hbn.size))⟩
              · rw [if_neg hw] at hans
                have hw1 : decide ((e1 : Int) ≤ (K : Int)) = false := by simp; omega
                have hw2 : decide (e1 ≤ K) = false := by simp; omega
                have HANS := Lib.hid hans
                clear hans
                ((try dsimp only); (repeat (first | go_skip | go_guarded | go_step)))
                refine (takeVar_any Ab K cb _ a (E.take K) _ (hcutK _ hbx) (by omega) (by omega) _ _ _ HANS.out).mono ?_
                rintro e w1 ⟨rfl, rfl⟩
                go_wp2_with (go_at_call 9; refine (works_any _).mono ?_; rintro e wk ⟨rfl, hbk⟩)
                go_ret
                exact ⟨rfl, (hbr.trans (hbx.mono hbr.size)).trans (hbk.mono (Nat.le_trans hbr.size hbx.size))⟩
            · have hc1 : decide ((j : Int) < (n1 : Int)) = false := by simp; omega
              have hcell0 : ∃ p0 o0, A0 = some ⟨p0, o0, none⟩ ∧ p0 < w.heap.size ∧ wr.cell? ⟨p0, o0 + j, none⟩ = some (.int .u64 ((nl.getD j 0 : Nat) : Int)) := nums_at (hrl.below (hbx.mono hbr.size)) h0
              have hc0 : decide ((j : Int) < (n0 : Int)) = true := by simp; omega
              have hi1 : (j : Int) < (n0 : Int) := by omega
              obtain ⟨v, hv⟩ : ∃ v, nl.getD j 0 = v := ⟨_, rfl⟩
              have hvn : v < 18446744073709551616 := by rw [← hv]; exact hn j
              obtain ⟨p0, o0, rfl, hp0, hcell⟩ := hcell0
              rw [hv] at hcell
              have HV := Lib.hid hv
              clear hv
              have hz1 := rowZ_at1 nl sl n0 j hlt (by rw [hl0.out]; exact h0)
              have hpv : pv nl j = var v := by unfold pv; rw [if_pos (by rw [hl0.out]; exact h0), HV.out]
              rw [hpv, List.length_append, ← HA.out, ← HMN.out] at hz1
              obtain ⟨e1, he1⟩ : ∃ e1, a + (var v).length = e1 := ⟨_, rfl⟩
              rw [he1] at hz1
              obtain ⟨pe, oe, rfl, hpe, hce⟩ := ints_at (hre.below hbx) hz1
              have hmn1 : (mn : Int) < (ne : Int) := by have := (List.getElem?_eq_some_iff.1 hz1).1; have := HNE.out; omega
              have hr1' : E = rowE nl sl j ++ (var v ++ (pb sl j ++ r)) := by rw [HR.out, hpv]
              have hans := tvAns_cut (rowE nl sl j) (pb sl j ++ r) v K hvn (by rw [← HA.out]; exact haK) (by rw [← hr1', hEl]; exact hKle)
              rw [← hr1', ← HA.out, he1] at hans
              have HE1 := Lib.hid he1
              have HPV := Lib.hid hpv
              clear he1 hz1 hpv hr1'
              by_cases hw : e1 ≤ K
              · rw [if_pos hw] at hans
                have hw1 : decide ((e1 : Int) ≤ (K : Int)) = true := by simp; omega
                have hw2 : decide (e1 ≤ K) = true := by simp; omega
                have HANS := Lib.hid hans
                clear hans
                ((try dsimp only); (repeat (first | go_skip | go_guarded | go_step)))
                refine (takeVar_any Ab K cb _ a (E.take K) _ (hcutK _ hbx) (by omega) (by omega) _ _ _ HANS.out).mono ?_
                rintro e w1 ⟨rfl, rfl⟩
                have hpb0 : pb sl j = [] := by unfold pb; rw [if_neg (by rw [hl1.out]; exact h1)]
                have HAA := Lib.hid (show e1 = (rowE nl sl (j + 1)).length by rw [rowE, HPV.out, hpb0, List.append_nil, List.length_append, ← HA.out, HE1.out])
                have Hn0 := Lib.hid (show mn + 1 = (rowZ nl sl (j + 1)).length by rw [rowZ, if_pos (by rw [hl0.out]; exact h0), if_neg (by rw [hl1.out]; exact h1)]; simp [HMN.out])
                go_wp2_with fail
                go_roundw
                case rel => exact ⟨j + 1, e1, mn + 1, by go_num, by go_num, by go_num, by omega, HAA.out, Hn0.out, by omega, hbx⟩
                case measure => simp [intOf]; omega
              · rw [if_neg hw] at hans
                have hw1 : decide ((e1 : Int) ≤ (K : Int)) = false := by simp; omega
                have hw2 : decide (e1 ≤ K) = false := by simp; omega
                have HANS := Lib.hid hans
                clear hans
                ((try dsimp only); (repeat (first | go_skip | go_guarded | go_step)))
                refine (takeVar_any Ab K cb _ a (E.take K) _ (hcutK _ hbx) (by omega) (by omega) _ _ _ HANS.out).mono ?_
                rintro e w1 ⟨rfl, rfl⟩
                go_wp2_with (go_at_call 9; refine (works_any _).mono ?_; rintro e wk ⟨rfl, hbk⟩)
                go_ret
                exact ⟨rfl, (hbr.trans (hbx.mono hbr.size)).trans (hbk.mono (Nat.le_trans hbr.size hbx.size))⟩
          · omega
        · obtain rfl : n0 = j := by omega
          have hmx : decide ((n0 : Int) < (n0 : Int)) = false := by simp
          have hend : ((a : Int) == (nb : Int)) = true := by rw [ha, HE.out, hEl]; simp
          have HA := Lib.hid ha
          have HMN := Lib.hid hmn
          clear ha hmn
          go_wp2_with (go_at_call 9; refine (works_any _).mono ?_; rintro e wk ⟨rfl, hbk⟩)
          go_ret
          exact ⟨rfl, (hbr.trans (hbx.mono hbr.size)).trans (hbk.mono (Nat.le_trans hbr.size hbx.size))⟩
end Go.Proofs.Ytdoonjldnehbdaa.octetRows
