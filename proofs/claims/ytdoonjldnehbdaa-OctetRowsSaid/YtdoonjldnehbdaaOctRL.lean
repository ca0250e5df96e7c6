/- OctetRows: the walk, side L. -/
import Derived.Test.YtdoonjldnehbdaaOctRh
set_option linter.unusedVariables false
set_option linter.unusedSimpArgs false
namespace Go.Proofs.Ytdoonjldnehbdaa.octetRows
open Go Go.RowKit Go.ChangeShapes Go.WideShapes Go.ChangeAt

set_option maxRecDepth 100000 in
set_option maxHeartbeats 4000000 in
theorem walkL (A0 A1 : Option Addr) (n0 c0 n1 c1 : Nat) (nl : List Nat) (R : Nat → Option Addr × Nat × Nat) (sl : List (List UInt8)) (N : Nat) (w : World)
    (hr0 : Rd w w.heap.size 1 A0 n0 (nl.map nv)) (hn : ∀ i, nl.getD i 0 < 18446744073709551616) (hr1 : Rws w w.heap.size A1 n1 R sl) (hv0 : n0 ≤ 40) (hv1 : n1 ≤ 40) (hN : N < 65536) (hnm : n0 < n1) :
    Calls Try.prog 7 #[.slice A0 n0 c0, .slice A1 n1 c1, .int .u16 (N : Int)] w fun e w' => e = .returned (.bool true) ∧ Below w.heap.size w w' := by
  have hd0 : decide ((40 : Int) < (n0 : Int)) = false := by simp; omega
  have hd1 : decide ((40 : Int) < (n1 : Int)) = false := by simp; omega
  have hl0 := Lib.hid (show nl.length = n0 by simpa using hr0.len1)
  have hl1 := Lib.hid hr1.len
  have hM40 : n1 ≤ 40 := by omega
  have hnm2 : n0 ≤ n1 := by omega
  go_enter Try.func7, Try.ntmps7
  go_wp2_with fail
  go_loopw [7, 8, 9] (fun qb qe qi wr => ∃ (i : Nat) (Ab : Option Addr) (nb cb : Nat) (Ae : Option Addr) (ne ce : Nat), qb = .slice Ab nb cb ∧ qe = .slice Ae ne ce ∧ qi = .int .i64 (i : Int) ∧ i ≤ n1 ∧
      Ow wr w.heap.size Ab cb nb (rowE nl sl i) ∧ wr.ownsRow w.heap.size 3 1 (.slice Ae ne ce) ne ((rowZ nl sl i).map iv) ∧ Below w.heap.size w wr ∧ nb ≤ 320 * i ∧ (∀ k, (Value.slice Ab nb cb).ownBlock = some k → (Value.slice Ae ne ce).ownBlock ≠ some k) ∧ (∀ t, t < i → t < n1 → (sl.getD t []).length ≤ 300))
    (fun _ _ qi _ => n1 - (intOf qi).toNat)
  case atStart => exact ⟨0, none, 0, 0, none, 0, 0, rfl, rfl, rfl, by omega, owNil _ _, World.ownsRow_nil _ _ _ _, Below.refl _ _, by omega, (by intro k h; simp [Value.ownBlock] at h), fun t ht => by omega⟩
  case round =>
    obtain ⟨i, Ab, nb, cb, Ae, ne, ce, rfl, rfl, rfl, hi, hob, hoe, hbr, hnb, hne, hL⟩ := hrel
    by_cases hlt : i < n1
    · have hmx : decide ((i : Int) < (n1 : Int)) = true := by simp; omega
      have hmx2 : decide (i < n1) = true := by simp; omega
      have hi0 : (0 : Int) ≤ (i : Int) := by omega
      have hz := rowZ_len nl sl i
      have hnel : ne = (rowZ nl sl i).length := by have := hoe.1; simpa using this.symm
      have HNE := Lib.hid hnel
      have hne80 : ne ≤ 80 := by omega
      have HOE := Lib.hid hoe
      clear hnel hoe hne
      by_cases h0 : i < n0
      · by_cases h1 : i < n1
        · have hc1 : decide ((i : Int) < (n1 : Int)) = true := by simp; omega
          have hi2 : (i : Int) < (n1 : Int) := by omega
          obtain ⟨p1, o1, rfl, hp1, hrow⟩ := (hr1.below hbr).at_ h1
          have hrrd := hr1.row i h1
          obtain ⟨Ar, Lr, Cr, hR⟩ : ∃ Ar Lr Cr, R i = (Ar, Lr, Cr) := ⟨_, _, _, rfl⟩
          rw [hR] at hrow hrrd
          dsimp only at hrow hrrd
          obtain ⟨ss, hss⟩ : ∃ ss, sl.getD i [] = ss := ⟨_, rfl⟩
          rw [hss] at hrrd
          have HSS := Lib.hid hss
          clear hss hR
          have hcell0 : ∃ p0 o0, A0 = some ⟨p0, o0, none⟩ ∧ p0 < w.heap.size ∧ wr.cell? ⟨p0, o0 + i, none⟩ = some (.int .u64 ((nl.getD i 0 : Nat) : Int)) := nums_at (hr0.below hbr) h0
          have hc0 : decide ((i : Int) < (n0 : Int)) = true := by simp; omega
          have hi1 : (i : Int) < (n0 : Int) := by omega
          obtain ⟨v, hv⟩ : ∃ v, nl.getD i 0 = v := ⟨_, rfl⟩
          have hvn : v < 18446744073709551616 := by rw [← hv]; exact hn i
          obtain ⟨p0, o0, rfl, hp0, hcell⟩ := hcell0
          rw [hv] at hcell
          have HV := Lib.hid hv
          clear hv
          have HLS := Lib.hid (show ss.length = Lr by simpa using hrrd.len1)
          by_cases hbig : 300 < Lr
          · have hgb : decide ((300 : Int) < (Lr : Int)) = true := by simp; omega
            go_wp2_with fail
            refine (putVar_any Ab nb cb _ v _ hob.rd (by omega) (by omega) (by omega)).mono ?_
            rintro e w1 ⟨A2, m2, c2, rfl, ho2, hb2⟩
            rw [Int.toNat_natCast] at ho2
            have hbr2 := hbr.trans (hb2.mono hbr.size)
            have hcell2 : w1.cell? ⟨p0, o0 + i, none⟩ = some (.int .u64 (v : Int)) := by rw [← hcell]; exact hb2.cell (Nat.lt_of_lt_of_le hp0 hbr.size)
            have hm2 : m2 = nb + (var v).length := by have h1 := ho2.len; have h2 := hob.len; simp at h1; omega
            have HM2 := Lib.hid hm2
            clear hm2
            go_wp2_with fail
            go_loop [11, 12] (fun q p => ∃ (f g r : Nat), q = .int .i64 (g : Int) ∧ p = .int .u64 (r : Int) ∧ r < 18446744073709551616 ∧ r < 128 ^ f ∧ f + g = 10 ∧ g + cnt f r = (var v).length) (fun _ p => (intOf p).toNat)
            case atStart => exact ⟨9, 1, v / 128, rfl, rfl, by omega, by omega, rfl, (var_cnt v hvn).symm⟩
            case round =>
              obtain ⟨f, g, r, rfl, rfl, hr, hrf, hfg, hc⟩ := hrel
              have HC := Lib.hid hc
              clear hc
              rcases Nat.eq_zero_or_pos r with rfl | hpos
              · have hg : g = (var v).length := by
                  have := HC.out
                  cases f <;> simp [cnt] at this <;> omega
                have hgm : nb + g = m2 := by rw [HM2.out, hg]
                have hg10 : g ≤ 10 := by have := var_len v; omega
                have hm2b : m2 ≤ 320 * i + 10 := by omega
                have hgw : IntKind.i64.wrap ((nb : Int) + (g : Int)) = (nb : Int) + (g : Int) := IntWalk.i64_in _ (by omega)
                have hgc : ((m2 : Int) == (nb : Int) + (g : Int)) = true := by simp; omega
                have HGM := Lib.hid hgm
                clear hg hgm
                have hoe1 : w1.ownsRow w.heap.size 3 1 (.slice Ae ne ce) ne ((rowZ nl sl i).map iv) := ownBelow HOE.out hb2 (Nat.le_refl _)
                have HOE1 := Lib.hid (World.ownsRow.alloc hoe1 (.cells #[.int .i64 (m2 : Int)] 3))
                clear hoe1
                have hba1 := hbr2.alloc hbr2.size (.cells #[.int .i64 (m2 : Int)] 3)
                go_wp2_with (first
                  | (at_builtin; refine appI _ rfl _ _ rfl w.heap.size Ae ce ne _ rfl HOE1.out _ _ 1 1 [m2] rfl (rdOneI w1 m2) (by omega) hba1.size ?_; intro A3 c3 w3 hoe3 hb3 hg3 hk3; have hbr3 := hba1.trans hb3; obtain ⟨ho3, hd3⟩ := after_app ho2 HOE.out hg3 hk3 hbr.size; have hrow3 : w3.cell? ⟨p1, o1 + i, none⟩ = some (.slice Ar Lr Cr) := by rw [hbr3.cell hp1, ← hbr.cell hp1]; exact hrow)
                  | (go_at_call 9; refine (works_any _).mono ?_; rintro e wk ⟨rfl, hbk⟩))
                go_ret
                exact ⟨rfl, hbr3.trans (hbk.mono hbr3.size)⟩
              · obtain ⟨f, rfl⟩ : ∃ h, f = h + 1 := ⟨f - 1, by
                  rcases f with _ | f
                  · simp at hrf; omega
                  · rfl⟩
                go_wp2
                go_round
                case rel => exact ⟨f, g + 1, r / 128, by go_num, by go_num, by omega, by rw [Nat.pow_succ] at hrf; omega, by omega, by have := HC.out; rw [cnt, if_neg (by omega)] at this; omega⟩
                case measure => simp [intOf]; omega
          · have hgb : decide ((300 : Int) < (Lr : Int)) = false := by simp; omega
            go_wp2_with fail
            refine (putVar_any Ab nb cb _ v _ hob.rd (by omega) (by omega) (by omega)).mono ?_
            rintro e w1 ⟨A2, m2, c2, rfl, ho2, hb2⟩
            rw [Int.toNat_natCast] at ho2
            have hbr2 := hbr.trans (hb2.mono hbr.size)
            have hcell2 : w1.cell? ⟨p0, o0 + i, none⟩ = some (.int .u64 (v : Int)) := by rw [← hcell]; exact hb2.cell (Nat.lt_of_lt_of_le hp0 hbr.size)
            have hm2 : m2 = nb + (var v).length := by have h1 := ho2.len; have h2 := hob.len; simp at h1; omega
            have HM2 := Lib.hid hm2
            clear hm2
            go_wp2_with fail
            go_loop [11, 12] (fun q p => ∃ (f g r : Nat), q = .int .i64 (g : Int) ∧ p = .int .u64 (r : Int) ∧ r < 18446744073709551616 ∧ r < 128 ^ f ∧ f + g = 10 ∧ g + cnt f r = (var v).length) (fun _ p => (intOf p).toNat)
            case atStart => exact ⟨9, 1, v / 128, rfl, rfl, by omega, by omega, rfl, (var_cnt v hvn).symm⟩
            case round =>
              obtain ⟨f, g, r, rfl, rfl, hr, hrf, hfg, hc⟩ := hrel
              have HC := Lib.hid hc
              clear hc
              rcases Nat.eq_zero_or_pos r with rfl | hpos
              · have hg : g = (var v).length := by
                  have := HC.out
                  cases f <;> simp [cnt] at this <;> omega
                have hgm : nb + g = m2 := by rw [HM2.out, hg]
                have hg10 : g ≤ 10 := by have := var_len v; omega
                have hm2b : m2 ≤ 320 * i + 10 := by omega
                have hgw : IntKind.i64.wrap ((nb : Int) + (g : Int)) = (nb : Int) + (g : Int) := IntWalk.i64_in _ (by omega)
                have hgc : ((m2 : Int) == (nb : Int) + (g : Int)) = true := by simp; omega
                have HGM := Lib.hid hgm
                clear hg hgm
                have hoe1 : w1.ownsRow w.heap.size 3 1 (.slice Ae ne ce) ne ((rowZ nl sl i).map iv) := ownBelow HOE.out hb2 (Nat.le_refl _)
                have HOE1 := Lib.hid (World.ownsRow.alloc hoe1 (.cells #[.int .i64 (m2 : Int)] 3))
                clear hoe1
                have hba1 := hbr2.alloc hbr2.size (.cells #[.int .i64 (m2 : Int)] 3)
                go_wp2_with (first
                  | (at_builtin; refine appI _ rfl _ _ rfl w.heap.size Ae ce ne _ rfl HOE1.out _ _ 1 1 [m2] rfl (rdOneI w1 m2) (by omega) hba1.size ?_; intro A3 c3 w3 hoe3 hb3 hg3 hk3; have hbr3 := hba1.trans hb3; obtain ⟨ho3, hd3⟩ := after_app ho2 HOE.out hg3 hk3 hbr.size; have hrow3 : w3.cell? ⟨p1, o1 + i, none⟩ = some (.slice Ar Lr Cr) := by rw [hbr3.cell hp1, ← hbr.cell hp1]; exact hrow))
                have hpv : pv nl i = var v := by unfold pv; rw [if_pos (by rw [hl0.out]; exact h0), HV.out]
                have hpb : pb sl i = var Lr ++ ss := by unfold pb; rw [if_pos (by rw [hl1.out]; exact h1), HSS.out, HLS.out]
                go_wp2_with fail
                refine (putBytes_any A2 m2 c2 _ Ar Lr Cr ss _ ho3.rd ((hrrd.below hbr3).more hbr3.size) (by omega)).mono ?_
                rintro e w4 ⟨A4, m4, c4, rfl, ho4, hb4⟩
                have hbr4 := hbr3.trans (hb4.mono hbr3.size)
                have hm4 : m4 ≤ 320 * i + 320 := by have h1 := ho4.len; have h2 := ho3.len; have h3 := var_len Lr; have h4 := HLS.out; simp only [List.length_append] at h1; (try simp only [List.length_append] at h2); omega
                have hoe4 : w4.ownsRow w.heap.size 3 1 (.slice A3 (ne + 1) c3) (ne + 1) _ := ownBelow hoe3 hb4 (Nat.le_refl _)
                have HOE4 := Lib.hid (World.ownsRow.alloc hoe4 (.cells #[.int .i64 (m4 : Int)] 3))
                clear hoe4
                have hba4 := hbr4.alloc hbr4.size (.cells #[.int .i64 (m4 : Int)] 3)
                go_wp2_with (at_builtin; refine appI _ rfl _ _ rfl w.heap.size A3 c3 (ne + 1) _ rfl HOE4.out _ _ 1 1 [m4] rfl (rdOneI w4 m4) (by omega) hba4.size ?_; intro A5 c5 w5 hoe5 hb5 hg5 hk5; have hbr5 := hba4.trans hb5; obtain ⟨ho5, hd5⟩ := after_app ho4 hoe3 hg5 hk5 hbr3.size)
                go_roundw
                case rel => 
                  exact ⟨i + 1, A4, m4, c4, A5, ne + 1 + 1, c5, rfl, rfl, by go_num, by omega,
                    by (rw [rowE, hpv, hpb]; simpa using ho5), by (rw [rowZ, if_pos (by rw [hl0.out]; exact h0), if_pos (by rw [hl1.out]; exact h1), hpv, hpb]; have e1 := ho2.len; have e2 := ho4.len; simp only [List.append_assoc] at e1 e2 hoe5 ⊢; rw [e1, e2]; exact hoe5), hbr5, by omega, hd5, fun t ht ht1 => by
                      by_cases e : t = i
                      · rw [e, HSS.out, HLS.out]; omega
                      · exact hL t (by omega) ht1⟩
                case measure => simp [intOf]; omega
              · obtain ⟨f, rfl⟩ : ∃ h, f = h + 1 := ⟨f - 1, by
                  rcases f with _ | f
                  · simp at hrf; omega
                  · rfl⟩
                go_wp2
                go_round
                case rel => exact ⟨f, g + 1, r / 128, by go_num, by go_num, by omega, by rw [Nat.pow_succ] at hrf; omega, by omega, by have := HC.out; rw [cnt, if_neg (by omega)] at this; omega⟩
                case measure => simp [intOf]; omega
        · omega
      · have h1 : i < n1 := by omega
        have hc1 : decide ((i : Int) < (n1 : Int)) = true := by simp; omega
        have hi2 : (i : Int) < (n1 : Int) := by omega
        obtain ⟨p1, o1, rfl, hp1, hrow⟩ := (hr1.below hbr).at_ h1
        have hrrd := hr1.row i h1
        obtain ⟨Ar, Lr, Cr, hR⟩ : ∃ Ar Lr Cr, R i = (Ar, Lr, Cr) := ⟨_, _, _, rfl⟩
        rw [hR] at hrow hrrd
        dsimp only at hrow hrrd
        obtain ⟨ss, hss⟩ : ∃ ss, sl.getD i [] = ss := ⟨_, rfl⟩
        rw [hss] at hrrd
        have HSS := Lib.hid hss
        clear hss hR
        have hc0 : decide ((i : Int) < (n0 : Int)) = false := by simp; omega
        have HLS := Lib.hid (show ss.length = Lr by simpa using hrrd.len1)
        by_cases hbig : 300 < Lr
        · have hgb : decide ((300 : Int) < (Lr : Int)) = true := by simp; omega
          go_wp2_with (go_at_call 9; refine (works_any _).mono ?_; rintro e wk ⟨rfl, hbk⟩)
          go_ret
          exact ⟨rfl, hbr.trans (hbk.mono hbr.size)⟩
        · have hgb : decide ((300 : Int) < (Lr : Int)) = false := by simp; omega
          have hpv : pv nl i = [] := by unfold pv; rw [if_neg (by rw [hl0.out]; exact h0)]
          have hpb : pb sl i = var Lr ++ ss := by unfold pb; rw [if_pos (by rw [hl1.out]; exact h1), HSS.out, HLS.out]
          go_wp2_with fail
          refine (putBytes_any Ab nb cb _ Ar Lr Cr ss _ hob.rd ((hrrd.below hbr).more hbr.size) (by omega)).mono ?_
          rintro e w4 ⟨A4, m4, c4, rfl, ho4, hb4⟩
          have hbr4 := hbr.trans (hb4.mono hbr.size)
          have hm4 : m4 ≤ 320 * i + 320 := by have h1 := ho4.len; have h2 := hob.len; have h3 := var_len Lr; have h4 := HLS.out; simp only [List.length_append] at h1; (try simp only [List.length_append] at h2); omega
          have hoe4 : w4.ownsRow w.heap.size 3 1 (.slice Ae (ne) ce) (ne) _ := ownBelow HOE.out hb4 (Nat.le_refl _)
          have HOE4 := Lib.hid (World.ownsRow.alloc hoe4 (.cells #[.int .i64 (m4 : Int)] 3))
          clear hoe4
          have hba4 := hbr4.alloc hbr4.size (.cells #[.int .i64 (m4 : Int)] 3)
          go_wp2_with (at_builtin; refine appI _ rfl _ _ rfl w.heap.size Ae ce (ne) _ rfl HOE4.out _ _ 1 1 [m4] rfl (rdOneI w4 m4) (by omega) hba4.size ?_; intro A5 c5 w5 hoe5 hb5 hg5 hk5; have hbr5 := hba4.trans hb5; obtain ⟨ho5, hd5⟩ := after_app ho4 HOE.out hg5 hk5 hbr.size)
          go_roundw
          case rel => 
            exact ⟨i + 1, A4, m4, c4, A5, ne + 1, c5, rfl, rfl, by go_num, by omega,
              by (rw [rowE, hpv, hpb]; simpa using ho5), by (rw [rowZ, if_neg (by rw [hl0.out]; exact h0), if_pos (by rw [hl1.out]; exact h1), hpv, hpb]; have e2 := ho4.len; rw [List.append_nil, List.append_nil, ← List.append_assoc, e2]; exact hoe5), hbr5, by omega, hd5, fun t ht ht1 => by
                by_cases e : t = i
                · rw [e, HSS.out, HLS.out]; omega
                · exact hL t (by omega) ht1⟩
          case measure => simp [intOf]; omega
    · obtain rfl : n1 = i := by omega
      obtain ⟨wq, hwq⟩ : ∃ wq, wq = wr := ⟨_, rfl⟩
      subst hwq
      have hmx : decide ((n1 : Int) < (n1 : Int)) = false := by simp
      have hcb := hob.le
      have hEl := hob.len
      obtain ⟨E, hE⟩ : ∃ E, rowE nl sl n1 = E := ⟨_, rfl⟩
      have HE := Lib.hid hE
      have hrb := hob.rd
      rw [hE] at hrb hEl
      have hre : Rd wq wq.heap.size 1 Ae ne ((rowZ nl sl n1).map iv) := Rd.ofOwn hoe
      have hrl := hr0.below hbr
      have hrs := hr1.below hbr
      have hsz := hbr.size
      have hnel : ne = (rowZ nl sl n1).length := by have := hoe.1; simpa using this.symm
      have hne80 : ne ≤ 80 := by have := rowZ_len nl sl n1; omega
      have HNE := Lib.hid hnel
      clear hob hoe hne hnel hE
      obtain ⟨K, hK⟩ : ∃ K, N % (nb + 1) = K := ⟨_, rfl⟩
      have hKle : K ≤ nb := by have := Nat.mod_lt N (show 0 < nb + 1 by omega); omega
      have hk1 : (N : Int) % ((nb : Int) + 1) = (K : Int) := by rw [← hK]; simp
      have hk2 : Int.tmod (N : Int) ((nb : Int) + 1) = (K : Int) := by rw [Int.tmod_eq_emod_of_nonneg (by omega)]; exact hk1
      have hk3 : ((nb : Int) + 1 == 0) = false := by simp; omega
      have hk4 : IntKind.i64.wrap ((nb : Int) + 1) = (nb : Int) + 1 := IntWalk.i64_in _ (by omega)
      clear hK
      have hcutK : ∀ W : World, Below wq.heap.size wq W → Rd W wq.heap.size 1 Ab K ((E.take K).map bv) := by
        intro W hW
        have h := (hrb.below hW).cut (k := 0) (m := K) (cap := cb) (by omega) hKle hcb
        have hA : (if cb = 0 then Ab else Ab.map (fun y => y.add (0 * 1))) = Ab := by
          split
          · rfl
          · cases Ab <;> simp [Addr.add]
        rw [hA] at h
        simpa using h
      have hK0 : (0 : Int) ≤ (K : Int) := by omega
      have hKc : (K : Int) ≤ (cb : Int) := by omega
      go_wp2_with fail
      go_loopw [14, 15, 16] (fun qa qm qj wr => ∃ (j a mn : Nat), qa = .int .i64 (a : Int) ∧ qm = .int .i64 (mn : Int) ∧ qj = .int .i64 (j : Int) ∧ j ≤ n1 ∧ a = (rowE nl sl j).length ∧ mn = (rowZ nl sl j).length ∧ a ≤ K ∧ Below wq.heap.size wq wr)
        (fun _ _ qj _ => n1 - (intOf qj).toNat)
      case atStart => exact ⟨0, 0, 0, rfl, rfl, rfl, by omega, rfl, rfl, by omega, Below.refl _ _⟩
      case round =>
        obtain ⟨j, a, mn, rfl, rfl, rfl, hj, ha, hmn, haK, hbx⟩ := hrel
        by_cases hlt : j < n1
        · have hmx : decide ((j : Int) < (n1 : Int)) = true := by simp; omega
          have hmx2 : decide (j < n1) = true := by simp; omega
          have hj0 : (0 : Int) ≤ (j : Int) := by omega
          have hmn80 : mn ≤ 80 := by have := rowZ_len nl sl j; omega
          have hmw : IntKind.i64.wrap ((mn : Int) + 1) = (mn : Int) + 1 := IntWalk.i64_in _ (by omega)
          have hmw2 : IntKind.i64.wrap ((mn : Int) + 1 + 1) = (mn : Int) + 1 + 1 := IntWalk.i64_in _ (by omega)
          have hm0 : (0 : Int) ≤ (mn : Int) := by omega
          obtain ⟨r, hr⟩ := rowE_at nl sl n1 j hlt
          rw [HE.out] at hr
          have HA := Lib.hid ha
          have HMN := Lib.hid hmn
          have HR := Lib.hid hr
          clear ha hmn hr
          by_cases h0 : j < n0
          · by_cases h1 : j < n1
            · have hc1 : decide ((j : Int) < (n1 : Int)) = true := by simp; omega
              have hi2 : (j : Int) < (n1 : Int) := by omega
              obtain ⟨p1, o1, rfl, hp1, hrow⟩ := (hrs.below (hbx.mono hbr.size)).at_ h1
              have hrrd := hr1.row j h1
              obtain ⟨Ar, Lr, Cr, hR⟩ : ∃ Ar Lr Cr, R j = (Ar, Lr, Cr) := ⟨_, _, _, rfl⟩
              rw [hR] at hrow hrrd
              dsimp only at hrow hrrd
              obtain ⟨ss, hss⟩ : ∃ ss, sl.getD j [] = ss := ⟨_, rfl⟩
              rw [hss] at hrrd
              have HSS := Lib.hid hss
              clear hss hR
              have HLS := Lib.hid (show ss.length = Lr by simpa using hrrd.len1)
              have hL300 : Lr ≤ 300 := by have := hL j hlt h1; rw [HSS.out, HLS.out] at this; exact this
              have hcell0 : ∃ p0 o0, A0 = some ⟨p0, o0, none⟩ ∧ p0 < w.heap.size ∧ wr.cell? ⟨p0, o0 + j, none⟩ = some (.int .u64 ((nl.getD j 0 : Nat) : Int)) := nums_at (hrl.below (hbx.mono hbr.size)) h0
              have hc0 : decide ((j : Int) < (n0 : Int)) = true := by simp; omega
              have hi1 : (j : Int) < (n0 : Int) := by omega
              obtain ⟨v, hv⟩ : ∃ v, nl.getD j 0 = v := ⟨_, rfl⟩
              have hvn : v < 18446744073709551616 := by rw [← hv]; exact hn j
              obtain ⟨p0, o0, rfl, hp0, hcell⟩ := hcell0
              rw [hv] at hcell
              have HV := Lib.hid hv
              clear hv
              have hz1 := rowZ_at1 nl sl n1 j hlt (by rw [hl0.out]; exact h0)
              have hpv : pv nl j = var v := by unfold pv; rw [if_pos (by rw [hl0.out]; exact h0), HV.out]
              rw [hpv, List.length_append, ← HA.out, ← HMN.out] at hz1
              obtain ⟨e1, he1⟩ : ∃ e1, a + (var v).length = e1 := ⟨_, rfl⟩
              rw [he1] at hz1
              obtain ⟨pe, oe, rfl, hpe, hce⟩ := ints_at (hre.below hbx) hz1
              have hmn1 : (mn : Int) < (ne : Int) := by have := (List.getElem?_eq_some_iff.1 hz1).1; have := HNE.out; omega
              have hr1' : E = rowE nl sl j ++ (var v ++ (pb sl j ++ r)) := by rw [HR.out, hpv]
              have hans := tvAns_cut (rowE nl sl j) (pb sl j ++ r) v K hvn (by rw [← HA.out]; exact haK) (by rw [← hr1', hEl]; exact hKle)
              rw [← hr1', ← HA.out, he1] at hans
              have HE1 := Lib.hid he1
              have HPV := Lib.hid hpv
              clear he1 hz1 hpv hr1'
              by_cases hw : e1 ≤ K
              · rw [if_pos hw] at hans
                have hw1 : decide ((e1 : Int) ≤ (K : Int)) = true := by simp; omega
                have hw2 : decide (e1 ≤ K) = true := by simp; omega
                have HANS := Lib.hid hans
                clear hans
                ((try dsimp only); (repeat (first | go_skip | go_guarded | go_step)))
                refine (takeVar_any Ab K cb _ a (E.take K) _ (hcutK _ hbx) (by omega) (by omega) _ _ _ HANS.out).mono ?_
                rintro e w1 ⟨rfl, rfl⟩
                have hz2 := rowZ_at2 nl sl n1 j hlt (by rw [hl1.out]; exact h1)
                have hpb : pb sl j = var Lr ++ ss := by unfold pb; rw [if_pos (by rw [hl1.out]; exact h1), HSS.out, HLS.out]
                have hif : (rowE nl sl j ++ pv nl j).length = e1 := by rw [HPV.out, List.length_append, ← HA.out, HE1.out]
                rw [if_pos (by rw [hl0.out]; exact h0), ← HMN.out] at hz2
                have hans2 := tbAns_cut (rowE nl sl j ++ pv nl j) ss r K 300 (by rw [HLS.out]; exact hL300) (by omega) (by rw [hif]; omega) (by rw [HLS.out, List.append_assoc, ← List.append_assoc (var Lr), ← hpb, ← HR.out, hEl]; exact hKle)
                rw [HLS.out, List.append_assoc, ← List.append_assoc (var Lr), ← hpb, ← HR.out, hif] at hans2
                rw [List.length_append, hif, hpb, List.length_append, HLS.out, ← Nat.add_assoc] at hz2
                obtain ⟨e2, he2⟩ : ∃ e2, e1 + (var Lr).length + Lr = e2 := ⟨_, rfl⟩
                rw [he2] at hz2 hans2
                obtain ⟨pe2, oe2, hpp, hpe2, hce2⟩ := ints_at (hre.below hbx) hz2
                simp only [Option.some.injEq, Addr.mk.injEq] at hpp
                obtain ⟨rfl, rfl, _⟩ := hpp
                have hmn2 : ((mn + 1 : Nat) : Int) < (ne : Int) := by have := (List.getElem?_eq_some_iff.1 hz2).1; have := HNE.out; omega
                have hmn3 : (mn : Int) + 1 < (ne : Int) := by omega
                have hmn4 : (0 : Int) ≤ (mn : Int) + 1 := by omega
                have HE2 := Lib.hid he2
                have HAN2 := Lib.hid hans2
                have HAA := Lib.hid (show e2 = (rowE nl sl (j + 1)).length by rw [rowE, hpb, List.length_append, hif, List.length_append, HLS.out, ← he2, Nat.add_assoc])
                have Hn1 := Lib.hid (show mn + 1 + 1 = (rowZ nl sl (j + 1)).length by rw [rowZ, if_pos (by rw [hl0.out]; exact h0), if_pos (by rw [hl1.out]; exact h1)]; simp [HMN.out])
                clear hz2 he2 hans2 hif hpb
                ((try dsimp only); (repeat (first | go_skip | go_guarded | go_step)))
                by_cases hw3 : e2 ≤ K
                · have HAN3 := Lib.hid (by have := HAN2.out; rw [if_pos hw3] at this; exact this)
                  have hw4 : decide ((e2 : Int) ≤ (K : Int)) = true := by simp; omega
                  have hw5 : decide (e2 ≤ K) = true := by simp; omega
                  refine (takeBytes_any Ab K cb e1 300 (E.take K) _ ((hcutK _ hbx).more hbx.size) (by omega) (by omega) (by omega) (by omega) _ _ _ HAN3.out).mono ?_
                  rintro e w6 ⟨A6, c6, m6, rfl, ho6, hb6⟩
                  have hb6q := hbx.trans (hb6.mono hbx.size)
                  have hrow6 : w6.cell? ⟨p1, o1 + j, none⟩ = some (.slice Ar Lr Cr) := by rw [(hbr.trans (hb6q.mono hbr.size)).cell hp1, ← (hbr.trans (hbx.mono hbr.size)).cell hp1]; exact hrow
                  have hce6 : w6.cell? ⟨pe, oe + (mn + 1), none⟩ = some (.int .i64 (e2 : Int)) := by rw [hb6q.cell hpe, ← hbx.cell hpe]; exact hce2
                  have k1 := run_conv_str (P := Try.prog) w6 22 9 5 Try.underlying22 Try.underlying5 Try.underlying9 _ A6 m6 c6 _ ho6.rd
                  have k2 := run_conv_str (P := Try.prog) w6 22 9 5 Try.underlying22 Try.underlying5 Try.underlying9 _ Ar Lr Cr ss (hrrd.below (hbr.trans (hb6q.mono hbr.size)))
                  have ho6d : Rd w6.drew w6.drew.heap.size 1 A6 m6 (ss.map bv) := ho6.rd.below (Below.refl _ _).drew
                  have hrr6 : Rd w6.drew w.heap.size 1 Ar Lr (ss.map bv) := (hrrd.below (hbr.trans (hb6q.mono hbr.size))).below (Below.refl _ _).drew
                  have hbd : Below wq.heap.size wq w6.drew := hb6q.drew
                  clear k1 k2
                  dsimp only
                  repeat go_step
                  refine wp_region_any (by kernel_rfl) ?_
                  try (change wpAny _ _ _ _ _ _ _ (World.drew _))
                  refine wpAny_meet (b := ?ad1) (fun V => V = World.drew w6) ?cd1 ?rd1
                  case rd1 =>
                    intro hEnd
                    have hf0 : World.drew w6 = World.drew w6 := rfl
                    refine wpAny_take (i := 0) (oi := ?oid2) (v := ?vd2) ?hod2 (by kernel_rfl) ?hfd2 ?hrd2 ?hQd2 ?hyd2 ?restd2
                    case hod2 => (simp only [List.getElem?_toArray, List.getElem?_cons_succ, List.getElem?_cons_zero]; exact rfl)
                    case hfd2 => kernel_rfl
                    case hrd2 => kernel_rfl
                    case hQd2 => exact fun _ _ _ h => h
                    case hyd2 =>
                      refine Or.inl ⟨by rfl, ?_⟩
                      intro w
                      go_simp
                      (try with_reducible rfl)
                    try simp only [Act.put, List.setIfInBounds_toArray, List.set_cons_zero, List.set_cons_succ]
                    refine wpAny_take (i := 1) (oi := ?oid3) (v := ?vd3) ?hod3 (by kernel_rfl) ?hfd3 ?hrd3 ?hQd3 ?hyd3 ?restd3
                    case hod3 => (simp only [List.getElem?_toArray, List.getElem?_cons_succ, List.getElem?_cons_zero]; exact rfl)
                    case hfd3 => kernel_rfl
                    case hrd3 => kernel_rfl
                    case hQd3 => exact fun _ _ _ h => h
                    case hyd3 =>
                      refine Or.inl ⟨by rfl, ?_⟩
                      intro w
                      go_simp
                      (try with_reducible rfl)
                    try simp only [Act.put, List.setIfInBounds_toArray, List.set_cons_zero, List.set_cons_succ]
                    refine wpAny_take (i := 2) (oi := ?oid4) (v := ?vd4) ?hod4 (by kernel_rfl) ?hfd4 ?hrd4 ?hQd4 ?hyd4 ?restd4
                    case hod4 => (simp only [List.getElem?_toArray, List.getElem?_cons_succ, List.getElem?_cons_zero]; exact rfl)
                    case hfd4 => kernel_rfl
                    case hrd4 => kernel_rfl
                    case hQd4 => exact fun _ _ _ h => h
                    case hyd4 =>
                      refine Or.inl ⟨by rfl, ?_⟩
                      intro w
                      go_simp
                      (try with_reducible rfl)
                    try simp only [Act.put, List.setIfInBounds_toArray, List.set_cons_zero, List.set_cons_succ]
                    refine wpAny_take (i := 3) (oi := ?oid5) (v := ?vd5) ?hod5 (by kernel_rfl) ?hfd5 ?hrd5 ?hQd5 ?hyd5 ?restd5
                    case hod5 => (simp only [List.getElem?_toArray, List.getElem?_cons_succ, List.getElem?_cons_zero]; exact rfl)
                    case hfd5 => kernel_rfl
                    case hrd5 => kernel_rfl
                    case hQd5 => exact fun _ _ _ h => h
                    case hyd5 =>
                      refine Or.inl ⟨by rfl, ?_⟩
                      intro w
                      go_simp
                      (try with_reducible rfl)
                    try simp only [Act.put, List.setIfInBounds_toArray, List.set_cons_zero, List.set_cons_succ]
                    refine wpAny_take (i := 4) (oi := ?oid6) (v := ?vd6) ?hod6 (by kernel_rfl) ?hfd6 ?hrd6 ?hQd6 ?hyd6 ?restd6
                    case hod6 => (simp only [List.getElem?_toArray, List.getElem?_cons_succ, List.getElem?_cons_zero]; exact rfl)
                    case hfd6 => kernel_rfl
                    case hrd6 => kernel_rfl
                    case hQd6 => exact fun _ _ _ h => h
                    case hyd6 =>
                      refine Or.inl ⟨by rfl, ?_⟩
                      intro w
                      go_simp
                      (try with_reducible rfl)
                    try simp only [Act.put, List.setIfInBounds_toArray, List.set_cons_zero, List.set_cons_succ]
                    refine wpAny_take (i := 5) (oi := ?oid7) (v := ?vd7) ?hod7 (by kernel_rfl) ?hfd7 ?hrd7 ?hQd7 ?hyd7 ?restd7
                    case hod7 => (simp only [List.getElem?_toArray, List.getElem?_cons_succ, List.getElem?_cons_zero]; exact rfl)
                    case hfd7 => kernel_rfl
                    case hrd7 => kernel_rfl
                    case hQd7 => exact fun _ _ _ h => h
                    case hyd7 =>
                      refine Or.inl ⟨by rfl, ?_⟩
                      intro w
                      go_simp
                      (try with_reducible rfl)
                    try simp only [Act.put, List.setIfInBounds_toArray, List.set_cons_zero, List.set_cons_succ]
                    refine wpAny_take (i := 6) (oi := ?oid8) (v := ?vd8) ?hod8 (by kernel_rfl) ?hfd8 ?hrd8 ?hQd8 ?hyd8 ?restd8
                    case hod8 => (simp only [List.getElem?_toArray, List.getElem?_cons_succ, List.getElem?_cons_zero]; exact rfl)
                    case hfd8 => kernel_rfl
                    case hrd8 => kernel_rfl
                    case hQd8 => exact fun _ _ _ h => h
                    case hyd8 =>
                      refine Or.inl ⟨by rfl, ?_⟩
                      intro w
                      go_simp
                      (try with_reducible rfl)
                    try simp only [Act.put, List.setIfInBounds_toArray, List.set_cons_zero, List.set_cons_succ]
                    refine wpAny_take (i := 7) (oi := ?oid9) (v := ?vd9) ?hod9 (by kernel_rfl) ?hfd9 ?hrd9 ?hQd9 ?hyd9 ?restd9
                    case hod9 => (simp only [List.getElem?_toArray, List.getElem?_cons_succ, List.getElem?_cons_zero]; exact rfl)
                    case hfd9 => kernel_rfl
                    case hrd9 => kernel_rfl
                    case hQd9 => exact fun _ _ _ h => h
                    case hyd9 =>
                      refine Or.inl ⟨by rfl, ?_⟩
                      intro w
                      go_simp
                      (try with_reducible rfl)
                    try simp only [Act.put, List.setIfInBounds_toArray, List.set_cons_zero, List.set_cons_succ]
                    refine wpAny_take (i := 9) (oi := ?oid10) (v := ?vd10) ?hod10 (by kernel_rfl) ?hfd10 ?hrd10 ?hQd10 ?hyd10 ?restd10
                    case hod10 => (simp only [List.getElem?_toArray, List.getElem?_cons_succ, List.getElem?_cons_zero]; exact rfl)
                    case hfd10 => kernel_rfl
                    case hrd10 => kernel_rfl
                    case hQd10 => exact fun _ _ _ h => h
                    case hyd10 =>
                      refine Or.inl ⟨by rfl, ?_⟩
                      intro w
                      go_simp
                      (try with_reducible rfl)
                    try simp only [Act.put, List.setIfInBounds_toArray, List.set_cons_zero, List.set_cons_succ]
                    refine wpAny_take (i := 10) (oi := ?oid11) (v := ?vd11) ?hod11 (by kernel_rfl) ?hfd11 ?hrd11 ?hQd11 ?hyd11 ?restd11
                    case hod11 => (simp only [List.getElem?_toArray, List.getElem?_cons_succ, List.getElem?_cons_zero]; exact rfl)
                    case hfd11 => kernel_rfl
                    case hrd11 => kernel_rfl
                    case hQd11 => exact fun _ _ _ h => h
                    case hyd11 =>
                      refine Or.inl ⟨by rfl, ?_⟩
                      intro w
                      go_simp
                      (try with_reducible rfl)
                    try simp only [Act.put, List.setIfInBounds_toArray, List.set_cons_zero, List.set_cons_succ]
                    refine wpAny_take (i := 11) (oi := ?oid12) (v := ?vd12) ?hod12 (by kernel_rfl) ?hfd12 ?hrd12 ?hQd12 ?hyd12 ?restd12
                    case hod12 => (simp only [List.getElem?_toArray, List.getElem?_cons_succ, List.getElem?_cons_zero]; exact rfl)
                    case hfd12 => kernel_rfl
                    case hrd12 => kernel_rfl
                    case hQd12 => exact fun _ _ _ h => h
                    case hyd12 =>
                      refine Or.inl ⟨by rfl, ?_⟩
                      intro w
                      go_simp
                      (try with_reducible rfl)
                    try simp only [Act.put, List.setIfInBounds_toArray, List.set_cons_zero, List.set_cons_succ]
                    refine wpAny_ready (rs := [8, 12]) (by kernel_rfl) (by simp) ?_
                    refine AllReady.cons (o := ?od13) ?hod13 (fun K hK => ?kd13) ?md13
                    case hod13 => (simp only [List.getElem?_toArray, List.getElem?_cons_succ, List.getElem?_cons_zero]; exact rfl)
                    case kd13 =>
                      refine anyd_str (by rfl) (.tmp 192) rfl _ _ _ _ ss (by rfl) ho6d ?_
                      refine hK _ _ ?_
                      clear hK K
                      try simp only [Act.put, List.setIfInBounds_toArray, List.set_cons_zero, List.set_cons_succ]
                      refine wpAny_ready (rs := [12]) (by kernel_rfl) (by simp) ?_
                      refine AllReady.cons (o := ?od14) ?hod14 (fun K hK => ?kd14) ?md14
                      case hod14 => (simp only [List.getElem?_toArray, List.getElem?_cons_succ, List.getElem?_cons_zero]; exact rfl)
                      case kd14 =>
                        refine anyd_loadS (by rfl) (.tmp 196) rfl p1 (o1 + j) _ (by rfl) hrow6 ?_
                        refine hK _ _ ?_
                        clear hK K
                        try simp only [Act.put, List.setIfInBounds_toArray, List.set_cons_zero, List.set_cons_succ]
                        refine wpAny_ready (rs := [13]) (by kernel_rfl) (by simp) ?_
                        refine AllReady.cons (o := ?od15) ?hod15 (fun K hK => ?kd15) ?md15
                        case hod15 => (simp only [List.getElem?_toArray, List.getElem?_cons_succ, List.getElem?_cons_zero]; exact rfl)
                        case kd15 =>
                          refine anyd_str (by rfl) (.tmp 197) rfl _ _ _ _ ss (by rfl) hrr6 ?_
                          refine hK _ _ ?_
                          clear hK K
                          try simp only [Act.put, List.setIfInBounds_toArray, List.set_cons_zero, List.set_cons_succ]
                          refine wpAny_take (i := 14) (oi := ?oid16) (v := ?vd16) ?hod16 (by kernel_rfl) ?hfd16 ?hrd16 ?hQd16 ?hyd16 ?restd16
                          case hod16 => (simp only [List.getElem?_toArray, List.getElem?_cons_succ, List.getElem?_cons_zero]; exact rfl)
                          case hfd16 => kernel_rfl
                          case hrd16 => kernel_rfl
                          case hQd16 => exact fun _ _ _ h => h
                          case hyd16 =>
                            refine Or.inl ⟨by rfl, ?_⟩
                            intro w
                            go_simp
                            (try with_reducible rfl)
                          try simp only [Act.put, List.setIfInBounds_toArray, List.set_cons_zero, List.set_cons_succ]
                          refine wpAny_take (i := 15) (oi := ?oid17) (v := ?vd17) ?hod17 (by kernel_rfl) ?hfd17 ?hrd17 ?hQd17 ?hyd17 ?restd17
                          case hod17 => (simp only [List.getElem?_toArray, List.getElem?_cons_succ, List.getElem?_cons_zero]; exact rfl)
                          case hfd17 => kernel_rfl
                          case hrd17 => kernel_rfl
                          case hQd17 => exact fun _ _ _ h => h
                          case hyd17 =>
                            refine Or.inl ⟨by rfl, ?_⟩
                            intro w
                            go_simp
                            (try with_reducible rfl)
                          try simp only [Act.put, List.setIfInBounds_toArray, List.set_cons_zero, List.set_cons_succ]
                          refine wpAny_take (i := 16) (oi := ?oid18) (v := ?vd18) ?hod18 (by kernel_rfl) ?hfd18 ?hrd18 ?hQd18 ?hyd18 ?restd18
                          case hod18 => (simp only [List.getElem?_toArray, List.getElem?_cons_succ, List.getElem?_cons_zero]; exact rfl)
                          case hfd18 => kernel_rfl
                          case hrd18 => kernel_rfl
                          case hQd18 => exact fun _ _ _ h => h
                          case hyd18 =>
                            refine Or.inl ⟨by rfl, ?_⟩
                            intro w
                            go_simp
                            (try with_reducible rfl)
                          try simp only [Act.put, List.setIfInBounds_toArray, List.set_cons_zero, List.set_cons_succ]
                          refine wpAny_take (i := 17) (oi := ?oid19) (v := ?vd19) ?hod19 (by kernel_rfl) ?hfd19 ?hrd19 ?hQd19 ?hyd19 ?restd19
                          case hod19 => (simp only [List.getElem?_toArray, List.getElem?_cons_succ, List.getElem?_cons_zero]; exact rfl)
                          case hfd19 => kernel_rfl
                          case hrd19 => kernel_rfl
                          case hQd19 => exact fun _ _ _ h => h
                          case hyd19 =>
                            refine Or.inl ⟨by rfl, ?_⟩
                            intro w
                            go_simp
                            (try with_reducible rfl)
                          try simp only [Act.put, List.setIfInBounds_toArray, List.set_cons_zero, List.set_cons_succ]
                          refine wpAny_take (i := 18) (oi := ?oid20) (v := ?vd20) ?hod20 (by kernel_rfl) ?hfd20 ?hrd20 ?hQd20 ?hyd20 ?restd20
                          case hod20 => (simp only [List.getElem?_toArray, List.getElem?_cons_succ, List.getElem?_cons_zero]; exact rfl)
                          case hfd20 => kernel_rfl
                          case hrd20 => kernel_rfl
                          case hQd20 => exact fun _ _ _ h => h
                          case hyd20 =>
                            refine Or.inl ⟨by rfl, ?_⟩
                            intro w
                            go_simp
                            (try with_reducible rfl)
                          try simp only [Act.put, List.setIfInBounds_toArray, List.set_cons_zero, List.set_cons_succ]
                          refine wpAny_take (i := 19) (oi := ?oid21) (v := ?vd21) ?hod21 (by kernel_rfl) ?hfd21 ?hrd21 ?hQd21 ?hyd21 ?restd21
                          case hod21 => (simp only [List.getElem?_toArray, List.getElem?_cons_succ, List.getElem?_cons_zero]; exact rfl)
                          case hfd21 => kernel_rfl
                          case hrd21 => kernel_rfl
                          case hQd21 => exact fun _ _ _ h => h
                          case hyd21 =>
                            refine Or.inl ⟨by rfl, ?_⟩
                            intro w
                            go_simp
                            (try with_reducible rfl)
                          try simp only [Act.put, List.setIfInBounds_toArray, List.set_cons_zero, List.set_cons_succ]
                          refine wpAny_ready (rs := [20]) (by kernel_rfl) (by simp) ?_
                          refine AllReady.cons (o := ?od22) ?hod22 (fun K hK => ?kd22) ?md22
                          case hod22 => (simp only [List.getElem?_toArray, List.getElem?_cons_succ, List.getElem?_cons_zero]; exact rfl)
                          case kd22 =>
                            refine anyd_loadI (by rfl) (.tmp 204) rfl pe (oe + (mn + 1)) _ (by rfl) hce6 ?_
                            refine hK _ _ ?_
                            clear hK K
                            try simp only [Act.put, List.setIfInBounds_toArray, List.set_cons_zero, List.set_cons_succ]
                            refine wpAny_take (i := 21) (oi := ?oid23) (v := ?vd23) ?hod23 (by kernel_rfl) ?hfd23 ?hrd23 ?hQd23 ?hyd23 ?restd23
                            case hod23 => (simp only [List.getElem?_toArray, List.getElem?_cons_succ, List.getElem?_cons_zero]; exact rfl)
                            case hfd23 => kernel_rfl
                            case hrd23 => kernel_rfl
                            case hQd23 => exact fun _ _ _ h => h
                            case hyd23 =>
                              refine Or.inl ⟨by rfl, ?_⟩
                              intro w
                              go_simp
                              (try with_reducible rfl)
                            try simp only [Act.put, List.setIfInBounds_toArray, List.set_cons_zero, List.set_cons_succ]
                            refine wpAny_take (i := 22) (oi := ?oid24) (v := ?vd24) ?hod24 (by kernel_rfl) ?hfd24 ?hrd24 ?hQd24 ?hyd24 ?restd24
                            case hod24 => (simp only [List.getElem?_toArray, List.getElem?_cons_succ, List.getElem?_cons_zero]; exact rfl)
                            case hfd24 => kernel_rfl
                            case hrd24 => kernel_rfl
                            case hQd24 => exact fun _ _ _ h => h
                            case hyd24 =>
                              refine Or.inl ⟨by rfl, ?_⟩
                              intro w
                              go_simp
                              (try with_reducible rfl)
                            try simp only [Act.put, List.setIfInBounds_toArray, List.set_cons_zero, List.set_cons_succ]
                            refine wpAny_take (i := 23) (oi := ?oid25) (v := ?vd25) ?hod25 (by kernel_rfl) ?hfd25 ?hrd25 ?hQd25 ?hyd25 ?restd25
                            case hod25 => (simp only [List.getElem?_toArray, List.getElem?_cons_succ, List.getElem?_cons_zero]; exact rfl)
                            case hfd25 => kernel_rfl
                            case hrd25 => kernel_rfl
                            case hQd25 => exact fun _ _ _ h => h
                            case hyd25 =>
                              refine Or.inl ⟨by rfl, ?_⟩
                              intro w
                              go_simp
                              (try with_reducible rfl)
                            try simp only [Act.put, List.setIfInBounds_toArray, List.set_cons_zero, List.set_cons_succ]
                            refine wpAny_take (i := 24) (oi := ?oid26) (v := ?vd26) ?hod26 (by kernel_rfl) ?hfd26 ?hrd26 ?hQd26 ?hyd26 ?restd26
                            case hod26 => (simp only [List.getElem?_toArray, List.getElem?_cons_succ, List.getElem?_cons_zero]; exact rfl)
                            case hfd26 => kernel_rfl
                            case hrd26 => kernel_rfl
                            case hQd26 => exact fun _ _ _ h => h
                            case hyd26 =>
                              refine Or.inl ⟨by rfl, ?_⟩
                              intro w
                              go_simp
                              (try with_reducible rfl)
                            try simp only [Act.put, List.setIfInBounds_toArray, List.set_cons_zero, List.set_cons_succ]
                            exact wpAny_done (by kernel_rfl) (hEnd _ hf0) _
                          exact AllReady.nil
                        exact AllReady.nil
                      exact AllReady.nil
                    refine AllReady.cons (o := ?od27) ?hod27 (fun K hK => ?kd27) ?md27
                    case hod27 => (simp only [List.getElem?_toArray, List.getElem?_cons_succ, List.getElem?_cons_zero]; exact rfl)
                    case kd27 =>
                      refine anyd_loadS (by rfl) (.tmp 196) rfl p1 (o1 + j) _ (by rfl) hrow6 ?_
                      refine hK _ _ ?_
                      clear hK K
                      try simp only [Act.put, List.setIfInBounds_toArray, List.set_cons_zero, List.set_cons_succ]
                      refine wpAny_ready (rs := [8, 13]) (by kernel_rfl) (by simp) ?_
                      refine AllReady.cons (o := ?od28) ?hod28 (fun K hK => ?kd28) ?md28
                      case hod28 => (simp only [List.getElem?_toArray, List.getElem?_cons_succ, List.getElem?_cons_zero]; exact rfl)
                      case kd28 =>
                        refine anyd_str (by rfl) (.tmp 192) rfl _ _ _ _ ss (by rfl) ho6d ?_
                        refine hK _ _ ?_
                        clear hK K
                        try simp only [Act.put, List.setIfInBounds_toArray, List.set_cons_zero, List.set_cons_succ]
                        refine wpAny_ready (rs := [13]) (by kernel_rfl) (by simp) ?_
                        refine AllReady.cons (o := ?od29) ?hod29 (fun K hK => ?kd29) ?md29
                        case hod29 => (simp only [List.getElem?_toArray, List.getElem?_cons_succ, List.getElem?_cons_zero]; exact rfl)
                        case kd29 =>
                          refine anyd_str (by rfl) (.tmp 197) rfl _ _ _ _ ss (by rfl) hrr6 ?_
                          refine hK _ _ ?_
                          clear hK K
                          try simp only [Act.put, List.setIfInBounds_toArray, List.set_cons_zero, List.set_cons_succ]
                          refine wpAny_take (i := 14) (oi := ?oid30) (v := ?vd30) ?hod30 (by kernel_rfl) ?hfd30 ?hrd30 ?hQd30 ?hyd30 ?restd30
                          case hod30 => (simp only [List.getElem?_toArray, List.getElem?_cons_succ, List.getElem?_cons_zero]; exact rfl)
                          case hfd30 => kernel_rfl
                          case hrd30 => kernel_rfl
                          case hQd30 => exact fun _ _ _ h => h
                          case hyd30 =>
                            refine Or.inl ⟨by rfl, ?_⟩
                            intro w
                            go_simp
                            (try with_reducible rfl)
                          try simp only [Act.put, List.setIfInBounds_toArray, List.set_cons_zero, List.set_cons_succ]
                          refine wpAny_take (i := 15) (oi := ?oid31) (v := ?vd31) ?hod31 (by kernel_rfl) ?hfd31 ?hrd31 ?hQd31 ?hyd31 ?restd31
                          case hod31 => (simp only [List.getElem?_toArray, List.getElem?_cons_succ, List.getElem?_cons_zero]; exact rfl)
                          case hfd31 => kernel_rfl
                          case hrd31 => kernel_rfl
                          case hQd31 => exact fun _ _ _ h => h
                          case hyd31 =>
                            refine Or.inl ⟨by rfl, ?_⟩
                            intro w
                            go_simp
                            (try with_reducible rfl)
                          try simp only [Act.put, List.setIfInBounds_toArray, List.set_cons_zero, List.set_cons_succ]
                          refine wpAny_take (i := 16) (oi := ?oid32) (v := ?vd32) ?hod32 (by kernel_rfl) ?hfd32 ?hrd32 ?hQd32 ?hyd32 ?restd32
                          case hod32 => (simp only [List.getElem?_toArray, List.getElem?_cons_succ, List.getElem?_cons_zero]; exact rfl)
                          case hfd32 => kernel_rfl
                          case hrd32 => kernel_rfl
                          case hQd32 => exact fun _ _ _ h => h
                          case hyd32 =>
                            refine Or.inl ⟨by rfl, ?_⟩
                            intro w
                            go_simp
                            (try with_reducible rfl)
                          try simp only [Act.put, List.setIfInBounds_toArray, List.set_cons_zero, List.set_cons_succ]
                          refine wpAny_take (i := 17) (oi := ?oid33) (v := ?vd33) ?hod33 (by kernel_rfl) ?hfd33 ?hrd33 ?hQd33 ?hyd33 ?restd33
                          case hod33 => (simp only [List.getElem?_toArray, List.getElem?_cons_succ, List.getElem?_cons_zero]; exact rfl)
                          case hfd33 => kernel_rfl
                          case hrd33 => kernel_rfl
                          case hQd33 => exact fun _ _ _ h => h
                          case hyd33 =>
                            refine Or.inl ⟨by rfl, ?_⟩
                            intro w
                            go_simp
                            (try with_reducible rfl)
                          try simp only [Act.put, List.setIfInBounds_toArray, List.set_cons_zero, List.set_cons_succ]
                          refine wpAny_take (i := 18) (oi := ?oid34) (v := ?vd34) ?hod34 (by kernel_rfl) ?hfd34 ?hrd34 ?hQd34 ?hyd34 ?restd34
                          case hod34 => (simp only [List.getElem?_toArray, List.getElem?_cons_succ, List.getElem?_cons_zero]; exact rfl)
                          case hfd34 => kernel_rfl
                          case hrd34 => kernel_rfl
                          case hQd34 => exact fun _ _ _ h => h
                          case hyd34 =>
                            refine Or.inl ⟨by rfl, ?_⟩
                            intro w
                            go_simp
                            (try with_reducible rfl)
                          try simp only [Act.put, List.setIfInBounds_toArray, List.set_cons_zero, List.set_cons_succ]
                          refine wpAny_take (i := 19) (oi := ?oid35) (v := ?vd35) ?hod35 (by kernel_rfl) ?hfd35 ?hrd35 ?hQd35 ?hyd35 ?restd35
                          case hod35 => (simp only [List.getElem?_toArray, List.getElem?_cons_succ, List.getElem?_cons_zero]; exact rfl)
                          case hfd35 => kernel_rfl
                          case hrd35 => kernel_rfl
                          case hQd35 => exact fun _ _ _ h => h
                          case hyd35 =>
                            refine Or.inl ⟨by rfl, ?_⟩
                            intro w
                            go_simp
                            (try with_reducible rfl)
                          try simp only [Act.put, List.setIfInBounds_toArray, List.set_cons_zero, List.set_cons_succ]
                          refine wpAny_ready (rs := [20]) (by kernel_rfl) (by simp) ?_
                          refine AllReady.cons (o := ?od36) ?hod36 (fun K hK => ?kd36) ?md36
                          case hod36 => (simp only [List.getElem?_toArray, List.getElem?_cons_succ, List.getElem?_cons_zero]; exact rfl)
                          case kd36 =>
                            refine anyd_loadI (by rfl) (.tmp 204) rfl pe (oe + (mn + 1)) _ (by rfl) hce6 ?_
                            refine hK _ _ ?_
                            clear hK K
                            try simp only [Act.put, List.setIfInBounds_toArray, List.set_cons_zero, List.set_cons_succ]
                            refine wpAny_take (i := 21) (oi := ?oid37) (v := ?vd37) ?hod37 (by kernel_rfl) ?hfd37 ?hrd37 ?hQd37 ?hyd37 ?restd37
                            case hod37 => (simp only [List.getElem?_toArray, List.getElem?_cons_succ, List.getElem?_cons_zero]; exact rfl)
                            case hfd37 => kernel_rfl
                            case hrd37 => kernel_rfl
                            case hQd37 => exact fun _ _ _ h => h
                            case hyd37 =>
                              refine Or.inl ⟨by rfl, ?_⟩
                              intro w
                              go_simp
                              (try with_reducible rfl)
                            try simp only [Act.put, List.setIfInBounds_toArray, List.set_cons_zero, List.set_cons_succ]
                            refine wpAny_take (i := 22) (oi := ?oid38) (v := ?vd38) ?hod38 (by kernel_rfl) ?hfd38 ?hrd38 ?hQd38 ?hyd38 ?restd38
                            case hod38 => (simp only [List.getElem?_toArray, List.getElem?_cons_succ, List.getElem?_cons_zero]; exact rfl)
                            case hfd38 => kernel_rfl
                            case hrd38 => kernel_rfl
                            case hQd38 => exact fun _ _ _ h => h
                            case hyd38 =>
                              refine Or.inl ⟨by rfl, ?_⟩
                              intro w
                              go_simp
                              (try with_reducible rfl)
                            try simp only [Act.put, List.setIfInBounds_toArray, List.set_cons_zero, List.set_cons_succ]
                            refine wpAny_take (i := 23) (oi := ?oid39) (v := ?vd39) ?hod39 (by kernel_rfl) ?hfd39 ?hrd39 ?hQd39 ?hyd39 ?restd39
                            case hod39 => (simp only [List.getElem?_toArray, List.getElem?_cons_succ, List.getElem?_cons_zero]; exact rfl)
                            case hfd39 => kernel_rfl
                            case hrd39 => kernel_rfl
                            case hQd39 => exact fun _ _ _ h => h
                            case hyd39 =>
                              refine Or.inl ⟨by rfl, ?_⟩
                              intro w
                              go_simp
                              (try with_reducible rfl)
                            try simp only [Act.put, List.setIfInBounds_toArray, List.set_cons_zero, List.set_cons_succ]
                            refine wpAny_take (i := 24) (oi := ?oid40) (v := ?vd40) ?hod40 (by kernel_rfl) ?hfd40 ?hrd40 ?hQd40 ?hyd40 ?restd40
                            case hod40 => (simp only [List.getElem?_toArray, List.getElem?_cons_succ, List.getElem?_cons_zero]; exact rfl)
                            case hfd40 => kernel_rfl
                            case hrd40 => kernel_rfl
                            case hQd40 => exact fun _ _ _ h => h
                            case hyd40 =>
                              refine Or.inl ⟨by rfl, ?_⟩
                              intro w
                              go_simp
                              (try with_reducible rfl)
                            try simp only [Act.put, List.setIfInBounds_toArray, List.set_cons_zero, List.set_cons_succ]
                            exact wpAny_done (by kernel_rfl) (hEnd _ hf0) _
                          exact AllReady.nil
                        exact AllReady.nil
                      refine AllReady.cons (o := ?od41) ?hod41 (fun K hK => ?kd41) ?md41
                      case hod41 => (simp only [List.getElem?_toArray, List.getElem?_cons_succ, List.getElem?_cons_zero]; exact rfl)
                      case kd41 =>
                        refine anyd_str (by rfl) (.tmp 197) rfl _ _ _ _ ss (by rfl) hrr6 ?_
                        refine hK _ _ ?_
                        clear hK K
                        try simp only [Act.put, List.setIfInBounds_toArray, List.set_cons_zero, List.set_cons_succ]
                        refine wpAny_ready (rs := [8]) (by kernel_rfl) (by simp) ?_
                        refine AllReady.cons (o := ?od42) ?hod42 (fun K hK => ?kd42) ?md42
                        case hod42 => (simp only [List.getElem?_toArray, List.getElem?_cons_succ, List.getElem?_cons_zero]; exact rfl)
                        case kd42 =>
                          refine anyd_str (by rfl) (.tmp 192) rfl _ _ _ _ ss (by rfl) ho6d ?_
                          refine hK _ _ ?_
                          clear hK K
                          try simp only [Act.put, List.setIfInBounds_toArray, List.set_cons_zero, List.set_cons_succ]
                          refine wpAny_take (i := 14) (oi := ?oid43) (v := ?vd43) ?hod43 (by kernel_rfl) ?hfd43 ?hrd43 ?hQd43 ?hyd43 ?restd43
                          case hod43 => (simp only [List.getElem?_toArray, List.getElem?_cons_succ, List.getElem?_cons_zero]; exact rfl)
                          case hfd43 => kernel_rfl
                          case hrd43 => kernel_rfl
                          case hQd43 => exact fun _ _ _ h => h
                          case hyd43 =>
                            refine Or.inl ⟨by rfl, ?_⟩
                            intro w
                            go_simp
                            (try with_reducible rfl)
                          try simp only [Act.put, List.setIfInBounds_toArray, List.set_cons_zero, List.set_cons_succ]
                          refine wpAny_take (i := 15) (oi := ?oid44) (v := ?vd44) ?hod44 (by kernel_rfl) ?hfd44 ?hrd44 ?hQd44 ?hyd44 ?restd44
                          case hod44 => (simp only [List.getElem?_toArray, List.getElem?_cons_succ, List.getElem?_cons_zero]; exact rfl)
                          case hfd44 => kernel_rfl
                          case hrd44 => kernel_rfl
                          case hQd44 => exact fun _ _ _ h => h
                          case hyd44 =>
                            refine Or.inl ⟨by rfl, ?_⟩
                            intro w
                            go_simp
                            (try with_reducible rfl)
                          try simp only [Act.put, List.setIfInBounds_toArray, List.set_cons_zero, List.set_cons_succ]
                          refine wpAny_take (i := 16) (oi := ?oid45) (v := ?vd45) ?hod45 (by kernel_rfl) ?hfd45 ?hrd45 ?hQd45 ?hyd45 ?restd45
                          case hod45 => (simp only [List.getElem?_toArray, List.getElem?_cons_succ, List.getElem?_cons_zero]; exact rfl)
                          case hfd45 => kernel_rfl
                          case hrd45 => kernel_rfl
                          case hQd45 => exact fun _ _ _ h => h
                          case hyd45 =>
                            refine Or.inl ⟨by rfl, ?_⟩
                            intro w
                            go_simp
                            (try with_reducible rfl)
                          try simp only [Act.put, List.setIfInBounds_toArray, List.set_cons_zero, List.set_cons_succ]
                          refine wpAny_take (i := 17) (oi := ?oid46) (v := ?vd46) ?hod46 (by kernel_rfl) ?hfd46 ?hrd46 ?hQd46 ?hyd46 ?restd46
                          case hod46 => (simp only [List.getElem?_toArray, List.getElem?_cons_succ, List.getElem?_cons_zero]; exact rfl)
                          case hfd46 => kernel_rfl
                          case hrd46 => kernel_rfl
                          case hQd46 => exact fun _ _ _ h => h
                          case hyd46 =>
                            refine Or.inl ⟨by rfl, ?_⟩
                            intro w
                            go_simp
                            (try with_reducible rfl)
                          try simp only [Act.put, List.setIfInBounds_toArray, List.set_cons_zero, List.set_cons_succ]
                          refine wpAny_take (i := 18) (oi := ?oid47) (v := ?vd47) ?hod47 (by kernel_rfl) ?hfd47 ?hrd47 ?hQd47 ?hyd47 ?restd47
                          case hod47 => (simp only [List.getElem?_toArray, List.getElem?_cons_succ, List.getElem?_cons_zero]; exact rfl)
                          case hfd47 => kernel_rfl
                          case hrd47 => kernel_rfl
                          case hQd47 => exact fun _ _ _ h => h
                          case hyd47 =>
                            refine Or.inl ⟨by rfl, ?_⟩
                            intro w
                            go_simp
                            (try with_reducible rfl)
                          try simp only [Act.put, List.setIfInBounds_toArray, List.set_cons_zero, List.set_cons_succ]
                          refine wpAny_take (i := 19) (oi := ?oid48) (v := ?vd48) ?hod48 (by kernel_rfl) ?hfd48 ?hrd48 ?hQd48 ?hyd48 ?restd48
                          case hod48 => (simp only [List.getElem?_toArray, List.getElem?_cons_succ, List.getElem?_cons_zero]; exact rfl)
                          case hfd48 => kernel_rfl
                          case hrd48 => kernel_rfl
                          case hQd48 => exact fun _ _ _ h => h
                          case hyd48 =>
                            refine Or.inl ⟨by rfl, ?_⟩
                            intro w
                            go_simp
                            (try with_reducible rfl)
                          try simp only [Act.put, List.setIfInBounds_toArray, List.set_cons_zero, List.set_cons_succ]
                          refine wpAny_ready (rs := [20]) (by kernel_rfl) (by simp) ?_
                          refine AllReady.cons (o := ?od49) ?hod49 (fun K hK => ?kd49) ?md49
                          case hod49 => (simp only [List.getElem?_toArray, List.getElem?_cons_succ, List.getElem?_cons_zero]; exact rfl)
                          case kd49 =>
                            refine anyd_loadI (by rfl) (.tmp 204) rfl pe (oe + (mn + 1)) _ (by rfl) hce6 ?_
                            refine hK _ _ ?_
                            clear hK K
                            try simp only [Act.put, List.setIfInBounds_toArray, List.set_cons_zero, List.set_cons_succ]
                            refine wpAny_take (i := 21) (oi := ?oid50) (v := ?vd50) ?hod50 (by kernel_rfl) ?hfd50 ?hrd50 ?hQd50 ?hyd50 ?restd50
                            case hod50 => (simp only [List.getElem?_toArray, List.getElem?_cons_succ, List.getElem?_cons_zero]; exact rfl)
                            case hfd50 => kernel_rfl
                            case hrd50 => kernel_rfl
                            case hQd50 => exact fun _ _ _ h => h
                            case hyd50 =>
                              refine Or.inl ⟨by rfl, ?_⟩
                              intro w
                              go_simp
                              (try with_reducible rfl)
                            try simp only [Act.put, List.setIfInBounds_toArray, List.set_cons_zero, List.set_cons_succ]
                            refine wpAny_take (i := 22) (oi := ?oid51) (v := ?vd51) ?hod51 (by kernel_rfl) ?hfd51 ?hrd51 ?hQd51 ?hyd51 ?restd51
                            case hod51 => (simp only [List.getElem?_toArray, List.getElem?_cons_succ, List.getElem?_cons_zero]; exact rfl)
                            case hfd51 => kernel_rfl
                            case hrd51 => kernel_rfl
                            case hQd51 => exact fun _ _ _ h => h
                            case hyd51 =>
                              refine Or.inl ⟨by rfl, ?_⟩
                              intro w
                              go_simp
                              (try with_reducible rfl)
                            try simp only [Act.put, List.setIfInBounds_toArray, List.set_cons_zero, List.set_cons_succ]
                            refine wpAny_take (i := 23) (oi := ?oid52) (v := ?vd52) ?hod52 (by kernel_rfl) ?hfd52 ?hrd52 ?hQd52 ?hyd52 ?restd52
                            case hod52 => (simp only [List.getElem?_toArray, List.getElem?_cons_succ, List.getElem?_cons_zero]; exact rfl)
                            case hfd52 => kernel_rfl
                            case hrd52 => kernel_rfl
                            case hQd52 => exact fun _ _ _ h => h
                            case hyd52 =>
                              refine Or.inl ⟨by rfl, ?_⟩
                              intro w
                              go_simp
                              (try with_reducible rfl)
                            try simp only [Act.put, List.setIfInBounds_toArray, List.set_cons_zero, List.set_cons_succ]
                            refine wpAny_take (i := 24) (oi := ?oid53) (v := ?vd53) ?hod53 (by kernel_rfl) ?hfd53 ?hrd53 ?hQd53 ?hyd53 ?restd53
                            case hod53 => (simp only [List.getElem?_toArray, List.getElem?_cons_succ, List.getElem?_cons_zero]; exact rfl)
                            case hfd53 => kernel_rfl
                            case hrd53 => kernel_rfl
                            case hQd53 => exact fun _ _ _ h => h
                            case hyd53 =>
                              refine Or.inl ⟨by rfl, ?_⟩
                              intro w
                              go_simp
                              (try with_reducible rfl)
                            try simp only [Act.put, List.setIfInBounds_toArray, List.set_cons_zero, List.set_cons_succ]
                            exact wpAny_done (by kernel_rfl) (hEnd _ hf0) _
                          exact AllReady.nil
                        exact AllReady.nil
                      exact AllReady.nil
                    exact AllReady.nil
                  case cd1 =>
                    rintro V rfl
                    repeat go_step
                    go_roundw
                    case rel => exact ⟨j + 1, e2, mn + 1 + 1, by go_num, by go_num, by go_num, by omega, HAA.out, Hn1.out, by omega, hbd⟩
                    case measure => simp [intOf]; omega
                · have HAN3 := Lib.hid (by have := HAN2.out; rw [if_neg hw3] at this; exact this)
                  have hw4 : decide ((e2 : Int) ≤ (K : Int)) = false := by simp; omega
                  have hw5 : decide (e2 ≤ K) = false := by simp; omega
                  refine (takeBytes_any Ab K cb e1 300 (E.take K) _ ((hcutK _ hbx).more hbx.size) (by omega) (by omega) (by omega) (by omega) _ _ _ HAN3.out).mono ?_
                  rintro e w6 ⟨A6, c6, m6, rfl, ho6, hb6⟩
                  have hb6q := hbx.trans (hb6.mono hbx.size)
                  have hrow6 : w6.cell? ⟨p1, o1 + j, none⟩ = some (.slice Ar Lr Cr) := by rw [(hbr.trans (hb6q.mono hbr.size)).cell hp1, ← (hbr.trans (hbx.mono hbr.size)).cell hp1]; exact hrow
                  have hce6 : w6.cell? ⟨pe, oe + (mn + 1), none⟩ = some (.int .i64 (e2 : Int)) := by rw [hb6q.cell hpe, ← hbx.cell hpe]; exact hce2
                  have k1 := run_conv_str (P := Try.prog) w6 22 9 5 Try.underlying22 Try.underlying5 Try.underlying9 _ A6 m6 c6 _ ho6.rd
                  have k2 := run_conv_str (P := Try.prog) w6 22 9 5 Try.underlying22 Try.underlying5 Try.underlying9 _ Ar Lr Cr ss (hrrd.below (hbr.trans (hb6q.mono hbr.size)))
                  ((try dsimp only); (repeat (first | go_skip | go_guarded | go_step)))
                  go_quiet (fail)
                  have hbn : Below wq.heap.size wq (w6.drewN nq) := ⟨hb6q.os, hb6q.tape, hb6q.output, hb6q.size, hb6q.block⟩
                  go_wp2_with (go_at_call 9; refine (works_any _).mono ?_; rintro e wk ⟨rfl, hbk⟩)
                  go_ret
                  exact ⟨rfl, (hbr.trans (hbn.mono hbr.size)).trans (hbk.mono (Nat.le_trans hbr.size hbn.size))⟩
              · rw [if_neg hw] at hans
                have hw1 : decide ((e1 : Int) ≤ (K : Int)) = false := by simp; omega
                have hw2 : decide (e1 ≤ K) = false := by simp; omega
                have HANS := Lib.hid hans
                clear hans
                ((try dsimp only); (repeat (first | go_skip | go_guarded | go_step)))
                refine (takeVar_any Ab K cb _ a (E.take K) _ (hcutK _ hbx) (by omega) (by omega) _ _ _ HANS.out).mono ?_
                rintro e w1 ⟨rfl, rfl⟩
                go_wp2_with (go_at_call 9; refine (works_any _).mono ?_; rintro e wk ⟨rfl, hbk⟩)
                go_ret
                exact ⟨rfl, (hbr.trans (hbx.mono hbr.size)).trans (hbk.mono (Nat.le_trans hbr.size hbx.size))⟩
            · omega
          · have h1 : j < n1 := by omega
            have hc0 : decide ((j : Int) < (n0 : Int)) = false := by simp; omega
            have hc1 : decide ((j : Int) < (n1 : Int)) = true := by simp; omega
            have hi2 : (j : Int) < (n1 : Int) := by omega
            obtain ⟨p1, o1, rfl, hp1, hrow⟩ := (hrs.below (hbx.mono hbr.size)).at_ h1
            have hrrd := hr1.row j h1
            obtain ⟨Ar, Lr, Cr, hR⟩ : ∃ Ar Lr Cr, R j = (Ar, Lr, Cr) := ⟨_, _, _, rfl⟩
            rw [hR] at hrow hrrd
            dsimp only at hrow hrrd
            obtain ⟨ss, hss⟩ : ∃ ss, sl.getD j [] = ss := ⟨_, rfl⟩
            rw [hss] at hrrd
            have HSS := Lib.hid hss
            clear hss hR
            have HLS := Lib.hid (show ss.length = Lr by simpa using hrrd.len1)
            have hL300 : Lr ≤ 300 := by have := hL j hlt h1; rw [HSS.out, HLS.out] at this; exact this
            have hz2 := rowZ_at2 nl sl n1 j hlt (by rw [hl1.out]; exact h1)
            have hpb : pb sl j = var Lr ++ ss := by unfold pb; rw [if_pos (by rw [hl1.out]; exact h1), HSS.out, HLS.out]
            have hpv : pv nl j = [] := by unfold pv; rw [if_neg (by rw [hl0.out]; exact h0)]
            have hif : (rowE nl sl j ++ pv nl j).length = a := by rw [hpv, List.append_nil, ← HA.out]
            rw [if_neg (by rw [hl0.out]; exact h0), ← HMN.out, Nat.add_zero] at hz2
            have hans2 := tbAns_cut (rowE nl sl j ++ pv nl j) ss r K 300 (by rw [HLS.out]; exact hL300) (by omega) (by rw [hif]; omega) (by rw [HLS.out, List.append_assoc, ← List.append_assoc (var Lr), ← hpb, ← HR.out, hEl]; exact hKle)
            rw [HLS.out, List.append_assoc, ← List.append_assoc (var Lr), ← hpb, ← HR.out, hif] at hans2
            rw [List.length_append, hif, hpb, List.length_append, HLS.out, ← Nat.add_assoc] at hz2
            obtain ⟨e2, he2⟩ : ∃ e2, a + (var Lr).length + Lr = e2 := ⟨_, rfl⟩
            rw [he2] at hz2 hans2
            obtain ⟨pe, oe, rfl, hpe, hce2⟩ := ints_at (hre.below hbx) hz2
            have hmn2 : ((mn : Nat) : Int) < (ne : Int) := by have := (List.getElem?_eq_some_iff.1 hz2).1; have := HNE.out; omega
            have HE2 := Lib.hid he2
            have HAN2 := Lib.hid hans2
            have HAA := Lib.hid (show e2 = (rowE nl sl (j + 1)).length by rw [rowE, hpb, List.length_append, hif, List.length_append, HLS.out, ← he2, Nat.add_assoc])
            have Hn1 := Lib.hid (show mn + 1 = (rowZ nl sl (j + 1)).length by rw [rowZ, if_neg (by rw [hl0.out]; exact h0), if_pos (by rw [hl1.out]; exact h1)]; simp [HMN.out])
            clear hz2 he2 hans2 hif hpb
            ((try dsimp only); (repeat (first | go_skip | go_guarded | go_step)))
            by_cases hw3 : e2 ≤ K
            · have HAN3 := Lib.hid (by have := HAN2.out; rw [if_pos hw3] at this; exact this)
              have hw4 : decide ((e2 : Int) ≤ (K : Int)) = true := by simp; omega
              have hw5 : decide (e2 ≤ K) = true := by simp; omega
              refine (takeBytes_any Ab K cb a 300 (E.take K) _ ((hcutK _ hbx).more hbx.size) (by omega) (by omega) (by omega) (by omega) _ _ _ HAN3.out).mono ?_
              rintro e w6 ⟨A6, c6, m6, rfl, ho6, hb6⟩
              have hb6q := hbx.trans (hb6.mono hbx.size)
              have hrow6 : w6.cell? ⟨p1, o1 + j, none⟩ = some (.slice Ar Lr Cr) := by rw [(hbr.trans (hb6q.mono hbr.size)).cell hp1, ← (hbr.trans (hbx.mono hbr.size)).cell hp1]; exact hrow
              have hce6 : w6.cell? ⟨pe, oe + (mn), none⟩ = some (.int .i64 (e2 : Int)) := by rw [hb6q.cell hpe, ← hbx.cell hpe]; exact hce2
              have k1 := run_conv_str (P := Try.prog) w6 22 9 5 Try.underlying22 Try.underlying5 Try.underlying9 _ A6 m6 c6 _ ho6.rd
              have k2 := run_conv_str (P := Try.prog) w6 22 9 5 Try.underlying22 Try.underlying5 Try.underlying9 _ Ar Lr Cr ss (hrrd.below (hbr.trans (hb6q.mono hbr.size)))
              have ho6d : Rd w6.drew w6.drew.heap.size 1 A6 m6 (ss.map bv) := ho6.rd.below (Below.refl _ _).drew
              have hrr6 : Rd w6.drew w.heap.size 1 Ar Lr (ss.map bv) := (hrrd.below (hbr.trans (hb6q.mono hbr.size))).below (Below.refl _ _).drew
              have hbd : Below wq.heap.size wq w6.drew := hb6q.drew
              clear k1 k2
              dsimp only
              repeat go_step
              refine wp_region_any (by kernel_rfl) ?_
              try (change wpAny _ _ _ _ _ _ _ (World.drew _))
              refine wpAny_meet (b := ?ad54) (fun V => V = World.drew w6) ?cd54 ?rd54
              case rd54 =>
                intro hEnd
                have hf0 : World.drew w6 = World.drew w6 := rfl
                refine wpAny_take (i := 0) (oi := ?oid55) (v := ?vd55) ?hod55 (by kernel_rfl) ?hfd55 ?hrd55 ?hQd55 ?hyd55 ?restd55
                case hod55 => (simp only [List.getElem?_toArray, List.getElem?_cons_succ, List.getElem?_cons_zero]; exact rfl)
                case hfd55 => kernel_rfl
                case hrd55 => kernel_rfl
                case hQd55 => exact fun _ _ _ h => h
                case hyd55 =>
                  refine Or.inl ⟨by rfl, ?_⟩
                  intro w
                  go_simp
                  (try with_reducible rfl)
                try simp only [Act.put, List.setIfInBounds_toArray, List.set_cons_zero, List.set_cons_succ]
                refine wpAny_take (i := 1) (oi := ?oid56) (v := ?vd56) ?hod56 (by kernel_rfl) ?hfd56 ?hrd56 ?hQd56 ?hyd56 ?restd56
                case hod56 => (simp only [List.getElem?_toArray, List.getElem?_cons_succ, List.getElem?_cons_zero]; exact rfl)
                case hfd56 => kernel_rfl
                case hrd56 => kernel_rfl
                case hQd56 => exact fun _ _ _ h => h
                case hyd56 =>
                  refine Or.inl ⟨by rfl, ?_⟩
                  intro w
                  go_simp
                  (try with_reducible rfl)
                try simp only [Act.put, List.setIfInBounds_toArray, List.set_cons_zero, List.set_cons_succ]
                refine wpAny_take (i := 2) (oi := ?oid57) (v := ?vd57) ?hod57 (by kernel_rfl) ?hfd57 ?hrd57 ?hQd57 ?hyd57 ?restd57
                case hod57 => (simp only [List.getElem?_toArray, List.getElem?_cons_succ, List.getElem?_cons_zero]; exact rfl)
                case hfd57 => kernel_rfl
                case hrd57 => kernel_rfl
                case hQd57 => exact fun _ _ _ h => h
                case hyd57 =>
                  refine Or.inl ⟨by rfl, ?_⟩
                  intro w
                  go_simp
                  (try with_reducible rfl)
                try simp only [Act.put, List.setIfInBounds_toArray, List.set_cons_zero, List.set_cons_succ]
                refine wpAny_take (i := 3) (oi := ?oid58) (v := ?vd58) ?hod58 (by kernel_rfl) ?hfd58 ?hrd58 ?hQd58 ?hyd58 ?restd58
                case hod58 => (simp only [List.getElem?_toArray, List.getElem?_cons_succ, List.getElem?_cons_zero]; exact rfl)
                case hfd58 => kernel_rfl
                case hrd58 => kernel_rfl
                case hQd58 => exact fun _ _ _ h => h
                case hyd58 =>
                  refine Or.inl ⟨by rfl, ?_⟩
                  intro w
                  go_simp
                  (try with_reducible rfl)
                try simp only [Act.put, List.setIfInBounds_toArray, List.set_cons_zero, List.set_cons_succ]
                refine wpAny_take (i := 4) (oi := ?oid59) (v := ?vd59) ?hod59 (by kernel_rfl) ?hfd59 ?hrd59 ?hQd59 ?hyd59 ?restd59
                case hod59 => (simp only [List.getElem?_toArray, List.getElem?_cons_succ, List.getElem?_cons_zero]; exact rfl)
                case hfd59 => kernel_rfl
                case hrd59 => kernel_rfl
                case hQd59 => exact fun _ _ _ h => h
                case hyd59 =>
                  refine Or.inl ⟨by rfl, ?_⟩
                  intro w
                  go_simp
                  (try with_reducible rfl)
                try simp only [Act.put, List.setIfInBounds_toArray, List.set_cons_zero, List.set_cons_succ]
                refine wpAny_take (i := 5) (oi := ?oid60) (v := ?vd60) ?hod60 (by kernel_rfl) ?hfd60 ?hrd60 ?hQd60 ?hyd60 ?restd60
                case hod60 => (simp only [List.getElem?_toArray, List.getElem?_cons_succ, List.getElem?_cons_zero]; exact rfl)
                case hfd60 => kernel_rfl
                case hrd60 => kernel_rfl
                case hQd60 => exact fun _ _ _ h => h
                case hyd60 =>
                  refine Or.inl ⟨by rfl, ?_⟩
                  intro w
                  go_simp
                  (try with_reducible rfl)
                try simp only [Act.put, List.setIfInBounds_toArray, List.set_cons_zero, List.set_cons_succ]
                refine wpAny_take (i := 6) (oi := ?oid61) (v := ?vd61) ?hod61 (by kernel_rfl) ?hfd61 ?hrd61 ?hQd61 ?hyd61 ?restd61
                case hod61 => (simp only [List.getElem?_toArray, List.getElem?_cons_succ, List.getElem?_cons_zero]; exact rfl)
                case hfd61 => kernel_rfl
                case hrd61 => kernel_rfl
                case hQd61 => exact fun _ _ _ h => h
                case hyd61 =>
                  refine Or.inl ⟨by rfl, ?_⟩
                  intro w
                  go_simp
                  (try with_reducible rfl)
                try simp only [Act.put, List.setIfInBounds_toArray, List.set_cons_zero, List.set_cons_succ]
                refine wpAny_take (i := 7) (oi := ?oid62) (v := ?vd62) ?hod62 (by kernel_rfl) ?hfd62 ?hrd62 ?hQd62 ?hyd62 ?restd62
                case hod62 => (simp only [List.getElem?_toArray, List.getElem?_cons_succ, List.getElem?_cons_zero]; exact rfl)
                case hfd62 => kernel_rfl
                case hrd62 => kernel_rfl
                case hQd62 => exact fun _ _ _ h => h
                case hyd62 =>
                  refine Or.inl ⟨by rfl, ?_⟩
                  intro w
                  go_simp
                  (try with_reducible rfl)
                try simp only [Act.put, List.setIfInBounds_toArray, List.set_cons_zero, List.set_cons_succ]
                refine wpAny_take (i := 9) (oi := ?oid63) (v := ?vd63) ?hod63 (by kernel_rfl) ?hfd63 ?hrd63 ?hQd63 ?hyd63 ?restd63
                case hod63 => (simp only [List.getElem?_toArray, List.getElem?_cons_succ, List.getElem?_cons_zero]; exact rfl)
                case hfd63 => kernel_rfl
                case hrd63 => kernel_rfl
                case hQd63 => exact fun _ _ _ h => h
                case hyd63 =>
                  refine Or.inl ⟨by rfl, ?_⟩
                  intro w
                  go_simp
                  (try with_reducible rfl)
                try simp only [Act.put, List.setIfInBounds_toArray, List.set_cons_zero, List.set_cons_succ]
                refine wpAny_take (i := 10) (oi := ?oid64) (v := ?vd64) ?hod64 (by kernel_rfl) ?hfd64 ?hrd64 ?hQd64 ?hyd64 ?restd64
                case hod64 => (simp only [List.getElem?_toArray, List.getElem?_cons_succ, List.getElem?_cons_zero]; exact rfl)
                case hfd64 => kernel_rfl
                case hrd64 => kernel_rfl
                case hQd64 => exact fun _ _ _ h => h
                case hyd64 =>
                  refine Or.inl ⟨by rfl, ?_⟩
                  intro w
                  go_simp
                  (try with_reducible rfl)
                try simp only [Act.put, List.setIfInBounds_toArray, List.set_cons_zero, List.set_cons_succ]
                refine wpAny_take (i := 11) (oi := ?oid65) (v := ?vd65) ?hod65 (by kernel_rfl) ?hfd65 ?hrd65 ?hQd65 ?hyd65 ?restd65
                case hod65 => (simp only [List.getElem?_toArray, List.getElem?_cons_succ, List.getElem?_cons_zero]; exact rfl)
                case hfd65 => kernel_rfl
                case hrd65 => kernel_rfl
                case hQd65 => exact fun _ _ _ h => h
                case hyd65 =>
                  refine Or.inl ⟨by rfl, ?_⟩
                  intro w
                  go_simp
                  (try with_reducible rfl)
                try simp only [Act.put, List.setIfInBounds_toArray, List.set_cons_zero, List.set_cons_succ]
                refine wpAny_ready (rs := [8, 12]) (by kernel_rfl) (by simp) ?_
                refine AllReady.cons (o := ?od66) ?hod66 (fun K hK => ?kd66) ?md66
                case hod66 => (simp only [List.getElem?_toArray, List.getElem?_cons_succ, List.getElem?_cons_zero]; exact rfl)
                case kd66 =>
                  refine anyd_str (by rfl) (.tmp 192) rfl _ _ _ _ ss (by rfl) ho6d ?_
                  refine hK _ _ ?_
                  clear hK K
                  try simp only [Act.put, List.setIfInBounds_toArray, List.set_cons_zero, List.set_cons_succ]
                  refine wpAny_ready (rs := [12]) (by kernel_rfl) (by simp) ?_
                  refine AllReady.cons (o := ?od67) ?hod67 (fun K hK => ?kd67) ?md67
                  case hod67 => (simp only [List.getElem?_toArray, List.getElem?_cons_succ, List.getElem?_cons_zero]; exact rfl)
                  case kd67 =>
                    refine anyd_loadS (by rfl) (.tmp 196) rfl p1 (o1 + j) _ (by rfl) hrow6 ?_
                    refine hK _ _ ?_
                    clear hK K
                    try simp only [Act.put, List.setIfInBounds_toArray, List.set_cons_zero, List.set_cons_succ]
                    refine wpAny_ready (rs := [13]) (by kernel_rfl) (by simp) ?_
                    refine AllReady.cons (o := ?od68) ?hod68 (fun K hK => ?kd68) ?md68
                    case hod68 => (simp only [List.getElem?_toArray, List.getElem?_cons_succ, List.getElem?_cons_zero]; exact rfl)
                    case kd68 =>
                      refine anyd_str (by rfl) (.tmp 197) rfl _ _ _ _ ss (by rfl) hrr6 ?_
                      refine hK _ _ ?_
                      clear hK K
                      try simp only [Act.put, List.setIfInBounds_toArray, List.set_cons_zero, List.set_cons_succ]
                      refine wpAny_take (i := 14) (oi := ?oid69) (v := ?vd69) ?hod69 (by kernel_rfl) ?hfd69 ?hrd69 ?hQd69 ?hyd69 ?restd69
                      case hod69 => (simp only [List.getElem?_toArray, List.getElem?_cons_succ, List.getElem?_cons_zero]; exact rfl)
                      case hfd69 => kernel_rfl
                      case hrd69 => kernel_rfl
                      case hQd69 => exact fun _ _ _ h => h
                      case hyd69 =>
                        refine Or.inl ⟨by rfl, ?_⟩
                        intro w
                        go_simp
                        (try with_reducible rfl)
                      try simp only [Act.put, List.setIfInBounds_toArray, List.set_cons_zero, List.set_cons_succ]
                      refine wpAny_take (i := 15) (oi := ?oid70) (v := ?vd70) ?hod70 (by kernel_rfl) ?hfd70 ?hrd70 ?hQd70 ?hyd70 ?restd70
                      case hod70 => (simp only [List.getElem?_toArray, List.getElem?_cons_succ, List.getElem?_cons_zero]; exact rfl)
                      case hfd70 => kernel_rfl
                      case hrd70 => kernel_rfl
                      case hQd70 => exact fun _ _ _ h => h
                      case hyd70 =>
                        refine Or.inl ⟨by rfl, ?_⟩
                        intro w
                        go_simp
                        (try with_reducible rfl)
                      try simp only [Act.put, List.setIfInBounds_toArray, List.set_cons_zero, List.set_cons_succ]
                      refine wpAny_take (i := 16) (oi := ?oid71) (v := ?vd71) ?hod71 (by kernel_rfl) ?hfd71 ?hrd71 ?hQd71 ?hyd71 ?restd71
                      case hod71 => (simp only [List.getElem?_toArray, List.getElem?_cons_succ, List.getElem?_cons_zero]; exact rfl)
                      case hfd71 => kernel_rfl
                      case hrd71 => kernel_rfl
                      case hQd71 => exact fun _ _ _ h => h
                      case hyd71 =>
                        refine Or.inl ⟨by rfl, ?_⟩
                        intro w
                        go_simp
                        (try with_reducible rfl)
                      try simp only [Act.put, List.setIfInBounds_toArray, List.set_cons_zero, List.set_cons_succ]
                      refine wpAny_take (i := 17) (oi := ?oid72) (v := ?vd72) ?hod72 (by kernel_rfl) ?hfd72 ?hrd72 ?hQd72 ?hyd72 ?restd72
                      case hod72 => (simp only [List.getElem?_toArray, List.getElem?_cons_succ, List.getElem?_cons_zero]; exact rfl)
                      case hfd72 => kernel_rfl
                      case hrd72 => kernel_rfl
                      case hQd72 => exact fun _ _ _ h => h
                      case hyd72 =>
                        refine Or.inl ⟨by rfl, ?_⟩
                        intro w
                        go_simp
                        (try with_reducible rfl)
                      try simp only [Act.put, List.setIfInBounds_toArray, List.set_cons_zero, List.set_cons_succ]
                      refine wpAny_take (i := 18) (oi := ?oid73) (v := ?vd73) ?hod73 (by kernel_rfl) ?hfd73 ?hrd73 ?hQd73 ?hyd73 ?restd73
                      case hod73 => (simp only [List.getElem?_toArray, List.getElem?_cons_succ, List.getElem?_cons_zero]; exact rfl)
                      case hfd73 => kernel_rfl
                      case hrd73 => kernel_rfl
                      case hQd73 => exact fun _ _ _ h => h
                      case hyd73 =>
                        refine Or.inl ⟨by rfl, ?_⟩
                        intro w
                        go_simp
                        (try with_reducible rfl)
                      try simp only [Act.put, List.setIfInBounds_toArray, List.set_cons_zero, List.set_cons_succ]
                      refine wpAny_take (i := 19) (oi := ?oid74) (v := ?vd74) ?hod74 (by kernel_rfl) ?hfd74 ?hrd74 ?hQd74 ?hyd74 ?restd74
                      case hod74 => (simp only [List.getElem?_toArray, List.getElem?_cons_succ, List.getElem?_cons_zero]; exact rfl)
                      case hfd74 => kernel_rfl
                      case hrd74 => kernel_rfl
                      case hQd74 => exact fun _ _ _ h => h
                      case hyd74 =>
                        refine Or.inl ⟨by rfl, ?_⟩
                        intro w
                        go_simp
                        (try with_reducible rfl)
                      try simp only [Act.put, List.setIfInBounds_toArray, List.set_cons_zero, List.set_cons_succ]
                      refine wpAny_ready (rs := [20]) (by kernel_rfl) (by simp) ?_
                      refine AllReady.cons (o := ?od75) ?hod75 (fun K hK => ?kd75) ?md75
                      case hod75 => (simp only [List.getElem?_toArray, List.getElem?_cons_succ, List.getElem?_cons_zero]; exact rfl)
                      case kd75 =>
                        refine anyd_loadI (by rfl) (.tmp 204) rfl pe (oe + (mn)) _ (by rfl) hce6 ?_
                        refine hK _ _ ?_
                        clear hK K
                        try simp only [Act.put, List.setIfInBounds_toArray, List.set_cons_zero, List.set_cons_succ]
                        refine wpAny_take (i := 21) (oi := ?oid76) (v := ?vd76) ?hod76 (by kernel_rfl) ?hfd76 ?hrd76 ?hQd76 ?hyd76 ?restd76
                        case hod76 => (simp only [List.getElem?_toArray, List.getElem?_cons_succ, List.getElem?_cons_zero]; exact rfl)
                        case hfd76 => kernel_rfl
                        case hrd76 => kernel_rfl
                        case hQd76 => exact fun _ _ _ h => h
                        case hyd76 =>
                          refine Or.inl ⟨by rfl, ?_⟩
                          intro w
                          go_simp
                          (try with_reducible rfl)
                        try simp only [Act.put, List.setIfInBounds_toArray, List.set_cons_zero, List.set_cons_succ]
                        refine wpAny_take (i := 22) (oi := ?oid77) (v := ?vd77) ?hod77 (by kernel_rfl) ?hfd77 ?hrd77 ?hQd77 ?hyd77 ?restd77
                        case hod77 => (simp only [List.getElem?_toArray, List.getElem?_cons_succ, List.getElem?_cons_zero]; exact rfl)
                        case hfd77 => kernel_rfl
                        case hrd77 => kernel_rfl
                        case hQd77 => exact fun _ _ _ h => h
                        case hyd77 =>
                          refine Or.inl ⟨by rfl, ?_⟩
                          intro w
                          go_simp
                          (try with_reducible rfl)
                        try simp only [Act.put, List.setIfInBounds_toArray, List.set_cons_zero, List.set_cons_succ]
                        refine wpAny_take (i := 23) (oi := ?oid78) (v := ?vd78) ?hod78 (by kernel_rfl) ?hfd78 ?hrd78 ?hQd78 ?hyd78 ?restd78
                        case hod78 => (simp only [List.getElem?_toArray, List.getElem?_cons_succ, List.getElem?_cons_zero]; exact rfl)
                        case hfd78 => kernel_rfl
                        case hrd78 => kernel_rfl
                        case hQd78 => exact fun _ _ _ h => h
                        case hyd78 =>
                          refine Or.inl ⟨by rfl, ?_⟩
                          intro w
                          go_simp
                          (try with_reducible rfl)
                        try simp only [Act.put, List.setIfInBounds_toArray, List.set_cons_zero, List.set_cons_succ]
                        refine wpAny_take (i := 24) (oi := ?oid79) (v := ?vd79) ?hod79 (by kernel_rfl) ?hfd79 ?hrd79 ?hQd79 ?hyd79 ?restd79
                        case hod79 => (simp only [List.getElem?_toArray, List.getElem?_cons_succ, List.getElem?_cons_zero]; exact rfl)
                        case hfd79 => kernel_rfl
                        case hrd79 => kernel_rfl
                        case hQd79 => exact fun _ _ _ h => h
                        case hyd79 =>
                          refine Or.inl ⟨by rfl, ?_⟩
                          intro w
                          go_simp
                          (try with_reducible rfl)
                        try simp only [Act.put, List.setIfInBounds_toArray, List.set_cons_zero, List.set_cons_succ]
                        exact wpAny_done (by kernel_rfl) (hEnd _ hf0) _
                      exact AllReady.nil
                    exact AllReady.nil
                  exact AllReady.nil
                refine AllReady.cons (o := ?od80) ?hod80 (fun K hK => ?kd80) ?md80
                case hod80 => (simp only [List.getElem?_toArray, List.getElem?_cons_succ, List.getElem?_cons_zero]; exact rfl)
                case kd80 =>
                  refine anyd_loadS (by rfl) (.tmp 196) rfl p1 (o1 + j) _ (by rfl) hrow6 ?_
                  refine hK _ _ ?_
                  clear hK K
                  try simp only [Act.put, List.setIfInBounds_toArray, List.set_cons_zero, List.set_cons_succ]
                  refine wpAny_ready (rs := [8, 13]) (by kernel_rfl) (by simp) ?_
                  refine AllReady.cons (o := ?od81) ?hod81 (fun K hK => ?kd81) ?md81
                  case hod81 => (simp only [List.getElem?_toArray, List.getElem?_cons_succ, List.getElem?_cons_zero]; exact rfl)
                  case kd81 =>
                    refine anyd_str (by rfl) (.tmp 192) rfl _ _ _ _ ss (by rfl) ho6d ?_
                    refine hK _ _ ?_
                    clear hK K
                    try simp only [Act.put, List.setIfInBounds_toArray, List.set_cons_zero, List.set_cons_succ]
                    refine wpAny_ready (rs := [13]) (by kernel_rfl) (by simp) ?_
                    refine AllReady.cons (o := ?od82) ?hod82 (fun K hK => ?kd82) ?md82
                    case hod82 => (simp only [List.getElem?_toArray, List.getElem?_cons_succ, List.getElem?_cons_zero]; exact rfl)
                    case kd82 =>
                      refine anyd_str (by rfl) (.tmp 197) rfl _ _ _ _ ss (by rfl) hrr6 ?_
                      refine hK _ _ ?_
                      clear hK K
                      try simp only [Act.put, List.setIfInBounds_toArray, List.set_cons_zero, List.set_cons_succ]
                      refine wpAny_take (i := 14) (oi := ?oid83) (v := ?vd83) ?hod83 (by kernel_rfl) ?hfd83 ?hrd83 ?hQd83 ?hyd83 ?restd83
                      case hod83 => (simp only [List.getElem?_toArray, List.getElem?_cons_succ, List.getElem?_cons_zero]; exact rfl)
                      case hfd83 => kernel_rfl
                      case hrd83 => kernel_rfl
                      case hQd83 => exact fun _ _ _ h => h
                      case hyd83 =>
                        refine Or.inl ⟨by rfl, ?_⟩
                        intro w
                        go_simp
                        (try with_reducible rfl)
                      try simp only [Act.put, List.setIfInBounds_toArray, List.set_cons_zero, List.set_cons_succ]
                      refine wpAny_take (i := 15) (oi := ?oid84) (v := ?vd84) ?hod84 (by kernel_rfl) ?hfd84 ?hrd84 ?hQd84 ?hyd84 ?restd84
                      case hod84 => (simp only [List.getElem?_toArray, List.getElem?_cons_succ, List.getElem?_cons_zero]; exact rfl)
                      case hfd84 => kernel_rfl
                      case hrd84 => kernel_rfl
                      case hQd84 => exact fun _ _ _ h => h
                      case hyd84 =>
                        refine Or.inl ⟨by rfl, ?_⟩
                        intro w
                        go_simp
                        (try with_reducible rfl)
                      try simp only [Act.put, List.setIfInBounds_toArray, List.set_cons_zero, List.set_cons_succ]
                      refine wpAny_take (i := 16) (oi := ?oid85) (v := ?vd85) ?hod85 (by kernel_rfl) ?hfd85 ?hrd85 ?hQd85 ?hyd85 ?restd85
                      case hod85 => (simp only [List.getElem?_toArray, List.getElem?_cons_succ, List.getElem?_cons_zero]; exact rfl)
                      case hfd85 => kernel_rfl
                      case hrd85 => kernel_rfl
                      case hQd85 => exact fun _ _ _ h => h
                      case hyd85 =>
                        refine Or.inl ⟨by rfl, ?_⟩
                        intro w
                        go_simp
                        (try with_reducible rfl)
                      try simp only [Act.put, List.setIfInBounds_toArray, List.set_cons_zero, List.set_cons_succ]
                      refine wpAny_take (i := 17) (oi := ?oid86) (v := ?vd86) ?hod86 (by kernel_rfl) ?hfd86 ?hrd86 ?hQd86 ?hyd86 ?restd86
                      case hod86 => (simp only [List.getElem?_toArray, List.getElem?_cons_succ, List.getElem?_cons_zero]; exact rfl)
                      case hfd86 => kernel_rfl
                      case hrd86 => kernel_rfl
                      case hQd86 => exact fun _ _ _ h => h
                      case hyd86 =>
                        refine Or.inl ⟨by rfl, ?_⟩
                        intro w
                        go_simp
                        (try with_reducible rfl)
                      try simp only [Act.put, List.setIfInBounds_toArray, List.set_cons_zero, List.set_cons_succ]
                      refine wpAny_take (i := 18) (oi := ?oid87) (v := ?vd87) ?hod87 (by kernel_rfl) ?hfd87 ?hrd87 ?hQd87 ?hyd87 ?restd87
                      case hod87 => (simp only [List.getElem?_toArray, List.getElem?_cons_succ, List.getElem?_cons_zero]; exact rfl)
                      case hfd87 => kernel_rfl
                      case hrd87 => kernel_rfl
                      case hQd87 => exact fun _ _ _ h => h
                      case hyd87 =>
                        refine Or.inl ⟨by rfl, ?_⟩
                        intro w
                        go_simp
                        (try with_reducible rfl)
                      try simp only [Act.put, List.setIfInBounds_toArray, List.set_cons_zero, List.set_cons_succ]
                      refine wpAny_take (i := 19) (oi := ?oid88) (v := ?vd88) ?hod88 (by kernel_rfl) ?hfd88 ?hrd88 ?hQd88 ?hyd88 ?restd88
                      case hod88 => (simp only [List.getElem?_toArray, List.getElem?_cons_succ, List.getElem?_cons_zero]; exact rfl)
                      case hfd88 => kernel_rfl
                      case hrd88 => kernel_rfl
                      case hQd88 => exact fun _ _ _ h => h
                      case hyd88 =>
                        refine Or.inl ⟨by rfl, ?_⟩
                        intro w
                        go_simp
                        (try with_reducible rfl)
                      try simp only [Act.put, List.setIfInBounds_toArray, List.set_cons_zero, List.set_cons_succ]
                      refine wpAny_ready (rs := [20]) (by kernel_rfl) (by simp) ?_
                      refine AllReady.cons (o := ?od89) ?hod89 (fun K hK => ?kd89) ?md89
                      case hod89 => (simp only [List.getElem?_toArray, List.getElem?_cons_succ, List.getElem?_cons_zero]; exact rfl)
                      case kd89 =>
                        refine anyd_loadI (by rfl) (.tmp 204) rfl pe (oe + (mn)) _ (by rfl) hce6 ?_
                        refine hK _ _ ?_
                        clear hK K
                        try simp only [Act.put, List.setIfInBounds_toArray, List.set_cons_zero, List.set_cons_succ]
                        refine wpAny_take (i := 21) (oi := ?oid90) (v := ?vd90) ?hod90 (by kernel_rfl) ?hfd90 ?hrd90 ?hQd90 ?hyd90 ?restd90
                        case hod90 => (simp only [List.getElem?_toArray, List.getElem?_cons_succ, List.getElem?_cons_zero]; exact rfl)
                        case hfd90 => kernel_rfl
                        case hrd90 => kernel_rfl
                        case hQd90 => exact fun _ _ _ h => h
                        case hyd90 =>
                          refine Or.inl ⟨by rfl, ?_⟩
                          intro w
                          go_simp
                          (try with_reducible rfl)
                        try simp only [Act.put, List.setIfInBounds_toArray, List.set_cons_zero, List.set_cons_succ]
                        refine wpAny_take (i := 22) (oi := ?oid91) (v := ?vd91) ?hod91 (by kernel_rfl) ?hfd91 ?hrd91 ?hQd91 ?hyd91 ?restd91
                        case hod91 => (simp only [List.getElem?_toArray, List.getElem?_cons_succ, List.getElem?_cons_zero]; exact rfl)
                        case hfd91 => kernel_rfl
                        case hrd91 => kernel_rfl
                        case hQd91 => exact fun _ _ _ h => h
                        case hyd91 =>
                          refine Or.inl ⟨by rfl, ?_⟩
                          intro w
                          go_simp
                          (try with_reducible rfl)
                        try simp only [Act.put, List.setIfInBounds_toArray, List.set_cons_zero, List.set_cons_succ]
                        refine wpAny_take (i := 23) (oi := ?oid92) (v := ?vd92) ?hod92 (by kernel_rfl) ?hfd92 ?hrd92 ?hQd92 ?hyd92 ?restd92
                        case hod92 => (simp only [List.getElem?_toArray, List.getElem?_cons_succ, List.getElem?_cons_zero]; exact rfl)
                        case hfd92 => kernel_rfl
                        case hrd92 => kernel_rfl
                        case hQd92 => exact fun _ _ _ h => h
                        case hyd92 =>
                          refine Or.inl ⟨by rfl, ?_⟩
                          intro w
                          go_simp
                          (try with_reducible rfl)
                        try simp only [Act.put, List.setIfInBounds_toArray, List.set_cons_zero, List.set_cons_succ]
                        refine wpAny_take (i := 24) (oi := ?oid93) (v := ?vd93) ?hod93 (by kernel_rfl) ?hfd93 ?hrd93 ?hQd93 ?hyd93 ?restd93
                        case hod93 => (simp only [List.getElem?_toArray, List.getElem?_cons_succ, List.getElem?_cons_zero]; exact rfl)
                        case hfd93 => kernel_rfl
                        case hrd93 => kernel_rfl
                        case hQd93 => exact fun _ _ _ h => h
                        case hyd93 =>
                          refine Or.inl ⟨by rfl, ?_⟩
                          intro w
                          go_simp
                          (try with_reducible rfl)
                        try simp only [Act.put, List.setIfInBounds_toArray, List.set_cons_zero, List.set_cons_succ]
                        exact wpAny_done (by kernel_rfl) (hEnd _ hf0) _
                      exact AllReady.nil
                    exact AllReady.nil
                  refine AllReady.cons (o := ?od94) ?hod94 (fun K hK => ?kd94) ?md94
                  case hod94 => (simp only [List.getElem?_toArray, List.getElem?_cons_succ, List.getElem?_cons_zero]; exact rfl)
                  case kd94 =>
                    refine anyd_str (by rfl) (.tmp 197) rfl _ _ _ _ ss (by rfl) hrr6 ?_
                    refine hK _ _ ?_
                    clear hK K
                    try simp only [Act.put, List.setIfInBounds_toArray, List.set_cons_zero, List.set_cons_succ]
                    refine wpAny_ready (rs := [8]) (by kernel_rfl) (by simp) ?_
                    refine AllReady.cons (o := ?od95) ?hod95 (fun K hK => ?kd95) ?md95
                    case hod95 => (simp only [List.getElem?_toArray, List.getElem?_cons_succ, List.getElem?_cons_zero]; exact rfl)
                    case kd95 =>
                      refine anyd_str (by rfl) (.tmp 192) rfl _ _ _ _ ss (by rfl) ho6d ?_
                      refine hK _ _ ?_
                      clear hK K
                      try simp only [Act.put, List.setIfInBounds_toArray, List.set_cons_zero, List.set_cons_succ]
                      refine wpAny_take (i := 14) (oi := ?oid96) (v := ?vd96) ?hod96 (by kernel_rfl) ?hfd96 ?hrd96 ?hQd96 ?hyd96 ?restd96
                      case hod96 => (simp only [List.getElem?_toArray, List.getElem?_cons_succ, List.getElem?_cons_zero]; exact rfl)
                      case hfd96 => kernel_rfl
                      case hrd96 => kernel_rfl
                      case hQd96 => exact fun _ _ _ h => h
                      case hyd96 =>
                        refine Or.inl ⟨by rfl, ?_⟩
                        intro w
                        go_simp
                        (try with_reducible rfl)
                      try simp only [Act.put, List.setIfInBounds_toArray, List.set_cons_zero, List.set_cons_succ]
                      refine wpAny_take (i := 15) (oi := ?oid97) (v := ?vd97) ?hod97 (by kernel_rfl) ?hfd97 ?hrd97 ?hQd97 ?hyd97 ?restd97
                      case hod97 => (simp only [List.getElem?_toArray, List.getElem?_cons_succ, List.getElem?_cons_zero]; exact rfl)
                      case hfd97 => kernel_rfl
                      case hrd97 => kernel_rfl
                      case hQd97 => exact fun _ _ _ h => h
                      case hyd97 =>
                        refine Or.inl ⟨by rfl, ?_⟩
                        intro w
                        go_simp
                        (try with_reducible rfl)
                      try simp only [Act.put, List.setIfInBounds_toArray, List.set_cons_zero, List.set_cons_succ]
                      refine wpAny_take (i := 16) (oi := ?oid98) (v := ?vd98) ?hod98 (by kernel_rfl) ?hfd98 ?hrd98 ?hQd98 ?hyd98 ?restd98
                      case hod98 => (simp only [List.getElem?_toArray, List.getElem?_cons_succ, List.getElem?_cons_zero]; exact rfl)
                      case hfd98 => kernel_rfl
                      case hrd98 => kernel_rfl
                      case hQd98 => exact fun _ _ _ h => h
                      case hyd98 =>
                        refine Or.inl ⟨by rfl, ?_⟩
                        intro w
                        go_simp
                        (try with_reducible rfl)
                      try simp only [Act.put, List.setIfInBounds_toArray, List.set_cons_zero, List.set_cons_succ]
                      refine wpAny_take (i := 17) (oi := ?oid99) (v := ?vd99) ?hod99 (by kernel_rfl) ?hfd99 ?hrd99 ?hQd99 ?hyd99 ?restd99
                      case hod99 => (simp only [List.getElem?_toArray, List.getElem?_cons_succ, List.getElem?_cons_zero]; exact rfl)
                      case hfd99 => kernel_rfl
                      case hrd99 => kernel_rfl
                      case hQd99 => exact fun _ _ _ h => h
                      case hyd99 =>
                        refine Or.inl ⟨by rfl, ?_⟩
                        intro w
                        go_simp
                        (try with_reducible rfl)
                      try simp only [Act.put, List.setIfInBounds_toArray, List.set_cons_zero, List.set_cons_succ]
                      refine wpAny_take (i := 18) (oi := ?oid100) (v := ?vd100) ?hod100 (by kernel_rfl) ?hfd100 ?hrd100 ?hQd100 ?hyd100 ?restd100
                      case hod100 => (simp only [List.getElem?_toArray, List.getElem?_cons_succ, List.getElem?_cons_zero]; exact rfl)
                      case hfd100 => kernel_rfl
                      case hrd100 => kernel_rfl
                      case hQd100 => exact fun _ _ _ h => h
                      case hyd100 =>
                        refine Or.inl ⟨by rfl, ?_⟩
                        intro w
                        go_simp
                        (try with_reducible rfl)
                      try simp only [Act.put, List.setIfInBounds_toArray, List.set_cons_zero, List.set_cons_succ]
                      refine wpAny_take (i := 19) (oi := ?oid101) (v := ?vd101) ?hod101 (by kernel_rfl) ?hfd101 ?hrd101 ?hQd101 ?hyd101 ?restd101
                      case hod101 => (simp only [List.getElem?_toArray, List.getElem?_cons_succ, List.getElem?_cons_zero]; exact rfl)
                      case hfd101 => kernel_rfl
                      case hrd101 => kernel_rfl
                      case hQd101 => exact fun _ _ _ h => h
                      case hyd101 =>
                        refine Or.inl ⟨by rfl, ?_⟩
                        intro w
                        go_simp
                        (try with_reducible rfl)
                      try simp only [Act.put, List.setIfInBounds_toArray, List.set_cons_zero, List.set_cons_succ]
                      refine wpAny_ready (rs := [20]) (by kernel_rfl) (by simp) ?_
                      refine AllReady.cons (o := ?od102) ?hod102 (fun K hK => ?kd102) ?md102
                      case hod102 => (simp only [List.getElem?_toArray, List.getElem?_cons_succ, List.getElem?_cons_zero]; exact rfl)
                      case kd102 =>
                        refine anyd_loadI (by rfl) (.tmp 204) rfl pe (oe + (mn)) _ (by rfl) hce6 ?_
                        refine hK _ _ ?_
                        clear hK K
                        try simp only [Act.put, List.setIfInBounds_toArray, List.set_cons_zero, List.set_cons_succ]
                        refine wpAny_take (i := 21) (oi := ?oid103) (v := ?vd103) ?hod103 (by kernel_rfl) ?hfd103 ?hrd103 ?hQd103 ?hyd103 ?restd103
                        case hod103 => (simp only [List.getElem?_toArray, List.getElem?_cons_succ, List.getElem?_cons_zero]; exact rfl)
                        case hfd103 => kernel_rfl
                        case hrd103 => kernel_rfl
                        case hQd103 => exact fun _ _ _ h => h
                        case hyd103 =>
                          refine Or.inl ⟨by rfl, ?_⟩
                          intro w
                          go_simp
                          (try with_reducible rfl)
                        try simp only [Act.put, List.setIfInBounds_toArray, List.set_cons_zero, List.set_cons_succ]
                        refine wpAny_take (i := 22) (oi := ?oid104) (v := ?vd104) ?hod104 (by kernel_rfl) ?hfd104 ?hrd104 ?hQd104 ?hyd104 ?restd104
                        case hod104 => (simp only [List.getElem?_toArray, List.getElem?_cons_succ, List.getElem?_cons_zero]; exact rfl)
                        case hfd104 => kernel_rfl
                        case hrd104 => kernel_rfl
                        case hQd104 => exact fun _ _ _ h => h
                        case hyd104 =>
                          refine Or.inl ⟨by rfl, ?_⟩
                          intro w
                          go_simp
                          (try with_reducible rfl)
                        try simp only [Act.put, List.setIfInBounds_toArray, List.set_cons_zero, List.set_cons_succ]
                        refine wpAny_take (i := 23) (oi := ?oid105) (v := ?vd105) ?hod105 (by kernel_rfl) ?hfd105 ?hrd105 ?hQd105 ?hyd105 ?restd105
                        case hod105 => (simp only [List.getElem?_toArray, List.getElem?_cons_succ, List.getElem?_cons_zero]; exact rfl)
                        case hfd105 => kernel_rfl
                        case hrd105 => kernel_rfl
                        case hQd105 => exact fun _ _ _ h => h
                        case hyd105 =>
                          refine Or.inl ⟨by rfl, ?_⟩
                          intro w
                          go_simp
                          (try with_reducible rfl)
                        try simp only [Act.put, List.setIfInBounds_toArray, List.set_cons_zero, List.set_cons_succ]
                        refine wpAny_take (i := 24) (oi := ?oid106) (v := ?vd106) ?hod106 (by kernel_rfl) ?hfd106 ?hrd106 ?hQd106 ?hyd106 ?restd106
                        case hod106 => (simp only [List.getElem?_toArray, List.getElem?_cons_succ, List.getElem?_cons_zero]; exact rfl)
                        case hfd106 => kernel_rfl
                        case hrd106 => kernel_rfl
                        case hQd106 => exact fun _ _ _ h => h
                        case hyd106 =>
                          refine Or.inl ⟨by rfl, ?_⟩
                          intro w
                          go_simp
                          (try with_reducible rfl)
                        try simp only [Act.put, List.setIfInBounds_toArray, List.set_cons_zero, List.set_cons_succ]
                        exact wpAny_done (by kernel_rfl) (hEnd _ hf0) _
                      exact AllReady.nil
                    exact AllReady.nil
                  exact AllReady.nil
                exact AllReady.nil
              case cd54 =>
                rintro V rfl
                repeat go_step
                go_roundw
                case rel => exact ⟨j + 1, e2, mn + 1, by go_num, by go_num, by go_num, by omega, HAA.out, Hn1.out, by omega, hbd⟩
                case measure => simp [intOf]; omega
            · have HAN3 := Lib.hid (by have := HAN2.out; rw [if_neg hw3] at this; exact this)
              have hw4 : decide ((e2 : Int) ≤ (K : Int)) = false := by simp; omega
              have hw5 : decide (e2 ≤ K) = false := by simp; omega
              refine (takeBytes_any Ab K cb a 300 (E.take K) _ ((hcutK _ hbx).more hbx.size) (by omega) (by omega) (by omega) (by omega) _ _ _ HAN3.out).mono ?_
              rintro e w6 ⟨A6, c6, m6, rfl, ho6, hb6⟩
              have hb6q := hbx.trans (hb6.mono hbx.size)
              have hrow6 : w6.cell? ⟨p1, o1 + j, none⟩ = some (.slice Ar Lr Cr) := by rw [(hbr.trans (hb6q.mono hbr.size)).cell hp1, ← (hbr.trans (hbx.mono hbr.size)).cell hp1]; exact hrow
              have hce6 : w6.cell? ⟨pe, oe + (mn), none⟩ = some (.int .i64 (e2 : Int)) := by rw [hb6q.cell hpe, ← hbx.cell hpe]; exact hce2
              have k1 := run_conv_str (P := Try.prog) w6 22 9 5 Try.underlying22 Try.underlying5 Try.underlying9 _ A6 m6 c6 _ ho6.rd
              have k2 := run_conv_str (P := Try.prog) w6 22 9 5 Try.underlying22 Try.underlying5 Try.underlying9 _ Ar Lr Cr ss (hrrd.below (hbr.trans (hb6q.mono hbr.size)))
              ((try dsimp only); (repeat (first | go_skip | go_guarded | go_step)))
              go_quiet (fail)
              have hbn : Below wq.heap.size wq (w6.drewN nq) := ⟨hb6q.os, hb6q.tape, hb6q.output, hb6q.size, hb6q.block⟩
              go_wp2_with (go_at_call 9; refine (works_any _).mono ?_; rintro e wk ⟨rfl, hbk⟩)
              go_ret
              exact ⟨rfl, (hbr.trans (hbn.mono hbr.size)).trans (hbk.mono (Nat.le_trans hbr.size hbn.size))⟩
        · obtain rfl : n1 = j := by omega
          have hmx : decide ((n1 : Int) < (n1 : Int)) = false := by simp
          have hend : ((a : Int) == (nb : Int)) = true := by rw [ha, HE.out, hEl]; simp
          have HA := Lib.hid ha
          have HMN := Lib.hid hmn
          clear ha hmn
          go_wp2_with (go_at_call 9; refine (works_any _).mono ?_; rintro e wk ⟨rfl, hbk⟩)
          go_ret
          exact ⟨rfl, (hbr.trans (hbx.mono hbr.size)).trans (hbk.mono (Nat.le_trans hbr.size hbx.size))⟩
end Go.Proofs.Ytdoonjldnehbdaa.octetRows
