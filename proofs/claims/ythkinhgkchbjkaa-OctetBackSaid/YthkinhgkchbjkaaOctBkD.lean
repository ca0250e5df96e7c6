/- OctetBack: what was put is taken, whatever stands ahead and behind; what is taken is put as it stood. No condition. -/
import Derived.Test.YthkinhgkchbjkaaOctK
import Derived.Test.YthkinhgkchbjkaaOctBk
import Derived.Deep.RegionWith
import Derived.Deep.RegionHeld3
import Derived.BigQuiet
import Derived.Deep.QuietTactic
set_option linter.unusedVariables false
set_option linter.unusedSimpArgs false
namespace Go.Proofs.Ythkinhgkchbjkaa.octetBack
open Go Go.RowKit Go.ChangeShapes Go.WideShapes Go.ChangeAt

set_option maxRecDepth 100000 in
set_option maxHeartbeats 4000000 in
theorem walkD (A0 A1 A2 A3 : Option Addr) (n0 c0 n1 c1 n2 c2 n3 c3 : Nat) (b0 b1 b2 b3 : List UInt8) (N z : Nat) (w : World) (hr0 : Rd w w.heap.size 1 A0 n0 (b0.map bv)) (hr1 : Rd w w.heap.size 1 A1 n1 (b1.map bv)) (hr2 : Rd w w.heap.size 1 A2 n2 (b2.map bv)) (hr3 : Rd w w.heap.size 1 A3 n3 (b3.map bv))
    (hc3 : n3 ≤ c3) (hm3 : c3 ≤ 140737488351232) (hN : N < 18446744073709551616) (hz : z < 256) (hv0 : n0 ≤ 8192) (hv1 : n1 ≤ 8192) (hv2 : n2 ≤ 8192) (hv3 : n3 ≤ 8192) (hz8 : z % 8 = 7) (m x h : Nat) (hh : tvAns b3 0 = (m, x, h)) (hh0 : h ≠ 0) :
    Calls Try.prog 5 #[.slice A0 n0 c0, .slice A1 n1 c1, .slice A2 n2 c2, .slice A3 n3 c3, .int .u64 (N : Int), .int .u8 (z : Int)] w fun e w' => e = .returned (.bool true) ∧ Below w.heap.size w w' := by
  · obtain ⟨kk, hkk⟩ : ∃ kk, 1 + z % 8 = kk := ⟨_, rfl⟩
    obtain ⟨K, hK⟩ : ∃ K, K = 256 ^ kk := ⟨_, rfl⟩
    have hKpos : 0 < K := by rw [hK]; exact Nat.pow_pos (by omega)
    have hki : (1 + (z : Int) % 8).toNat = kk := by omega
    have HK := Lib.hid hki
    have HKK := Lib.hid hK
    have hk1 : kk ≤ 8 := by omega
    obtain ⟨rfl, rfl⟩ := tvAns_zero hh hh0
    have hh4 : ((0 : Int) == (h : Int)) = false := by simp; omega
    have hh5 : ((h : Int) == 0) = false := by simp; omega
    have HH := Lib.hid hh
    clear hh
    have hl0 := Lib.hid (show b0.length = n0 by simpa using hr0.len1)
    have hl1 := Lib.hid (show b1.length = n1 by simpa using hr1.len1)
    have HKZ := Lib.hid hkk
    clear hki hK hkk
    go_enter Try.func5, Try.ntmps5
    go_wp2_with fail
    refine (vast_no A0 n0 c0 _ hv0).mono ?_
    rintro e w1 ⟨rfl, rfl⟩
    go_wp2_with fail
    refine (vast_no A1 n1 c1 _ hv1).mono ?_
    rintro e w1 ⟨rfl, rfl⟩
    go_wp2_with fail
    refine (vast_no A2 n2 c2 _ hv2).mono ?_
    rintro e w1 ⟨rfl, rfl⟩
    go_wp2_with fail
    refine (vast_no A3 n3 c3 _ hv3).mono ?_
    rintro e w1 ⟨rfl, rfl⟩
    go_wp2_with fail
    refine (put_any A0 n0 c0 b0 N (1 + (z : Int) % 8) _ hr0 (by omega) (by omega) (by omega) (by omega)).mono ?_
    rintro e wa ⟨Aa, na, ca, rfl, hoa, hba⟩
    rw [Int.toNat_natCast, HK.out] at hoa
    have hna := hoa.len
    have hbwa := hba
    go_wp2_with fail
    refine (putVar_any Aa na ca _ N _ hoa.rd (by omega) (by omega) (by have := hl0.out; have := beB_len N kk; simp at hna; omega)).mono ?_
    rintro e wb ⟨Ab, nb, cb, rfl, hob, hbb⟩
    rw [Int.toNat_natCast] at hob
    have hbwb := hbwa.trans (hbb.mono hbwa.size)
    have hnb8 : nb ≤ 8300 := by have h1 := hob.len; have h2 := hl0.out; have h3 := beB_len N kk; have h4 := var_len N; simp at h1; omega
    go_wp2_with fail
    refine (putBytes_any Ab nb cb _ A1 n1 c1 b1 _ hob.rd ((hr1.below hbwb).more hbwb.size) (by omega)).mono ?_
    rintro e wc ⟨Ac, nc, cc, rfl, hoc, hbc⟩
    have hbwc := hbwb.trans (hbc.mono hbwb.size)
    have hnc8 : nc ≤ 17000 := by have h1 := hob.len; have h2 := hoc.len; have h3 := hl1.out; have h4 := var_len n1; simp at h1 h2; omega
    go_wp2_with (first
      | (at_builtin; refine app8 _ rfl (.tmp 72) (.tmp 73) rfl w.heap.size _ _ 0 [] rfl (owLit0 wc _ hbwc.size) wc.heap.size Ac nc cc _ rfl (hoc.rd.alloc (Nat.le_refl _) _) (by omega) (by have := hbwc.size; simp; omega) ?_; intro Ad cd wd hod hbd _; rw [Nat.zero_add] at hod; have hbwd := (hbwc.alloc hbwc.size (.cells #[] 5)).trans hbd)
      | (at_builtin; refine app8 _ rfl (.tmp 74) (.tmp 75) rfl w.heap.size Ad cd nc _ rfl hod w.heap.size A2 n2 c2 b2 rfl (hr2.below hbwd) (by omega) hbwd.size ?_; intro Ae ce we hoe hbe _; have hbwe := hbwd.trans hbe))
    obtain ⟨HE, hE⟩ : ∃ q, q = [] ++ (b0 ++ beB N kk ++ var N ++ var n1 ++ b1) ++ b2 := ⟨_, rfl⟩
    rw [← hE] at hoe
    have hce := hoe.le
    obtain ⟨f1, f2, f3, f4⟩ := facts b0 b1 b2 HE N kk n0 n1 na nb nc hl0.out hl1.out hE hoa.len hob.len hoc.len hN hv1
    have F1 := Lib.hid f1
    have F2 := Lib.hid f2
    have F3 := Lib.hid f3
    have F4 := Lib.hid f4
    have hnn : n0 + kk ≤ nc + n2 := by have h1 := hob.len; have h2 := hoc.len; have h3 := hoa.len; simp at h1 h2 h3; omega
    clear f1 f2 f3 f4 hE hna
    have hk8 : kk = 8 := by have := HKZ.out; omega
    have F8 := Lib.hid (F1.out.trans (Nat.mod_eq_of_lt (show N < 256 ^ kk by subst hk8; omega)))
    clear hk8
    refine (take_v Ae (nc + n2) ce n0 (1 + (z : Int) % 8) HE _ we hoe.rd hce (by omega) (by omega) (by rw [HK.out]; exact hnn) N na (by rw [HK.out]; exact F8.out) (by rw [HK.out]; exact F2.out)).mono ?_
    rintro e w1 ⟨rfl, rfl⟩
    go_wp2_with fail
    refine (takeVar_any Ae (nc + n2) ce _ na HE _ hoe.rd hce (by omega) N nb 0 F3.out).mono ?_
    rintro e w1 ⟨rfl, rfl⟩
    go_wp2_with fail
    refine (takeBytes_any Ae (nc + n2) ce nb n1 HE _ hoe.rd hce (by omega) (by omega) (by omega) b1 nc 0 F4.out).mono ?_
    rintro e wf ⟨Af, cf, mf, rfl, hof, hbf⟩
    have hbwf := hbwe.trans (hbf.mono hbwe.size)
    have k1 := run_conv_str (P := Try.prog) wf 22 9 5 Try.underlying22 Try.underlying5 Try.underlying9 _ Af mf cf _ hof.rd
    have k2 := run_conv_str (P := Try.prog) wf 22 9 5 Try.underlying22 Try.underlying5 Try.underlying9 _ A1 n1 c1 b1 (hr1.below hbwf)
    go_wp2_with fail
    clear k1 k2
    refine (takeVar_any A3 n3 c3 _ 0 b3 _ (hr3.below hbwf) hc3 (by omega) 0 0 h HH.out).mono ?_
    rintro e w1 ⟨rfl, rfl⟩
    have hd1 : Below w.heap.size w wf.drew := hbwf.drew
    go_wp2_with fail
    go_quiet (fail)
    have hbwg : Below w.heap.size w (wf.drewN nq) := ⟨hbwf.os, hbwf.tape, hbwf.output, hbwf.size, hbwf.block⟩
    obtain ⟨ss, x', z', hT⟩ : ∃ ss x' z', tbAns b3 0 (n3 : Int) = (ss, x', z') := ⟨_, _, _, rfl⟩
    go_wp2_with fail
    refine (takeBytes_any A3 n3 c3 0 n3 b3 _ ((hr3.below hbwg).more hbwg.size) hc3 (by omega) (by omega) (by omega) ss x' z' hT).mono ?_
    rintro e wh ⟨Ah, ch, mh, rfl, hoh, hbh⟩
    have hbwh := hbwg.trans (hbh.mono hbwg.size)
    have hd2 : Below w.heap.size w wh.drew := hbwh.drew
    clear hbh hd1
    by_cases hz0 : z' = 0
    · subst hz0
      obtain ⟨ht1, ht2, ht3⟩ := tbAns_back hT
      have hx3' : x' ≤ n3 := by have : b3.length = n3 := by simpa using hr3.len1
                                omega
      have hmh := hoh.len
      have hml : mh ≤ 8300 := by
        have := congrArg List.length ht1
        simp only [List.length_append, List.length_take] at this
        omega
      have hcutw : ∀ W : World, Below w.heap.size w W → (convert 22 9 (.slice A3 x' c3)).run Try.prog W = .ok (strV (b3.take x')) W := by
        intro W hW
        refine run_conv_str (P := Try.prog) W 22 9 5 Try.underlying22 Try.underlying5 Try.underlying9 w.heap.size _ _ _ _ ?_
        have h := (hr3.below hW).cut (k := 0) (m := x') (cap := c3) (by omega) hx3' hc3
        have hA : (if c3 = 0 then A3 else A3.map (fun y => y.add (0 * 1))) = A3 := by
          split
          · rfl
          · cases A3 <;> simp [Addr.add]
        rw [hA] at h
        simpa using h
      have hq : (var mh ++ ss == b3.take x') = true := by rw [← ht1, ← hmh]; simp
      have hi0 : (0 : Int) ≤ (x' : Int) := by omega
      have hi1 : (x' : Int) ≤ (c3 : Int) := by omega
      have hg1 : decide ((x' : Int) ≤ (n3 : Int)) = true := by simp; omega
      have hg2 : decide (x' ≤ n3) = true := by simp; omega
      have hg3 : decide ((1 : Int) ≤ (x' : Int)) = true := by simp; omega
      have hg4 : decide (1 ≤ x') = true := by simp; omega
      clear hT ht1
      go_wp2_with fail
      refine wp_region_held_drew (S := fun w' => (convert 22 9 (.slice A3 x' c3)).run Try.prog w' = .ok (strV (b3.take x')) w') (by kernel_rfl) ?_ (fun hHeld => ?_)
      · (try dsimp only)
        first | exact hcutw _ hd2 | exact hcutw _ hbwi | exact hcutw _ hbwk
      refine wpAnyH_take (i := 0) (oi := ?oi_1) (v := ?v_1) ?ho_1 (by kernel_rfl) ?hf_1 ?hr_1 ?hQ_1 ?hy_1 (by assumption) ?rest_1
      case ho_1 => (simp only [List.getElem?_toArray, List.getElem?_cons_succ, List.getElem?_cons_zero]; exact rfl)
      case hf_1 => kernel_rfl
      case hr_1 => kernel_rfl
      case hQ_1 => exact fun _ _ _ h => h
      case hy_1 =>
        refine Or.inl ⟨by rfl, ?_⟩
        intro w hSw
        (try dsimp only at hSw)
        go_simp
        (try with_reducible rfl)
      try simp only [Act.put, List.setIfInBounds_toArray, List.set_cons_zero, List.set_cons_succ]
      refine wpAnyH_take (i := 1) (oi := ?oi_2) (v := ?v_2) ?ho_2 (by kernel_rfl) ?hf_2 ?hr_2 ?hQ_2 ?hy_2 (by assumption) ?rest_2
      case ho_2 => (simp only [List.getElem?_toArray, List.getElem?_cons_succ, List.getElem?_cons_zero]; exact rfl)
      case hf_2 => kernel_rfl
      case hr_2 => kernel_rfl
      case hQ_2 => exact fun _ _ _ h => h
      case hy_2 =>
        refine Or.inl ⟨by rfl, ?_⟩
        intro w hSw
        (try dsimp only at hSw)
        go_simp
        (try with_reducible rfl)
      try simp only [Act.put, List.setIfInBounds_toArray, List.set_cons_zero, List.set_cons_succ]
      refine wpAnyH_take (i := 2) (oi := ?oi_3) (v := ?v_3) ?ho_3 (by kernel_rfl) ?hf_3 ?hr_3 ?hQ_3 ?hy_3 (by assumption) ?rest_3
      case ho_3 => (simp only [List.getElem?_toArray, List.getElem?_cons_succ, List.getElem?_cons_zero]; exact rfl)
      case hf_3 => kernel_rfl
      case hr_3 => kernel_rfl
      case hQ_3 => exact fun _ _ _ h => h
      case hy_3 =>
        refine Or.inl ⟨by rfl, ?_⟩
        intro w hSw
        (try dsimp only at hSw)
        go_simp
        (try with_reducible rfl)
      try simp only [Act.put, List.setIfInBounds_toArray, List.set_cons_zero, List.set_cons_succ]
      refine wpAnyH_take (i := 3) (oi := ?oi_4) (v := ?v_4) ?ho_4 (by kernel_rfl) ?hf_4 ?hr_4 ?hQ_4 ?hy_4 (by assumption) ?rest_4
      case ho_4 => (simp only [List.getElem?_toArray, List.getElem?_cons_succ, List.getElem?_cons_zero]; exact rfl)
      case hf_4 => kernel_rfl
      case hr_4 => kernel_rfl
      case hQ_4 => exact fun _ _ _ h => h
      case hy_4 =>
        refine Or.inl ⟨by rfl, ?_⟩
        intro w hSw
        (try dsimp only at hSw)
        go_simp
        (try with_reducible rfl)
      try simp only [Act.put, List.setIfInBounds_toArray, List.set_cons_zero, List.set_cons_succ]
      refine wpAnyH_take (i := 4) (oi := ?oi_5) (v := ?v_5) ?ho_5 (by kernel_rfl) ?hf_5 ?hr_5 ?hQ_5 ?hy_5 (by assumption) ?rest_5
      case ho_5 => (simp only [List.getElem?_toArray, List.getElem?_cons_succ, List.getElem?_cons_zero]; exact rfl)
      case hf_5 => kernel_rfl
      case hr_5 => kernel_rfl
      case hQ_5 => exact fun _ _ _ h => h
      case hy_5 =>
        refine Or.inl ⟨by rfl, ?_⟩
        intro w hSw
        (try dsimp only at hSw)
        go_simp
        (try with_reducible rfl)
      try simp only [Act.put, List.setIfInBounds_toArray, List.set_cons_zero, List.set_cons_succ]
      refine wpAnyH_take (i := 5) (oi := ?oi_6) (v := ?v_6) ?ho_6 (by kernel_rfl) ?hf_6 ?hr_6 ?hQ_6 ?hy_6 (by assumption) ?rest_6
      case ho_6 => (simp only [List.getElem?_toArray, List.getElem?_cons_succ, List.getElem?_cons_zero]; exact rfl)
      case hf_6 => kernel_rfl
      case hr_6 => kernel_rfl
      case hQ_6 => exact fun _ _ _ h => h
      case hy_6 =>
        refine Or.inl ⟨by rfl, ?_⟩
        intro w hSw
        (try dsimp only at hSw)
        go_simp
        (try with_reducible rfl)
      try simp only [Act.put, List.setIfInBounds_toArray, List.set_cons_zero, List.set_cons_succ]
      refine wpAnyH_take (i := 6) (oi := ?oi_7) (v := ?v_7) ?ho_7 (by kernel_rfl) ?hf_7 ?hr_7 ?hQ_7 ?hy_7 (by assumption) ?rest_7
      case ho_7 => (simp only [List.getElem?_toArray, List.getElem?_cons_succ, List.getElem?_cons_zero]; exact rfl)
      case hf_7 => kernel_rfl
      case hr_7 => kernel_rfl
      case hQ_7 => exact fun _ _ _ h => h
      case hy_7 =>
        refine Or.inl ⟨by rfl, ?_⟩
        intro w hSw
        (try dsimp only at hSw)
        go_simp
        (try with_reducible rfl)
      try simp only [Act.put, List.setIfInBounds_toArray, List.set_cons_zero, List.set_cons_succ]
      refine wpAnyH_take (i := 7) (oi := ?oi_8) (v := ?v_8) ?ho_8 (by kernel_rfl) ?hf_8 ?hr_8 ?hQ_8 ?hy_8 (by assumption) ?rest_8
      case ho_8 => (simp only [List.getElem?_toArray, List.getElem?_cons_succ, List.getElem?_cons_zero]; exact rfl)
      case hf_8 => kernel_rfl
      case hr_8 => kernel_rfl
      case hQ_8 => exact fun _ _ _ h => h
      case hy_8 =>
        refine Or.inl ⟨by rfl, ?_⟩
        intro w hSw
        (try dsimp only at hSw)
        go_simp
        (try with_reducible rfl)
      try simp only [Act.put, List.setIfInBounds_toArray, List.set_cons_zero, List.set_cons_succ]
      refine wpAnyH_take (i := 8) (oi := ?oi_9) (v := ?v_9) ?ho_9 (by kernel_rfl) ?hf_9 ?hr_9 ?hQ_9 ?hy_9 (by assumption) ?rest_9
      case ho_9 => (simp only [List.getElem?_toArray, List.getElem?_cons_succ, List.getElem?_cons_zero]; exact rfl)
      case hf_9 => kernel_rfl
      case hr_9 => kernel_rfl
      case hQ_9 => exact fun _ _ _ h => h
      case hy_9 =>
        refine Or.inl ⟨by rfl, ?_⟩
        intro w hSw
        (try dsimp only at hSw)
        go_simp
        (try with_reducible rfl)
      try simp only [Act.put, List.setIfInBounds_toArray, List.set_cons_zero, List.set_cons_succ]
      refine wpAnyH_take (i := 9) (oi := ?oi_10) (v := ?v_10) ?ho_10 (by kernel_rfl) ?hf_10 ?hr_10 ?hQ_10 ?hy_10 (by assumption) ?rest_10
      case ho_10 => (simp only [List.getElem?_toArray, List.getElem?_cons_succ, List.getElem?_cons_zero]; exact rfl)
      case hf_10 => kernel_rfl
      case hr_10 => kernel_rfl
      case hQ_10 => exact fun _ _ _ h => h
      case hy_10 =>
        refine Or.inl ⟨by rfl, ?_⟩
        intro w hSw
        (try dsimp only at hSw)
        go_simp
        (try with_reducible rfl)
      try simp only [Act.put, List.setIfInBounds_toArray, List.set_cons_zero, List.set_cons_succ]
      refine wpAnyH_take (i := 10) (oi := ?oi_11) (v := ?v_11) ?ho_11 (by kernel_rfl) ?hf_11 ?hr_11 ?hQ_11 ?hy_11 (by assumption) ?rest_11
      case ho_11 => (simp only [List.getElem?_toArray, List.getElem?_cons_succ, List.getElem?_cons_zero]; exact rfl)
      case hf_11 => kernel_rfl
      case hr_11 => kernel_rfl
      case hQ_11 => exact fun _ _ _ h => h
      case hy_11 =>
        refine Or.inl ⟨by rfl, ?_⟩
        intro w hSw
        (try dsimp only at hSw)
        go_simp
        (try with_reducible rfl)
      try simp only [Act.put, List.setIfInBounds_toArray, List.set_cons_zero, List.set_cons_succ]
      refine wpAnyH_take (i := 11) (oi := ?oi_12) (v := ?v_12) ?ho_12 (by kernel_rfl) ?hf_12 ?hr_12 ?hQ_12 ?hy_12 (by assumption) ?rest_12
      case ho_12 => (simp only [List.getElem?_toArray, List.getElem?_cons_succ, List.getElem?_cons_zero]; exact rfl)
      case hf_12 => kernel_rfl
      case hr_12 => kernel_rfl
      case hQ_12 => exact fun _ _ _ h => h
      case hy_12 =>
        refine Or.inl ⟨by rfl, ?_⟩
        intro w hSw
        (try dsimp only at hSw)
        go_simp
        (try with_reducible rfl)
      try simp only [Act.put, List.setIfInBounds_toArray, List.set_cons_zero, List.set_cons_succ]
      refine wpAnyH_take (i := 12) (oi := ?oi_13) (v := ?v_13) ?ho_13 (by kernel_rfl) ?hf_13 ?hr_13 ?hQ_13 ?hy_13 (by assumption) ?rest_13
      case ho_13 => (simp only [List.getElem?_toArray, List.getElem?_cons_succ, List.getElem?_cons_zero]; exact rfl)
      case hf_13 => kernel_rfl
      case hr_13 => kernel_rfl
      case hQ_13 => exact fun _ _ _ h => h
      case hy_13 =>
        refine Or.inl ⟨by rfl, ?_⟩
        intro w hSw
        (try dsimp only at hSw)
        go_simp
        (try with_reducible rfl)
      try simp only [Act.put, List.setIfInBounds_toArray, List.set_cons_zero, List.set_cons_succ]
      refine wpAnyH_take (i := 15) (oi := ?oi_14) (v := ?v_14) ?ho_14 (by kernel_rfl) ?hf_14 ?hr_14 ?hQ_14 ?hy_14 (by assumption) ?rest_14
      case ho_14 => (simp only [List.getElem?_toArray, List.getElem?_cons_succ, List.getElem?_cons_zero]; exact rfl)
      case hf_14 => kernel_rfl
      case hr_14 => kernel_rfl
      case hQ_14 => exact fun _ _ _ h => h
      case hy_14 =>
        refine Or.inl ⟨by rfl, ?_⟩
        intro w hSw
        (try dsimp only at hSw)
        go_simp
        (try with_reducible rfl)
      try simp only [Act.put, List.setIfInBounds_toArray, List.set_cons_zero, List.set_cons_succ]
      refine wpAnyH_take (i := 16) (oi := ?oi_15) (v := ?v_15) ?ho_15 (by kernel_rfl) ?hf_15 ?hr_15 ?hQ_15 ?hy_15 (by assumption) ?rest_15
      case ho_15 => (simp only [List.getElem?_toArray, List.getElem?_cons_succ, List.getElem?_cons_zero]; exact rfl)
      case hf_15 => kernel_rfl
      case hr_15 => kernel_rfl
      case hQ_15 => exact fun _ _ _ h => h
      case hy_15 =>
        refine Or.inl ⟨by rfl, ?_⟩
        intro w hSw
        (try dsimp only at hSw)
        go_simp
        (try with_reducible rfl)
      try simp only [Act.put, List.setIfInBounds_toArray, List.set_cons_zero, List.set_cons_succ]
      refine wpAnyH_take (i := 17) (oi := ?oi_16) (v := ?v_16) ?ho_16 (by kernel_rfl) ?hf_16 ?hr_16 ?hQ_16 ?hy_16 (by assumption) ?rest_16
      case ho_16 => (simp only [List.getElem?_toArray, List.getElem?_cons_succ, List.getElem?_cons_zero]; exact rfl)
      case hf_16 => kernel_rfl
      case hr_16 => kernel_rfl
      case hQ_16 => exact fun _ _ _ h => h
      case hy_16 =>
        refine Or.inl ⟨by rfl, ?_⟩
        intro w hSw
        (try dsimp only at hSw)
        go_simp
        (try with_reducible rfl)
      try simp only [Act.put, List.setIfInBounds_toArray, List.set_cons_zero, List.set_cons_succ]
      refine wpAnyH_take (i := 18) (oi := ?oi_17) (v := ?v_17) ?ho_17 (by kernel_rfl) ?hf_17 ?hr_17 ?hQ_17 ?hy_17 (by assumption) ?rest_17
      case ho_17 => (simp only [List.getElem?_toArray, List.getElem?_cons_succ, List.getElem?_cons_zero]; exact rfl)
      case hf_17 => kernel_rfl
      case hr_17 => kernel_rfl
      case hQ_17 => exact fun _ _ _ h => h
      case hy_17 =>
        refine Or.inl ⟨by rfl, ?_⟩
        intro w hSw
        (try dsimp only at hSw)
        go_simp
        (try with_reducible rfl)
      try simp only [Act.put, List.setIfInBounds_toArray, List.set_cons_zero, List.set_cons_succ]
      refine wpAnyH_ready (rs := [13]) (by kernel_rfl) (by simp) ?_
      refine AllReadyH.cons (o := ?o_18) ?ho_18 (fun K hK => ?_) ?_
      case ho_18 => (simp only [List.getElem?_toArray, List.getElem?_cons_succ, List.getElem?_cons_zero]; exact rfl)
      rotate_left
      · exact AllReadyH.nil
      go_simp
      (go_at_call 17; refine (putBytes_any none 0 0 [] Ah mh ch ss wh.drew Rd.nil (hoh.rd.below (Below.refl _ _).drew) (by omega)).mono ?_; rintro e wi ⟨Ai, mi, ci, rfl, hoi, hbi⟩; have hbwi : Below w.heap.size w wi := hd2.trans (hbi.mono hd2.size); rw [List.nil_append] at hoi; have k3 := run_conv_str (P := Try.prog) wi 22 9 5 Try.underlying22 Try.underlying5 Try.underlying9 _ Ai mi ci _ hoi.rd)
      go_wp2_with fail
      refine hK.out _ _ ?_ (fun hHeld => ?_)
      · (try dsimp only)
        first | exact hcutw _ hd2 | exact hcutw _ hbwi | exact hcutw _ hbwk
      clear hK K
      try simp only [Act.put, List.setIfInBounds_toArray, List.set_cons_zero, List.set_cons_succ]
      refine wpAnyH_ready (rs := [14]) (by kernel_rfl) (by simp) ?_
      refine AllReadyH.cons (o := ?o_19) ?ho_19 (fun K hK => ?_) ?_
      case ho_19 => (simp only [List.getElem?_toArray, List.getElem?_cons_succ, List.getElem?_cons_zero]; exact rfl)
      rotate_left
      · exact AllReadyH.nil
      go_simp
      refine hK.out _ _ ?_ (fun hHeld => ?_)
      · (try dsimp only)
        first | exact hcutw _ hd2 | exact hcutw _ hbwi | exact hcutw _ hbwk
      clear hK K
      try simp only [Act.put, List.setIfInBounds_toArray, List.set_cons_zero, List.set_cons_succ]
      refine wpAnyH_take (i := 19) (oi := ?oi_20) (v := ?v_20) ?ho_20 (by kernel_rfl) ?hf_20 ?hr_20 ?hQ_20 ?hy_20 (by assumption) ?rest_20
      case ho_20 => (simp only [List.getElem?_toArray, List.getElem?_cons_succ, List.getElem?_cons_zero]; exact rfl)
      case hf_20 => kernel_rfl
      case hr_20 => kernel_rfl
      case hQ_20 => exact fun _ _ _ h => h
      case hy_20 =>
        refine Or.inl ⟨by rfl, ?_⟩
        intro w hSw
        (try dsimp only at hSw)
        go_simp
        (try with_reducible rfl)
      try simp only [Act.put, List.setIfInBounds_toArray, List.set_cons_zero, List.set_cons_succ]
      refine wpAnyH_take (i := 20) (oi := ?oi_21) (v := ?v_21) ?ho_21 (by kernel_rfl) ?hf_21 ?hr_21 ?hQ_21 ?hy_21 (by assumption) ?rest_21
      case ho_21 => (simp only [List.getElem?_toArray, List.getElem?_cons_succ, List.getElem?_cons_zero]; exact rfl)
      case hf_21 => kernel_rfl
      case hr_21 => kernel_rfl
      case hQ_21 => exact fun _ _ _ h => h
      case hy_21 =>
        refine Or.inl ⟨by rfl, ?_⟩
        intro w hSw
        (try dsimp only at hSw)
        go_simp
        (try with_reducible rfl)
      try simp only [Act.put, List.setIfInBounds_toArray, List.set_cons_zero, List.set_cons_succ]
      refine wpAnyH_take (i := 21) (oi := ?oi_22) (v := ?v_22) ?ho_22 (by kernel_rfl) ?hf_22 ?hr_22 ?hQ_22 ?hy_22 (by assumption) ?rest_22
      case ho_22 => (simp only [List.getElem?_toArray, List.getElem?_cons_succ, List.getElem?_cons_zero]; exact rfl)
      case hf_22 => kernel_rfl
      case hr_22 => kernel_rfl
      case hQ_22 => exact fun _ _ _ h => h
      case hy_22 =>
        refine Or.inl ⟨by rfl, ?_⟩
        intro w hSw
        (try dsimp only at hSw)
        go_simp
        (try with_reducible rfl)
      try simp only [Act.put, List.setIfInBounds_toArray, List.set_cons_zero, List.set_cons_succ]
      refine wpAnyH_take (i := 22) (oi := ?oi_23) (v := ?v_23) ?ho_23 (by kernel_rfl) ?hf_23 ?hr_23 ?hQ_23 ?hy_23 (by assumption) ?rest_23
      case ho_23 => (simp only [List.getElem?_toArray, List.getElem?_cons_succ, List.getElem?_cons_zero]; exact rfl)
      case hf_23 => kernel_rfl
      case hr_23 => kernel_rfl
      case hQ_23 => exact fun _ _ _ h => h
      case hy_23 =>
        refine Or.inl ⟨by rfl, ?_⟩
        intro w hSw
        (try dsimp only at hSw)
        go_simp
        (try with_reducible rfl)
      try simp only [Act.put, List.setIfInBounds_toArray, List.set_cons_zero, List.set_cons_succ]
      refine wpAnyH_ready (rs := [23]) (by kernel_rfl) (by simp) ?_
      refine AllReadyH.cons (o := ?o_24) ?ho_24 (fun K hK => ?_) ?_
      case ho_24 => (simp only [List.getElem?_toArray, List.getElem?_cons_succ, List.getElem?_cons_zero]; exact rfl)
      rotate_left
      · exact AllReadyH.nil
      go_simp
      (go_at_call 9; refine (works_any _).mono ?_; rintro e wk ⟨rfl, hbk⟩; have hbwk := hbwi.trans (hbk.mono hbwi.size))
      go_wp2_with fail
      refine hK.out _ _ ?_ (fun hHeld => ?_)
      · (try dsimp only)
        first | exact hcutw _ hd2 | exact hcutw _ hbwi | exact hcutw _ hbwk
      clear hK K
      try simp only [Act.put, List.setIfInBounds_toArray, List.set_cons_zero, List.set_cons_succ]
      refine wpAnyH_take (i := 24) (oi := ?oi_25) (v := ?v_25) ?ho_25 (by kernel_rfl) ?hf_25 ?hr_25 ?hQ_25 ?hy_25 (by assumption) ?rest_25
      case ho_25 => (simp only [List.getElem?_toArray, List.getElem?_cons_succ, List.getElem?_cons_zero]; exact rfl)
      case hf_25 => kernel_rfl
      case hr_25 => kernel_rfl
      case hQ_25 => exact fun _ _ _ h => h
      case hy_25 =>
        refine Or.inl ⟨by rfl, ?_⟩
        intro w hSw
        (try dsimp only at hSw)
        go_simp
        (try with_reducible rfl)
      try simp only [Act.put, List.setIfInBounds_toArray, List.set_cons_zero, List.set_cons_succ]
      refine wpAnyH_take (i := 25) (oi := ?oi_26) (v := ?v_26) ?ho_26 (by kernel_rfl) ?hf_26 ?hr_26 ?hQ_26 ?hy_26 (by assumption) ?rest_26
      case ho_26 => (simp only [List.getElem?_toArray, List.getElem?_cons_succ, List.getElem?_cons_zero]; exact rfl)
      case hf_26 => kernel_rfl
      case hr_26 => kernel_rfl
      case hQ_26 => exact fun _ _ _ h => h
      case hy_26 =>
        refine Or.inl ⟨by rfl, ?_⟩
        intro w hSw
        (try dsimp only at hSw)
        go_simp
        (try with_reducible rfl)
      try simp only [Act.put, List.setIfInBounds_toArray, List.set_cons_zero, List.set_cons_succ]
      refine wpAnyH_done (by kernel_rfl) ?_ _
      go_wp2_with fail
      go_ret
      exact ⟨rfl, hbwk⟩
    · have hz4 : ((z' : Int) == 0) = false := by simp; omega
      have hz5 : ((0 : Int) == (z' : Int)) = false := by simp; omega
      clear hT
      go_wp2_with fail
      refine wp_region_held_drew (S := fun _ => True) (by kernel_rfl) ?_ (fun hHeld => ?_)
      · (try dsimp only)
        all_goals trivial
      refine wpAnyH_take (i := 0) (oi := ?oi_27) (v := ?v_27) ?ho_27 (by kernel_rfl) ?hf_27 ?hr_27 ?hQ_27 ?hy_27 (by assumption) ?rest_27
      case ho_27 => (simp only [List.getElem?_toArray, List.getElem?_cons_succ, List.getElem?_cons_zero]; exact rfl)
      case hf_27 => kernel_rfl
      case hr_27 => kernel_rfl
      case hQ_27 => exact fun _ _ _ h => h
      case hy_27 =>
        refine Or.inl ⟨by rfl, ?_⟩
        intro w hSw
        (try dsimp only at hSw)
        go_simp
        (try with_reducible rfl)
      try simp only [Act.put, List.setIfInBounds_toArray, List.set_cons_zero, List.set_cons_succ]
      refine wpAnyH_take (i := 1) (oi := ?oi_28) (v := Value.bool true) ?ho_28 (by kernel_rfl) ?hf_28 ?hr_28 ?hQ_28 ?hy_28 (by assumption) ?rest_28
      case ho_28 => (simp only [List.getElem?_toArray, List.getElem?_cons_succ, List.getElem?_cons_zero]; exact rfl)
      case hf_28 => kernel_rfl
      case hr_28 => kernel_rfl
      case hQ_28 => exact fun _ _ _ h => h
      case hy_28 =>
        refine Or.inl ⟨by rfl, ?_⟩
        intro w hSw
        (try dsimp only at hSw)
        go_simp
        (try first | done | with_reducible rfl | (simp [hz0, hz4, hz5]; done) | go_goals)
      try simp only [Act.put, List.setIfInBounds_toArray, List.set_cons_zero, List.set_cons_succ]
      refine wpAnyH_take (i := 2) (oi := ?oi_29) (v := ?v_29) ?ho_29 (by kernel_rfl) ?hf_29 ?hr_29 ?hQ_29 ?hy_29 (by assumption) ?rest_29
      case ho_29 => (simp only [List.getElem?_toArray, List.getElem?_cons_succ, List.getElem?_cons_zero]; exact rfl)
      case hf_29 => kernel_rfl
      case hr_29 => kernel_rfl
      case hQ_29 => exact fun _ _ _ h => h
      case hy_29 =>
        refine Or.inl ⟨by rfl, ?_⟩
        intro w hSw
        (try dsimp only at hSw)
        go_simp
        (try with_reducible rfl)
      try simp only [Act.put, List.setIfInBounds_toArray, List.set_cons_zero, List.set_cons_succ]
      refine wpAnyH_take (i := 3) (oi := ?oi_30) (v := undef) ?ho_30 (by kernel_rfl) ?hf_30 ?hr_30 ?hQ_30 ?hy_30 (by assumption) ?rest_30
      case ho_30 => (simp only [List.getElem?_toArray, List.getElem?_cons_succ, List.getElem?_cons_zero]; exact rfl)
      case hf_30 => kernel_rfl
      case hr_30 => kernel_rfl
      case hQ_30 => exact fun _ _ _ h => h
      case hy_30 =>
        exact Or.inr ⟨by rfl, rfl⟩
      try simp only [Act.put, List.setIfInBounds_toArray, List.set_cons_zero, List.set_cons_succ]
      refine wpAnyH_take (i := 4) (oi := ?oi_31) (v := undef) ?ho_31 (by kernel_rfl) ?hf_31 ?hr_31 ?hQ_31 ?hy_31 (by assumption) ?rest_31
      case ho_31 => (simp only [List.getElem?_toArray, List.getElem?_cons_succ, List.getElem?_cons_zero]; exact rfl)
      case hf_31 => kernel_rfl
      case hr_31 => kernel_rfl
      case hQ_31 => exact fun _ _ _ h => h
      case hy_31 =>
        exact Or.inr ⟨by rfl, rfl⟩
      try simp only [Act.put, List.setIfInBounds_toArray, List.set_cons_zero, List.set_cons_succ]
      refine wpAnyH_take (i := 5) (oi := ?oi_32) (v := undef) ?ho_32 (by kernel_rfl) ?hf_32 ?hr_32 ?hQ_32 ?hy_32 (by assumption) ?rest_32
      case ho_32 => (simp only [List.getElem?_toArray, List.getElem?_cons_succ, List.getElem?_cons_zero]; exact rfl)
      case hf_32 => kernel_rfl
      case hr_32 => kernel_rfl
      case hQ_32 => exact fun _ _ _ h => h
      case hy_32 =>
        exact Or.inr ⟨by rfl, rfl⟩
      try simp only [Act.put, List.setIfInBounds_toArray, List.set_cons_zero, List.set_cons_succ]
      refine wpAnyH_take (i := 6) (oi := ?oi_33) (v := undef) ?ho_33 (by kernel_rfl) ?hf_33 ?hr_33 ?hQ_33 ?hy_33 (by assumption) ?rest_33
      case ho_33 => (simp only [List.getElem?_toArray, List.getElem?_cons_succ, List.getElem?_cons_zero]; exact rfl)
      case hf_33 => kernel_rfl
      case hr_33 => kernel_rfl
      case hQ_33 => exact fun _ _ _ h => h
      case hy_33 =>
        exact Or.inr ⟨by rfl, rfl⟩
      try simp only [Act.put, List.setIfInBounds_toArray, List.set_cons_zero, List.set_cons_succ]
      refine wpAnyH_take (i := 7) (oi := ?oi_34) (v := undef) ?ho_34 (by kernel_rfl) ?hf_34 ?hr_34 ?hQ_34 ?hy_34 (by assumption) ?rest_34
      case ho_34 => (simp only [List.getElem?_toArray, List.getElem?_cons_succ, List.getElem?_cons_zero]; exact rfl)
      case hf_34 => kernel_rfl
      case hr_34 => kernel_rfl
      case hQ_34 => exact fun _ _ _ h => h
      case hy_34 =>
        exact Or.inr ⟨by rfl, rfl⟩
      try simp only [Act.put, List.setIfInBounds_toArray, List.set_cons_zero, List.set_cons_succ]
      refine wpAnyH_take (i := 8) (oi := ?oi_35) (v := undef) ?ho_35 (by kernel_rfl) ?hf_35 ?hr_35 ?hQ_35 ?hy_35 (by assumption) ?rest_35
      case ho_35 => (simp only [List.getElem?_toArray, List.getElem?_cons_succ, List.getElem?_cons_zero]; exact rfl)
      case hf_35 => kernel_rfl
      case hr_35 => kernel_rfl
      case hQ_35 => exact fun _ _ _ h => h
      case hy_35 =>
        exact Or.inr ⟨by rfl, rfl⟩
      try simp only [Act.put, List.setIfInBounds_toArray, List.set_cons_zero, List.set_cons_succ]
      refine wpAnyH_take (i := 9) (oi := ?oi_36) (v := undef) ?ho_36 (by kernel_rfl) ?hf_36 ?hr_36 ?hQ_36 ?hy_36 (by assumption) ?rest_36
      case ho_36 => (simp only [List.getElem?_toArray, List.getElem?_cons_succ, List.getElem?_cons_zero]; exact rfl)
      case hf_36 => kernel_rfl
      case hr_36 => kernel_rfl
      case hQ_36 => exact fun _ _ _ h => h
      case hy_36 =>
        exact Or.inr ⟨by rfl, rfl⟩
      try simp only [Act.put, List.setIfInBounds_toArray, List.set_cons_zero, List.set_cons_succ]
      refine wpAnyH_take (i := 10) (oi := ?oi_37) (v := undef) ?ho_37 (by kernel_rfl) ?hf_37 ?hr_37 ?hQ_37 ?hy_37 (by assumption) ?rest_37
      case ho_37 => (simp only [List.getElem?_toArray, List.getElem?_cons_succ, List.getElem?_cons_zero]; exact rfl)
      case hf_37 => kernel_rfl
      case hr_37 => kernel_rfl
      case hQ_37 => exact fun _ _ _ h => h
      case hy_37 =>
        exact Or.inr ⟨by rfl, rfl⟩
      try simp only [Act.put, List.setIfInBounds_toArray, List.set_cons_zero, List.set_cons_succ]
      refine wpAnyH_take (i := 11) (oi := ?oi_38) (v := undef) ?ho_38 (by kernel_rfl) ?hf_38 ?hr_38 ?hQ_38 ?hy_38 (by assumption) ?rest_38
      case ho_38 => (simp only [List.getElem?_toArray, List.getElem?_cons_succ, List.getElem?_cons_zero]; exact rfl)
      case hf_38 => kernel_rfl
      case hr_38 => kernel_rfl
      case hQ_38 => exact fun _ _ _ h => h
      case hy_38 =>
        exact Or.inr ⟨by rfl, rfl⟩
      try simp only [Act.put, List.setIfInBounds_toArray, List.set_cons_zero, List.set_cons_succ]
      refine wpAnyH_take (i := 12) (oi := ?oi_39) (v := undef) ?ho_39 (by kernel_rfl) ?hf_39 ?hr_39 ?hQ_39 ?hy_39 (by assumption) ?rest_39
      case ho_39 => (simp only [List.getElem?_toArray, List.getElem?_cons_succ, List.getElem?_cons_zero]; exact rfl)
      case hf_39 => kernel_rfl
      case hr_39 => kernel_rfl
      case hQ_39 => exact fun _ _ _ h => h
      case hy_39 =>
        exact Or.inr ⟨by rfl, rfl⟩
      try simp only [Act.put, List.setIfInBounds_toArray, List.set_cons_zero, List.set_cons_succ]
      refine wpAnyH_take (i := 13) (oi := ?oi_40) (v := undef) ?ho_40 (by kernel_rfl) ?hf_40 ?hr_40 ?hQ_40 ?hy_40 (by assumption) ?rest_40
      case ho_40 => (simp only [List.getElem?_toArray, List.getElem?_cons_succ, List.getElem?_cons_zero]; exact rfl)
      case hf_40 => kernel_rfl
      case hr_40 => kernel_rfl
      case hQ_40 => exact fun _ _ _ h => h
      case hy_40 =>
        exact Or.inr ⟨by rfl, rfl⟩
      try simp only [Act.put, List.setIfInBounds_toArray, List.set_cons_zero, List.set_cons_succ]
      refine wpAnyH_take (i := 14) (oi := ?oi_41) (v := undef) ?ho_41 (by kernel_rfl) ?hf_41 ?hr_41 ?hQ_41 ?hy_41 (by assumption) ?rest_41
      case ho_41 => (simp only [List.getElem?_toArray, List.getElem?_cons_succ, List.getElem?_cons_zero]; exact rfl)
      case hf_41 => kernel_rfl
      case hr_41 => kernel_rfl
      case hQ_41 => exact fun _ _ _ h => h
      case hy_41 =>
        exact Or.inr ⟨by rfl, rfl⟩
      try simp only [Act.put, List.setIfInBounds_toArray, List.set_cons_zero, List.set_cons_succ]
      refine wpAnyH_take (i := 15) (oi := ?oi_42) (v := undef) ?ho_42 (by kernel_rfl) ?hf_42 ?hr_42 ?hQ_42 ?hy_42 (by assumption) ?rest_42
      case ho_42 => (simp only [List.getElem?_toArray, List.getElem?_cons_succ, List.getElem?_cons_zero]; exact rfl)
      case hf_42 => kernel_rfl
      case hr_42 => kernel_rfl
      case hQ_42 => exact fun _ _ _ h => h
      case hy_42 =>
        exact Or.inr ⟨by rfl, rfl⟩
      try simp only [Act.put, List.setIfInBounds_toArray, List.set_cons_zero, List.set_cons_succ]
      refine wpAnyH_take (i := 16) (oi := ?oi_43) (v := undef) ?ho_43 (by kernel_rfl) ?hf_43 ?hr_43 ?hQ_43 ?hy_43 (by assumption) ?rest_43
      case ho_43 => (simp only [List.getElem?_toArray, List.getElem?_cons_succ, List.getElem?_cons_zero]; exact rfl)
      case hf_43 => kernel_rfl
      case hr_43 => kernel_rfl
      case hQ_43 => exact fun _ _ _ h => h
      case hy_43 =>
        exact Or.inr ⟨by rfl, rfl⟩
      try simp only [Act.put, List.setIfInBounds_toArray, List.set_cons_zero, List.set_cons_succ]
      refine wpAnyH_take (i := 17) (oi := ?oi_44) (v := undef) ?ho_44 (by kernel_rfl) ?hf_44 ?hr_44 ?hQ_44 ?hy_44 (by assumption) ?rest_44
      case ho_44 => (simp only [List.getElem?_toArray, List.getElem?_cons_succ, List.getElem?_cons_zero]; exact rfl)
      case hf_44 => kernel_rfl
      case hr_44 => kernel_rfl
      case hQ_44 => exact fun _ _ _ h => h
      case hy_44 =>
        exact Or.inr ⟨by rfl, rfl⟩
      try simp only [Act.put, List.setIfInBounds_toArray, List.set_cons_zero, List.set_cons_succ]
      refine wpAnyH_take (i := 18) (oi := ?oi_45) (v := undef) ?ho_45 (by kernel_rfl) ?hf_45 ?hr_45 ?hQ_45 ?hy_45 (by assumption) ?rest_45
      case ho_45 => (simp only [List.getElem?_toArray, List.getElem?_cons_succ, List.getElem?_cons_zero]; exact rfl)
      case hf_45 => kernel_rfl
      case hr_45 => kernel_rfl
      case hQ_45 => exact fun _ _ _ h => h
      case hy_45 =>
        exact Or.inr ⟨by rfl, rfl⟩
      try simp only [Act.put, List.setIfInBounds_toArray, List.set_cons_zero, List.set_cons_succ]
      refine wpAnyH_take (i := 19) (oi := ?oi_46) (v := undef) ?ho_46 (by kernel_rfl) ?hf_46 ?hr_46 ?hQ_46 ?hy_46 (by assumption) ?rest_46
      case ho_46 => (simp only [List.getElem?_toArray, List.getElem?_cons_succ, List.getElem?_cons_zero]; exact rfl)
      case hf_46 => kernel_rfl
      case hr_46 => kernel_rfl
      case hQ_46 => exact fun _ _ _ h => h
      case hy_46 =>
        exact Or.inr ⟨by rfl, rfl⟩
      try simp only [Act.put, List.setIfInBounds_toArray, List.set_cons_zero, List.set_cons_succ]
      refine wpAnyH_take (i := 20) (oi := ?oi_47) (v := undef) ?ho_47 (by kernel_rfl) ?hf_47 ?hr_47 ?hQ_47 ?hy_47 (by assumption) ?rest_47
      case ho_47 => (simp only [List.getElem?_toArray, List.getElem?_cons_succ, List.getElem?_cons_zero]; exact rfl)
      case hf_47 => kernel_rfl
      case hr_47 => kernel_rfl
      case hQ_47 => exact fun _ _ _ h => h
      case hy_47 =>
        exact Or.inr ⟨by rfl, rfl⟩
      try simp only [Act.put, List.setIfInBounds_toArray, List.set_cons_zero, List.set_cons_succ]
      refine wpAnyH_take (i := 21) (oi := ?oi_48) (v := ?v_48) ?ho_48 (by kernel_rfl) ?hf_48 ?hr_48 ?hQ_48 ?hy_48 (by assumption) ?rest_48
      case ho_48 => (simp only [List.getElem?_toArray, List.getElem?_cons_succ, List.getElem?_cons_zero]; exact rfl)
      case hf_48 => kernel_rfl
      case hr_48 => kernel_rfl
      case hQ_48 => exact fun _ _ _ h => h
      case hy_48 =>
        refine Or.inl ⟨by rfl, ?_⟩
        intro w hSw
        (try dsimp only at hSw)
        go_simp
        (try with_reducible rfl)
      try simp only [Act.put, List.setIfInBounds_toArray, List.set_cons_zero, List.set_cons_succ]
      refine wpAnyH_take (i := 22) (oi := ?oi_49) (v := ?v_49) ?ho_49 (by kernel_rfl) ?hf_49 ?hr_49 ?hQ_49 ?hy_49 (by assumption) ?rest_49
      case ho_49 => (simp only [List.getElem?_toArray, List.getElem?_cons_succ, List.getElem?_cons_zero]; exact rfl)
      case hf_49 => kernel_rfl
      case hr_49 => kernel_rfl
      case hQ_49 => exact fun _ _ _ h => h
      case hy_49 =>
        refine Or.inl ⟨by rfl, ?_⟩
        intro w hSw
        (try dsimp only at hSw)
        go_simp
        (try with_reducible rfl)
      try simp only [Act.put, List.setIfInBounds_toArray, List.set_cons_zero, List.set_cons_succ]
      refine wpAnyH_ready (rs := [23]) (by kernel_rfl) (by simp) ?_
      refine AllReadyH.cons (o := ?o_50) ?ho_50 (fun K hK => ?_) ?_
      case ho_50 => (simp only [List.getElem?_toArray, List.getElem?_cons_succ, List.getElem?_cons_zero]; exact rfl)
      rotate_left
      · exact AllReadyH.nil
      go_simp
      (go_at_call 9; refine (works_any _).mono ?_; rintro e wk ⟨rfl, hbk⟩; have hbwk := hd2.trans (hbk.mono hd2.size))
      go_wp2_with fail
      refine hK.out _ _ ?_ (fun hHeld => ?_)
      · (try dsimp only)
        all_goals trivial
      clear hK K
      try simp only [Act.put, List.setIfInBounds_toArray, List.set_cons_zero, List.set_cons_succ]
      refine wpAnyH_take (i := 24) (oi := ?oi_51) (v := ?v_51) ?ho_51 (by kernel_rfl) ?hf_51 ?hr_51 ?hQ_51 ?hy_51 (by assumption) ?rest_51
      case ho_51 => (simp only [List.getElem?_toArray, List.getElem?_cons_succ, List.getElem?_cons_zero]; exact rfl)
      case hf_51 => kernel_rfl
      case hr_51 => kernel_rfl
      case hQ_51 => exact fun _ _ _ h => h
      case hy_51 =>
        refine Or.inl ⟨by rfl, ?_⟩
        intro w hSw
        (try dsimp only at hSw)
        go_simp
        (try with_reducible rfl)
      try simp only [Act.put, List.setIfInBounds_toArray, List.set_cons_zero, List.set_cons_succ]
      refine wpAnyH_take (i := 25) (oi := ?oi_52) (v := ?v_52) ?ho_52 (by kernel_rfl) ?hf_52 ?hr_52 ?hQ_52 ?hy_52 (by assumption) ?rest_52
      case ho_52 => (simp only [List.getElem?_toArray, List.getElem?_cons_succ, List.getElem?_cons_zero]; exact rfl)
      case hf_52 => kernel_rfl
      case hr_52 => kernel_rfl
      case hQ_52 => exact fun _ _ _ h => h
      case hy_52 =>
        refine Or.inl ⟨by rfl, ?_⟩
        intro w hSw
        (try dsimp only at hSw)
        go_simp
        (try with_reducible rfl)
      try simp only [Act.put, List.setIfInBounds_toArray, List.set_cons_zero, List.set_cons_succ]
      refine wpAnyH_done (by kernel_rfl) ?_ _
      go_wp2_with fail
      go_ret
      exact ⟨rfl, hbwk⟩

end Go.Proofs.Ythkinhgkchbjkaa.octetBack
