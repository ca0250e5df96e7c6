/- Layer 6 (wire): WireBack: the walk. -/
import Derived.Test.YtcoafgnbmgndeaaWrBc
import Derived.Test.YtcoafgnbmgndeaaArg
set_option linter.unusedVariables false
set_option linter.unusedSimpArgs false
namespace Go.Proofs.Ytcoafgnbmgndeaa.wireBack
open Go Go.RowKit
set_option maxRecDepth 100000 in
set_option maxHeartbeats 16000000 in
theorem walk (ok : WireOk) (p : UInt32) (A1 : Option Addr) (n1 c1 : Nat) (l : List UInt32) (q : UInt32) (B1 : Option Addr) (e1 f1 : Nat) (k : List Tm) (B3 : Option Addr) (e3 f3 : Nat) (S3 : List SlA) (M3 : List Li) (s0 : Bool) (x0 : Tm) (r : UInt32) (C1 : Option Addr) (g1 h1 : Nat) (j : List Tm) (C3 : Option Addr) (g3 h3 : Nat) (T3 : List SlA) (O3 : List Co) (A : Option Addr) (n c : Nat) (bs : List UInt8) (A2 : Option Addr) (n2 c2 : Nat) (bs2 : List UInt8) (w : World) (hf1 : RdU w w.heap.size A1 n1 l) (hfc : n1 ≤ c1) (hc1 : RdT w w.heap.size B1 e1 k) (hcc : e1 ≤ f1) (hc3 : RdL w w.heap.size B3 e3 S3 M3) (hcd : e3 ≤ f3) (hr1 : RdT w w.heap.size C1 g1 j) (hrc : g1 ≤ h1) (hr3 : RdK w w.heap.size C3 g3 T3 O3) (hrd : g3 ≤ h3) (ht : Rd w w.heap.size 1 A n (bs.map bv)) (htc : n ≤ c) (hw2 : Rd w w.heap.size 1 A2 n2 (bs2.map bv)) (hwc : n2 ≤ c2) :
    Calls Try.prog 6 #[.agg #[nv p, .slice A1 n1 c1], .agg #[nv q, .slice B1 e1 f1, .slice B3 e3 f3], .agg #[.bool s0, .bool x0.1, nv x0.2, nv r, .slice C1 g1 h1, .slice C3 g3 h3], .slice A n c, .slice A2 n2 c2] w fun e w' => e = .returned (.bool true) ∧ Below w.heap.size w w' := by
  obtain ⟨U, hU, hHF, hHC, hHR, hbU⟩ : ∃ U, U = ((w.alloc (.cells #[nv p, .slice A1 n1 c1] 26)).alloc (.cells #[nv q, .slice B1 e1 f1, .slice B3 e3 f3] 45)).alloc (.cells #[.bool s0, .bool x0.1, nv x0.2, nv r, .slice C1 g1 h1, .slice C3 g3 h3] 59) ∧ Bk U w.heap.size 26 [nv p, .slice A1 n1 c1] ∧ Bk U (w.heap.size + 1) 45 [nv q, .slice B1 e1 f1, .slice B3 e3 f3] ∧ Bk U (w.heap.size + 1 + 1) 59 [.bool s0, .bool x0.1, nv x0.2, nv r, .slice C1 g1 h1, .slice C3 g3 h3] ∧ Below w.heap.size w U :=
    ⟨_, rfl, ((Bk.new w _ _).alloc _).alloc _, (Bk.second w _ _ _).alloc _, Bk.third w _ _ _ _, (below2 w _ _).alloc (by simp; omega) _⟩
  have HU := Lib.hid hU
  have HHF := Lib.hid hHF
  have HHC := Lib.hid hHC
  have HHR := Lib.hid hHR
  have HB := Lib.hid hbU
  have HF1 := Lib.hid ((hf1.below hbU).more hbU.size)
  have HC1 := Lib.hid ((hc1.below hbU).more hbU.size)
  have HC3 := Lib.hid ((hc3.below hbU).more hbU.size)
  have HR1 := Lib.hid ((hr1.below hbU).more hbU.size)
  have HR3 := Lib.hid ((hr3.below hbU).more hbU.size)
  have HT := Lib.hid ((ht.below hbU).more hbU.size)
  have HW := Lib.hid ((hw2.below hbU).more hbU.size)
  have HLF := Lib.hid (rdU_len hf1)
  have HLC := Lib.hid (rdT_len hc1)
  have HLR := Lib.hid (rdT_len hr1)
  have HLT := Lib.hid (show bs.length = n by simpa using ht.len1)
  have HLW := Lib.hid (show bs2.length = n2 by simpa using hw2.len1)
  clear hU hHF hHC hHR hbU hf1 hc1 hc3 hr1 hr3 ht hw2
  go_enter Try.func6, Try.ntmps6
  go_upto_region 1 with (fail)
  rw [← HU.out]
  clear HU
  generalize hhw : w.heap.size = gw at HHF HHC HHR ⊢
  generalize hgc : gw + 1 = gwc at HHC HHR ⊢
  generalize hgr : gwc + 1 = gwr at HHR ⊢
  clear hgc hgr
  have kf0 := HHF.out.readT (Below.refl _ _) 0 rfl
  have kf1 := HHF.out.readT (Below.refl _ _) 1 rfl
  by_cases hn1 : 100 < n1
  · have hd : decide ((100 : Int) < (n1 : Int)) = true := by simp; omega
    repeat (first | go_skip | go_guarded | go_step)
    refine (wWorks_any ok _).mono ?_
    rintro e w1 ⟨rfl, hb1⟩
    dsimp only
    repeat (first | go_skip | go_guarded | go_step)
    go_ret
    exact ⟨rfl, hhw ▸ HB.out.trans (((Below.refl U.heap.size U).trans (hb1.mono (Below.refl U.heap.size U).size)).mono HB.out.size)⟩
  have hd : decide ((100 : Int) < (n1 : Int)) = false := by simp; omega
  have kc0 := HHC.out.readT (Below.refl _ _) 0 rfl
  have kc1 := HHC.out.readT (Below.refl _ _) 1 rfl
  have kc2 := HHC.out.readT (Below.refl _ _) 2 rfl
  repeat (first | go_skip | go_guarded | go_step)
  refine (rBigClause_any q B1 e1 f1 k B3 e3 f3 S3 M3 U HC1.out HC3.out).mono ?_
  rintro e w1 ⟨rfl, hb1⟩
  have HV1 := Lib.hid hb1
  clear hd kf0 kf1 kc0 kc1 kc2 hb1
  cases hbig : bigC ((q, k), M3) with
  | true =>
    dsimp only
    repeat (first | go_skip | go_guarded | go_step)
    refine (wWorks_any ok _).mono ?_
    rintro e w1 ⟨rfl, hb1⟩
    dsimp only
    repeat (first | go_skip | go_guarded | go_step)
    go_ret
    exact ⟨rfl, hhw ▸ HB.out.trans ((HV1.out.trans (hb1.mono HV1.out.size)).mono HB.out.size)⟩
  | false =>
  dsimp only
  obtain ⟨he1, he3, hk3⟩ := bigC_not hbig
  have he1 : e1 ≤ 100 := by have h5 : k.length ≤ 100 := he1; have := HLC.out; omega
  have he3 : e3 ≤ 100 := by have h5 : M3.length ≤ 100 := he3; have := HC3.out.lenL; omega
  have hk3 : ∀ x ∈ M3, x.2.2.length ≤ 100 := hk3
  have HKC := Lib.hid hk3
  clear hbig hk3
  have kr0 := HHR.out.readT HV1.out 0 rfl
  have kr1 := HHR.out.readT HV1.out 1 rfl
  have kr2 := HHR.out.readT HV1.out 2 rfl
  have kr3 := HHR.out.readT HV1.out 3 rfl
  have kr4 := HHR.out.readT HV1.out 4 rfl
  have kr5 := HHR.out.readT HV1.out 5 rfl
  repeat (first | go_skip | go_guarded | go_step)
  refine (rRBig_any s0 x0 r C1 g1 h1 j C3 g3 h3 T3 O3 w1 ((HR1.out.below HV1.out).more HV1.out.size) ((HR3.out.below HV1.out).more HV1.out.size)).mono ?_
  rintro e w2 ⟨rfl, hb2⟩
  have HV2 := Lib.hid (HV1.out.trans (hb2.mono HV1.out.size))
  clear kr0 kr1 kr2 kr3 kr4 kr5 hb2 HV1
  cases hbig : bigR ((s0, x0, (r, j)), O3) with
  | true =>
    dsimp only
    repeat (first | go_skip | go_guarded | go_step)
    refine (wWorks_any ok _).mono ?_
    rintro e w1 ⟨rfl, hb1⟩
    dsimp only
    repeat (first | go_skip | go_guarded | go_step)
    go_ret
    exact ⟨rfl, hhw ▸ HB.out.trans ((HV2.out.trans (hb1.mono HV2.out.size)).mono HB.out.size)⟩
  | false =>
  dsimp only
  obtain ⟨hg1, hg3, hk3⟩ := bigR_not hbig
  have hg1 : g1 ≤ 100 := by have h5 : j.length ≤ 100 := hg1; have := HLR.out; omega
  have hg3 : g3 ≤ 100 := by have h5 : O3.length ≤ 100 := hg3; have := HR3.out.lenL; omega
  have hk3 : ∀ x ∈ O3, x.2.2.2.2.length ≤ 100 := hk3
  have HKR := Lib.hid hk3
  clear hbig hk3
  repeat (first | go_skip | go_guarded | go_step)
  refine (vastW_any A n c w2).mono ?_
  rintro e w3 ⟨rfl, rfl⟩
  by_cases hn : 4096 < n
  · rw [decide_eq_true hn]
    dsimp only
    repeat (first | go_skip | go_guarded | go_step)
    refine (wWorks_any ok _).mono ?_
    rintro e w1 ⟨rfl, hb1⟩
    dsimp only
    repeat (first | go_skip | go_guarded | go_step)
    go_ret
    exact ⟨rfl, hhw ▸ HB.out.trans ((HV2.out.trans (hb1.mono HV2.out.size)).mono HB.out.size)⟩
  rw [decide_eq_false hn]
  dsimp only
  repeat (first | go_skip | go_guarded | go_step)
  refine (vastW_any A2 n2 c2 w2).mono ?_
  rintro e w3 ⟨rfl, rfl⟩
  by_cases hn2 : 4096 < n2
  · rw [decide_eq_true hn2]
    dsimp only
    repeat (first | go_skip | go_guarded | go_step)
    refine (wWorks_any ok _).mono ?_
    rintro e w1 ⟨rfl, hb1⟩
    dsimp only
    repeat (first | go_skip | go_guarded | go_step)
    go_ret
    exact ⟨rfl, hhw ▸ HB.out.trans ((HV2.out.trans (hb1.mono HV2.out.size)).mono HB.out.size)⟩
  rw [decide_eq_false hn2]
  dsimp only
  have k0 := HHF.out.readT HV2.out 0 rfl
  have k1 := HHF.out.readT HV2.out 1 rfl
  repeat (first | go_skip | go_guarded | go_step)
  refine (ok.putFact A n c bs p A1 n1 c1 l w2 ((HT.out.below HV2.out).more HV2.out.size) htc (by omega) ((HF1.out.below HV2.out).more HV2.out.size) hfc (by omega)).mono ?_
  rintro e wa0 ⟨A', m', c', z, bs', rfl, ho2, hb2, hz⟩
  have HVA := Lib.hid (HV2.out.trans (hb2.mono HV2.out.size))
  have HPUT := Lib.hid hb2
  have HZ0 := Lib.hid hz
  have HO2 := Lib.hid ho2
  have hcap := Ow.le ho2
  have hmx : m' ≤ 10000 := by
    have h1 := Ow.len ho2
    have h2 := HLT.out
    rcases hz with ⟨hm, _, rfl⟩ | ⟨_, _, rfl⟩
    · have h3 := (factB_len hm).2
      simp only [List.length_append] at h1
      omega
    · simp only [List.length_nil] at h1
      omega
  clear k0 k1 ho2 hb2 hz
  dsimp only
  go_upto_region 4 with (fail)
  rename_i KA hKA
  go_cut [14, 15, 13] from 26 (fun s14 s15 sx wc => ∃ (y z4 gx : Nat) (p4 : UInt32) (A4 : Option Addr) (n4 d4 : Nat) (l4 : List UInt32), s14 = .int .i64 (y : Int) ∧ s15 = .int .i64 (z4 : Int) ∧ sx = .pointer (some ⟨gx, 0, none⟩) ∧ wa0.heap.size ≤ gx ∧ Bk wc gx 26 [nv p4, .slice A4 n4 d4] ∧ RdU wc wc.heap.size A4 n4 l4 ∧ n4 ≤ d4 ∧ n4 ≤ 6 ∧ Below wa0.heap.size wa0 wc ∧ (mayF ((p, l) : Fa) = true → z4 = 0 ∧ y = n + (factB ((p, l) : Fa)).length ∧ ((p4, l4) : Fa) = ((p, l) : Fa)))
  case first =>
    rcases HZ0.out with ⟨hmay, rfl, rfl⟩ | ⟨hmay, rfl, rfl⟩
    · have hmn : m' = n + (factB ((p, l) : Fa)).length := by have h1 := Ow.len HO2.out; have h2 := HLT.out; simp only [List.length_append] at h1; omega
      have hmn2 : n ≤ m' := by omega
      clear hmn
      repeat (first
        | (at_builtin; refine app8h _ rfl (.tmp 54) (.tmp 55) rfl wa0.heap.size (some ⟨wa0.heap.size, 0, none⟩) 0 0 [] rfl (owLit0 wa0 _ (Nat.le_refl _)) wa0.heap.size A' m' c' (bs ++ factB ((p, l) : Fa)) rfl ((Ow.rd HO2.out).below ((Below.refl _ _).alloc (Nat.le_refl _) _)) (by omega) (by simp) ?_
           intro A7 c7 wb ho7 hb7
           have hb57 := ((Below.refl wa0.heap.size wa0).alloc (Nat.le_refl _) (.cells #[] 5)).trans hb7
           rw [List.nil_append, Nat.zero_add] at ho7
           have HO7 := Lib.hid ho7
           have HB57 := Lib.hid hb57
           clear ho7 hb7 hb57)
        | (at_builtin; refine app8h _ rfl (.tmp 56) (.tmp 57) rfl wa0.heap.size A7 c7 m' (bs ++ factB ((p, l) : Fa)) (by simp [Act.eval]) HO7.out _ A n c bs rfl (HT.out.below (HVA.out.trans (HB57.out.mono HVA.out.size))) (by omega) HB57.out.size ?_
           intro A8 c8 wd ho8 hb8
           have HO8 := Lib.hid ho8
           have HB58 := Lib.hid (HB57.out.trans hb8)
           clear ho8 hb8)
        | go_skip | go_guarded | go_step)
      have hcap8 := Ow.le HO8.out
      refine (ok.takeFact A8 (m' + n) c8 ((n : Nat) : Int) ((bs ++ factB ((p, l) : Fa)) ++ bs) wd (Ow.rd HO8.out) hcap8 (by omega) (by omega) (by omega)).mono ?_
      rintro e we ⟨p4, A4, n4, d4, l4, y4, z4, rfl, hx4, hd4, hm4, hb4, ha4⟩
      have HBE := Lib.hid (HB58.out.trans (hb4.mono HB58.out.size))
      have HX4 := Lib.hid hx4
      have h5 := takeAns_put factC zF ((p, l) : Fa) hmay bs bs
      rw [HLT.out] at h5
      rw [h5] at ha4
      simp only [Prod.mk.injEq] at ha4
      have HFIN := Lib.hid (show mayF ((p, l) : Fa) = true → z4 = 0 ∧ y4 = n + (factB ((p, l) : Fa)).length ∧ ((p4, l4) : Fa) = ((p, l) : Fa) from fun _ => ⟨ha4.2.2, ha4.2.1, by simp only [Prod.mk.injEq]; exact ha4.1⟩)
      clear h5 ha4
      clear hx4 hb4
      dsimp only
      repeat (first | go_skip | go_guarded | go_step)
      go_meet
      case rel => exact ⟨y4, z4, we.heap.size, p4, A4, n4, d4, l4, rfl, rfl, rfl, HBE.out.size, Bk.new we _ _, (HX4.out.below ((Below.refl _ _).alloc (Nat.le_refl _) _)).more (by simp), hd4, hm4, HBE.out.alloc HBE.out.size _, HFIN.out⟩
    · have hm0 : m' = 0 := (Ow.len HO2.out).symm
      have HM0 := Lib.hid hm0
      clear hm0
      repeat (first
        | (at_builtin; refine app8h _ rfl (.tmp 54) (.tmp 55) rfl wa0.heap.size (some ⟨wa0.heap.size, 0, none⟩) 0 0 [] rfl (owLit0 wa0 _ (Nat.le_refl _)) wa0.heap.size A' m' c' [] rfl ((Ow.rd HO2.out).below ((Below.refl _ _).alloc (Nat.le_refl _) _)) (by omega) (by simp) ?_
           intro A7 c7 wb ho7 hb7
           have hb57 := ((Below.refl wa0.heap.size wa0).alloc (Nat.le_refl _) (.cells #[] 5)).trans hb7
           rw [List.nil_append, Nat.zero_add] at ho7
           have HO7 := Lib.hid ho7
           have HB57 := Lib.hid hb57
           clear ho7 hb7 hb57)
        | (at_builtin; refine app8h _ rfl (.tmp 56) (.tmp 57) rfl wa0.heap.size A7 c7 m' [] (by simp [Act.eval]) HO7.out _ A n c bs rfl (HT.out.below (HVA.out.trans (HB57.out.mono HVA.out.size))) (by omega) HB57.out.size ?_
           intro A8 c8 wd ho8 hb8
           have HO8 := Lib.hid ho8
           have HB58 := Lib.hid (HB57.out.trans hb8)
           clear ho8 hb8)
        | go_skip | go_guarded | go_step)
      have hcap8 := Ow.le HO8.out
      refine (ok.takeFact A8 (m' + n) c8 ((n : Nat) : Int) ([] ++ bs) wd (Ow.rd HO8.out) hcap8 (by omega) (by omega) (by omega)).mono ?_
      rintro e we ⟨p4, A4, n4, d4, l4, y4, z4, rfl, hx4, hd4, hm4, hb4, ha4⟩
      have HBE := Lib.hid (HB58.out.trans (hb4.mono HB58.out.size))
      have HX4 := Lib.hid hx4
      have HFIN := Lib.hid (show mayF ((p, l) : Fa) = true → z4 = 0 ∧ y4 = n + (factB ((p, l) : Fa)).length ∧ ((p4, l4) : Fa) = ((p, l) : Fa) from fun h => by rw [hmay] at h; cases h)
      clear ha4
      clear hx4 hb4
      dsimp only
      repeat (first | go_skip | go_guarded | go_step)
      go_meet
      case rel => exact ⟨y4, z4, we.heap.size, p4, A4, n4, d4, l4, rfl, rfl, rfl, HBE.out.size, Bk.new we _ _, (HX4.out.below ((Below.refl _ _).alloc (Nat.le_refl _) _)).more (by simp), hd4, hm4, HBE.out.alloc HBE.out.size _, HFIN.out⟩
  case rest =>
  obtain ⟨y, z4, gxF, p4, A4, n4, d4, l4, rfl, rfl, rfl, hgx, hbx, hx4, hd4, hm4, hbw, hfin⟩ := hcut
  rename World => wbF
  have HVFb := Lib.hid (HVA.out.trans (hbw.mono HVA.out.size))
  have HBXF := Lib.hid hbx
  have HGXF := Lib.hid (show wa0.heap.size ≤ gxF from hgx)
  have HGUF := Lib.hid (show U.heap.size ≤ gxF from Nat.le_trans HVA.out.size hgx)
  have HFIN := Lib.hid hfin
  have HWBF := Lib.hid hbw
  have HX4 := Lib.hid hx4
  clear hgx hbx hx4 hbw hfin
  have i0 := HBXF.out.readT (Below.refl _ _) 0 rfl
  have i1 := HBXF.out.readT (Below.refl _ _) 1 rfl
  have k0 := HHF.out.readT HVFb.out 0 rfl
  have k1 := HHF.out.readT HVFb.out 1 rfl
  refine hKA _ _ ?_
  apply wp_seq_k
  intro KB hKB
  go_cut [12, 14, 15] from 26 (fun s12 s14 s15 wc => Below wbF.heap.size wbF wc)
  case first =>
    rcases HZ0.out with ⟨hmay, rfl, rfl⟩ | ⟨hmay, rfl, rfl⟩
    · obtain ⟨rfl, rfl, hxx⟩ := HFIN.out hmay
      simp only [Prod.mk.injEq] at hxx
      have hmn : m' = n + (factB ((p, l) : Fa)).length := by have h1 := Ow.len HO2.out; have h2 := HLT.out; simp only [List.length_append] at h1; omega
      have hlen := (factB_len hmay).2
      rw [← hmn]
      obtain ⟨rfl, rfl⟩ := hxx
      have hle : n ≤ m' := by omega
      have hsub : ¬ ((36 : Int) < (m' : Int) - (n : Int)) := by omega
      have hsub2 : decide ((36 : Int) < (m' : Int) - (n : Int)) = false := decide_eq_false hsub
      clear hmn hlen HFIN hmay
      repeat (first | go_skip | go_guarded | go_step)
      refine (rSameFact_any p4 p4 A4 A1 n4 d4 n1 c1 l4 l4 wbF HX4.out ((HF1.out.below HVFb.out).more HVFb.out.size) (by omega)).mono ?_
      rintro e w5 ⟨rfl, hb5⟩
      rw [decide_eq_true rfl]
      have HB5 := Lib.hid hb5
      clear hb5
      dsimp only
      repeat (first | go_skip | go_guarded | go_step)
      go_meet
      case rel => exact HB5.out
    · repeat (first | go_skip | go_guarded | go_step)
      go_meet
      case rel => exact Below.refl _ _
  case rest =>
  have hbz := hcut
  clear i0 k0 i1 k1
  rename World => wn
  have HVN := Lib.hid (HVFb.out.trans (hbz.mono HVFb.out.size))
  have HBXF := Lib.hid (HBXF.out.later hbz)
  clear hbz hcut
  refine hKB _ _ ?_
  exact part7 ok A2 n2 c2 bs2 w U HB.out HW.out hwc hn2 wn HVN.out A n c bs HT.out htc hn q B1 e1 f1 k B3 e3 f3 S3 M3 gwc HHC.out HC1.out hcc HC3.out hcd he1 he3 HKC.out s0 x0 r C1 g1 h1 j C3 g3 h3 T3 O3 gwr HHR.out HR1.out hrc HR3.out hrd hg1 hg3 HKR.out gxF _ HBXF.out rfl HGUF.out
end Go.Proofs.Ytcoafgnbmgndeaa.wireBack
