/- Layer 6 (wire): WireBack, its part about rules. -/
import Derived.Test.YtcoafgnbmgndeaaWrBa
set_option linter.unusedVariables false
set_option linter.unusedSimpArgs false
namespace Go.Proofs.Ytcoafgnbmgndeaa.wireBack
open Go Go.RowKit

set_option maxRecDepth 100000 in
set_option maxHeartbeats 16000000 in
theorem part11 {u0 u1 u2 u5 u6 u8 u9 u10 u11 u12 u14 u15 u16 u18 u19 u20 u21 u22 u23 u24 u25 u26 u27 u28 u29 u30 u31 u32 u33 u34 u35 u36 u37 u38 u39 u40 u41 u42 u43 u44 u45 u46 u47 u48 u49 u50 u51 u52 u53 u54 u55 u56 u57 u58 u59 u60 u61 u62 u63 u64 u65 u66 u67 u68 u69 u70 u71 u72 u73 u74 u75 u76 u77 u78 u79 u80 u81 u82 u83 u84 u85 u86 u87 u88 u89 u90 u91 u92 u93 u94 u95 u96 u97 u98 u99 u100 u101 u102 u103 u104 u105 u106 u107 u108 u109 u110 u111 u112 u113 u114 u115 u116 u117 u118 u119 u120 u121 u122 u123 u124 u125 u126 u127 u128 u129 u130 u131 u132 u133 u134 u135 u136 u137 u138 u139 u140 u141 u142 u143 u144 u145 u146 u147 u148 u149 u150 u151 u152 u153 u154 u155 u156 u157 u158 u159 u160 u161 u162 u163 u164 u165 u166 u167 u168 u169 u170 u171 u172 u173 u174 u175 u176 u177 u178 u179 u180 u181 u182 u183 u184 u185 u186 u187 u188 u189 u190 u191 u192 u193 u194 u195 u196 u197 u198 u199 u200 u201 u202 u203 u204 u205 u206 u207 u208 u209 u210 u211 u212 u213 u214 u215 u216 u217 u218 u219 u220 u221 u222 u223 u224 u225 u226 u227 u228 u229 u230 u231 u232 u233 u234 u235 u236 u237 u238 u239 u240 u241 u242 u243 u244 u245 u246 u247 u248 u249 u250 u251 u252 u253 u254 u255 u256 u257 u258 u259 u260 u261 u262 u263 u264 u265 u266 u267 u268 u269 u270 u271 u272 u273 u274 u275 u276 u277 u278 : Value} (ok : WireOk) (A2 : Option Addr) (n2 c2 : Nat) (bs2 : List UInt8) (w U : World) (hB : Below w.heap.size w U) (hw2 : Rd U U.heap.size 1 A2 n2 (bs2.map bv)) (hwc : n2 ≤ c2) (hn2 : ¬ 4096 < n2) (wz : World) (hV : Below U.heap.size U wz) (A : Option Addr) (n c : Nat) (bs : List UInt8) (ht : Rd U U.heap.size 1 A n (bs.map bv)) (htc : n ≤ c) (hn : ¬ 4096 < n) (s0 : Bool) (x0 : Tm) (r : UInt32) (C1 : Option Addr) (g1 h1 : Nat) (j : List Tm) (C3 : Option Addr) (g3 h3 : Nat) (T3 : List SlA) (O3 : List Co) (gwr : Nat) (bxR : Bk U gwr 59 [.bool s0, .bool x0.1, nv x0.2, nv r, .slice C1 g1 h1, .slice C3 g3 h3]) (hr1 : RdT U U.heap.size C1 g1 j) (hrc : g1 ≤ h1) (hr3 : RdK U U.heap.size C3 g3 T3 O3) (hrd : g3 ≤ h3) (hg1 : g1 ≤ 100) (hg3 : g3 ≤ 100) (hkr : ∀ x ∈ O3, x.2.2.2.2.length ≤ 100) (gxF : Nat) (cF : List Value) (hbF : Bk wz gxF 26 cF) (hlF : cF.length = 2) (huF : U.heap.size ≤ gxF) (gxC : Nat) (cC : List Value) (hbC : Bk wz gxC 45 cC) (hlC : cC.length = 3) (huC : U.heap.size ≤ gxC) (hlt1 : gxF < gxC) :
    Code.wp Try.prog rest11 (bodyPost Try.prog Try.f6 (fun e w' => e = .returned (.bool true) ∧ Below w.heap.size w w')) ⟨#[u0, u1, u2, .slice A n c, .slice A2 n2 c2, u5, u6, .pointer (some ⟨gwr, 0, none⟩), u8, u9, u10, u11, u12, .pointer (some ⟨gxF, 0, none⟩), u14, u15, u16, .pointer (some ⟨gxC, 0, none⟩), u18, u19, u20, u21, u22, u23, u24, u25, u26, u27, u28, u29, u30, u31, u32, u33, u34, u35, u36, u37, u38, u39, u40, u41, u42, u43, u44, u45, u46, u47, u48, u49, u50, u51, u52, u53, u54, u55, u56, u57, u58, u59, u60, u61, u62, u63, u64, u65, u66, u67, u68, u69, u70, u71, u72, u73, u74, u75, u76, u77, u78, u79, u80, u81, u82, u83, u84, u85, u86, u87, u88, u89, u90, u91, u92, u93, u94, u95, u96, u97, u98, u99, u100, u101, u102, u103, u104, u105, u106, u107, u108, u109, u110, u111, u112, u113, u114, u115, u116, u117, u118, u119, u120, u121, u122, u123, u124, u125, u126, u127, u128, u129, u130, u131, u132, u133, u134, u135, u136, u137, u138, u139, u140, u141, u142, u143, u144, u145, u146, u147, u148, u149, u150, u151, u152, u153, u154, u155, u156, u157, u158, u159, u160, u161, u162, u163, u164, u165, u166, u167, u168, u169, u170, u171, u172, u173, u174, u175, u176, u177, u178, u179, u180, u181, u182, u183, u184, u185, u186, u187, u188, u189, u190, u191, u192, u193, u194, u195, u196, u197, u198, u199, u200, u201, u202, u203, u204, u205, u206, u207, u208, u209, u210, u211, u212, u213, u214, u215, u216, u217, u218, u219, u220, u221, u222, u223, u224, u225, u226, u227, u228, u229, u230, u231, u232, u233, u234, u235, u236, u237, u238, u239, u240, u241, u242, u243, u244, u245, u246, u247, u248, u249, u250, u251, u252, u253, u254, u255, u256, u257, u258, u259, u260, u261, u262, u263, u264, u265, u266, u267, u268, u269, u270, u271, u272, u273, u274, u275, u276, u277, u278], []⟩ wz := by
  conv => arg 2; whnf
  have HB := Lib.hid hB
  have HW := Lib.hid hw2
  have HV := Lib.hid hV
  have HLW := Lib.hid (show bs2.length = n2 by simpa using hw2.len1)
  have HT := Lib.hid ht
  have HLT := Lib.hid (show bs.length = n by simpa using ht.len1)
  have HHR := Lib.hid bxR
  have HR1 := Lib.hid hr1
  have HR3 := Lib.hid hr3
  have HKR := Lib.hid hkr
  have HLR := Lib.hid (rdT_len hr1)
  have HBXF := Lib.hid hbF
  have HGUF := Lib.hid huF
  have HBXC := Lib.hid hbC
  have HGUC := Lib.hid huC
  have HLT1 := Lib.hid hlt1
  clear hlt1
  clear hB hw2 hV ht bxR hr1 hr3 hkr hbF huF hbC huC
  have k0 := HHR.out.readT HV.out 0 rfl
  have k1 := HHR.out.readT HV.out 1 rfl
  have k2 := HHR.out.readT HV.out 2 rfl
  have k3 := HHR.out.readT HV.out 3 rfl
  have k4 := HHR.out.readT HV.out 4 rfl
  have k5 := HHR.out.readT HV.out 5 rfl
  repeat (first | go_skip | go_guarded | go_step)
  refine (ok.putRule A n c bs s0 x0 r C1 g1 h1 j C3 g3 h3 T3 O3 wz ((HT.out.below HV.out).more HV.out.size) htc (by omega) ((HR1.out.below HV.out).more HV.out.size) ((HR3.out.below HV.out).more HV.out.size) hrc hrd (by omega) (by omega) (fun x hx => Nat.le_trans (HKR.out x hx) (by omega))).mono ?_
  rintro e wa2 ⟨A', m', c', z, bs', rfl, ho2, hb2, hz⟩
  have HVAR := Lib.hid (HV.out.trans (hb2.mono HV.out.size))
  have HPUTR := Lib.hid hb2
  have HZR := Lib.hid hz
  have HO2 := Lib.hid ho2
  have hcap := Ow.le ho2
  have HBXF := Lib.hid (HBXF.out.later (show Below wz.heap.size wz wa2 from hb2))
  have HBXC := Lib.hid (HBXC.out.later (show Below wz.heap.size wz wa2 from hb2))
  have HLF := Lib.hid (show gxF < wa2.heap.size from HBXF.out.lt)
  have HLC := Lib.hid (show gxC < wa2.heap.size from HBXC.out.lt)
  have hmx : m' ≤ 10000 := by
    have h1 := Ow.len ho2
    have h2 := HLT.out
    rcases hz with ⟨hm, _, rfl⟩ | ⟨_, _, rfl⟩
    · have h3 := (ruleB_len hm).2
      simp only [List.length_append] at h1
      omega
    · simp only [List.length_nil] at h1
      omega
  clear k0 k1 k2 k3 k4 k5 ho2 hb2 hz
  dsimp only
  go_upto_region 12 with (fail)
  rename_i KA hKA
  go_cut [14, 15, 19] from 26 (fun s14 s15 sx wc => ∃ (y z4 gx : Nat) (s4 : Bool) (x4 : Tm) (p4 : UInt32) (A4 : Option Addr) (n4 d4 : Nat) (l4 : List Tm) (A6 : Option Addr) (n6 d6 : Nat) (R6 : List SlA) (L6 : List Co), s14 = .int .i64 (y : Int) ∧ s15 = .int .i64 (z4 : Int) ∧ sx = .pointer (some ⟨gx, 0, none⟩) ∧ wa2.heap.size ≤ gx ∧ Bk wc gx 59 [.bool s4, .bool x4.1, nv x4.2, nv p4, .slice A4 n4 d4, .slice A6 n6 d6] ∧ RdT wc wc.heap.size A4 n4 l4 ∧ RdK wc wc.heap.size A6 n6 R6 L6 ∧ n4 ≤ d4 ∧ n6 ≤ d6 ∧ n4 ≤ 6 ∧ n6 ≤ 8 ∧ (∀ x ∈ L6, x.2.2.2.2.length ≤ 6) ∧ Below wa2.heap.size wa2 wc ∧ (mayR (((s0, x0, (r, j)), O3) : Rl) = true → z4 = 0 ∧ y = n + (ruleB (((s0, x0, (r, j)), O3) : Rl)).length ∧ (((s4, x4, (p4, l4)), L6) : Rl) = (((s0, x0, (r, j)), O3) : Rl)))
  case first =>
    rcases HZR.out with ⟨hmay, rfl, rfl⟩ | ⟨hmay, rfl, rfl⟩
    · have hmn : m' = n + (ruleB (((s0, x0, (r, j)), O3) : Rl)).length := by have h1 := Ow.len HO2.out; have h2 := HLT.out; simp only [List.length_append] at h1; omega
      have hmin : (n : Int) ≤ (m' : Int) := by omega
      have hmin2 : ¬ (m' : Int) < (n : Int) := by omega
      clear hmn
      repeat (first
        | (at_builtin; refine app8h _ rfl (.tmp 145) (.tmp 146) rfl wa2.heap.size (some ⟨wa2.heap.size, 0, none⟩) 0 0 [] rfl (owLit0 wa2 _ (Nat.le_refl _)) wa2.heap.size A' m' c' (bs ++ ruleB (((s0, x0, (r, j)), O3) : Rl)) rfl ((Ow.rd HO2.out).below ((Below.refl _ _).alloc (Nat.le_refl _) _)) (by omega) (by simp) ?_
           intro A7 c7 wb ho7 hb7
           have hb57 := ((Below.refl wa2.heap.size wa2).alloc (Nat.le_refl _) (.cells #[] 5)).trans hb7
           rw [List.nil_append, Nat.zero_add] at ho7
           have HO7 := Lib.hid ho7
           have HB57 := Lib.hid hb57
           clear ho7 hb7 hb57)
        | (at_builtin; refine app8h _ rfl (.tmp 147) (.tmp 148) rfl wa2.heap.size A7 c7 m' (bs ++ ruleB (((s0, x0, (r, j)), O3) : Rl)) (by simp [Act.eval]) HO7.out _ A n c bs rfl (HT.out.below (HVAR.out.trans (HB57.out.mono HVAR.out.size))) (by omega) HB57.out.size ?_
           intro A8 c8 wd ho8 hb8
           have HO8 := Lib.hid ho8
           have HB58 := Lib.hid (HB57.out.trans hb8)
           clear ho8 hb8)
        | go_skip | go_guarded | go_step)
      have hcap8 := Ow.le HO8.out
      refine (ok.takeRule A8 (m' + n) c8 ((n : Nat) : Int) ((bs ++ ruleB (((s0, x0, (r, j)), O3) : Rl)) ++ bs) wd (Ow.rd HO8.out) hcap8 (by omega) (by omega) (by omega)).mono ?_
      rintro e we ⟨s4, x4, p4, A4, n4, d4, l4, A6, n6, d6, R6, L6, y4, z4, rfl, hx4, hx6, hd4, hd6, hm4, hm6, hs6, hb4, ha4⟩
      have HBE := Lib.hid (HB58.out.trans (hb4.mono HB58.out.size))
      have HX4 := Lib.hid hx4
      have HX6 := Lib.hid hx6
      have h5 := takeAns_put ruleC zR (((s0, x0, (r, j)), O3) : Rl) hmay bs bs
      rw [HLT.out] at h5
      rw [h5] at ha4
      simp only [Prod.mk.injEq] at ha4
      have HFIN := Lib.hid (show mayR (((s0, x0, (r, j)), O3) : Rl) = true → z4 = 0 ∧ y4 = n + (ruleB (((s0, x0, (r, j)), O3) : Rl)).length ∧ (((s4, x4, (p4, l4)), L6) : Rl) = (((s0, x0, (r, j)), O3) : Rl) from fun _ => ⟨ha4.2.2, ha4.2.1, by simp only [Prod.mk.injEq]; exact ha4.1⟩)
      clear h5 ha4
      clear hx4 hx6 hb4
      dsimp only
      repeat (first | go_skip | go_guarded | go_step)
      go_meet
      case rel => exact ⟨y4, z4, we.heap.size, s4, x4, p4, A4, n4, d4, l4, A6, n6, d6, R6, L6, rfl, rfl, rfl, HBE.out.size, Bk.new we _ _, (HX4.out.below ((Below.refl _ _).alloc (Nat.le_refl _) _)).more (by simp), (HX6.out.below ((Below.refl _ _).alloc (Nat.le_refl _) _)).more (by simp), hd4, hd6, hm4, hm6, hs6, HBE.out.alloc HBE.out.size _, HFIN.out⟩
    · have hm0 : m' = 0 := (Ow.len HO2.out).symm
      have hmin : (m' : Int) ≤ (n : Int) := by omega
      have hmin2 : ¬ (n : Int) < (m' : Int) := by omega
      have HM0 := Lib.hid hm0
      clear hm0
      repeat (first
        | (at_builtin; refine app8h _ rfl (.tmp 145) (.tmp 146) rfl wa2.heap.size (some ⟨wa2.heap.size, 0, none⟩) 0 0 [] rfl (owLit0 wa2 _ (Nat.le_refl _)) wa2.heap.size A' m' c' [] rfl ((Ow.rd HO2.out).below ((Below.refl _ _).alloc (Nat.le_refl _) _)) (by omega) (by simp) ?_
           intro A7 c7 wb ho7 hb7
           have hb57 := ((Below.refl wa2.heap.size wa2).alloc (Nat.le_refl _) (.cells #[] 5)).trans hb7
           rw [List.nil_append, Nat.zero_add] at ho7
           have HO7 := Lib.hid ho7
           have HB57 := Lib.hid hb57
           clear ho7 hb7 hb57)
        | (at_builtin; refine app8h _ rfl (.tmp 147) (.tmp 148) rfl wa2.heap.size A7 c7 m' [] (by simp [Act.eval]) HO7.out _ A n c bs rfl (HT.out.below (HVAR.out.trans (HB57.out.mono HVAR.out.size))) (by omega) HB57.out.size ?_
           intro A8 c8 wd ho8 hb8
           have HO8 := Lib.hid ho8
           have HB58 := Lib.hid (HB57.out.trans hb8)
           clear ho8 hb8)
        | go_skip | go_guarded | go_step)
      obtain ⟨ix, hix, hixb⟩ : ∃ ix : Nat, (if m' < n then (m' : Int) else (n : Int)) = (ix : Int) ∧ ix ≤ 10000 := by
        by_cases hq : m' < n
        · exact ⟨m', by rw [if_pos hq], by omega⟩
        · exact ⟨n, by rw [if_neg hq], by omega⟩
      rw [hix]
      clear hix
      have hcap8 := Ow.le HO8.out
      refine (ok.takeRule A8 (m' + n) c8 ((ix : Nat) : Int) ([] ++ bs) wd (Ow.rd HO8.out) hcap8 (by omega) (by omega) (by omega)).mono ?_
      rintro e we ⟨s4, x4, p4, A4, n4, d4, l4, A6, n6, d6, R6, L6, y4, z4, rfl, hx4, hx6, hd4, hd6, hm4, hm6, hs6, hb4, ha4⟩
      have HBE := Lib.hid (HB58.out.trans (hb4.mono HB58.out.size))
      have HX4 := Lib.hid hx4
      have HX6 := Lib.hid hx6
      have HFIN := Lib.hid (show mayR (((s0, x0, (r, j)), O3) : Rl) = true → z4 = 0 ∧ y4 = n + (ruleB (((s0, x0, (r, j)), O3) : Rl)).length ∧ (((s4, x4, (p4, l4)), L6) : Rl) = (((s0, x0, (r, j)), O3) : Rl) from fun h => by rw [hmay] at h; cases h)
      clear ha4
      clear hx4 hx6 hb4
      dsimp only
      repeat (first | go_skip | go_guarded | go_step)
      go_meet
      case rel => exact ⟨y4, z4, we.heap.size, s4, x4, p4, A4, n4, d4, l4, A6, n6, d6, R6, L6, rfl, rfl, rfl, HBE.out.size, Bk.new we _ _, (HX4.out.below ((Below.refl _ _).alloc (Nat.le_refl _) _)).more (by simp), (HX6.out.below ((Below.refl _ _).alloc (Nat.le_refl _) _)).more (by simp), hd4, hd6, hm4, hm6, hs6, HBE.out.alloc HBE.out.size _, HFIN.out⟩
  case rest =>
  obtain ⟨y, z4, gxR, s4, x4, p4, A4, n4, d4, l4, A6, n6, d6, R6, L6, rfl, rfl, rfl, hgx, hbx, hx4, hx6, hd4, hd6, hm4, hm6, hs6, hbw, hfin⟩ := hcut
  rename World => wbR
  have HVRb := Lib.hid (HVAR.out.trans (hbw.mono HVAR.out.size))
  have HBXR := Lib.hid hbx
  have HGXR := Lib.hid (show wa2.heap.size ≤ gxR from hgx)
  have HGUR := Lib.hid (show U.heap.size ≤ gxR from Nat.le_trans HVAR.out.size hgx)
  have HFIN := Lib.hid hfin
  have HWBR := Lib.hid hbw
  have HX4 := Lib.hid hx4
  have HX6 := Lib.hid hx6
  clear hgx hbx hx4 hx6 hbw hfin
  have HBXF := Lib.hid (HBXF.out.later HWBR.out)
  have HBXC := Lib.hid (HBXC.out.later HWBR.out)
  have i0 := HBXR.out.readT (Below.refl _ _) 0 rfl
  have i1 := HBXR.out.readT (Below.refl _ _) 1 rfl
  have i2 := HBXR.out.readT (Below.refl _ _) 2 rfl
  have i3 := HBXR.out.readT (Below.refl _ _) 3 rfl
  have i4 := HBXR.out.readT (Below.refl _ _) 4 rfl
  have i5 := HBXR.out.readT (Below.refl _ _) 5 rfl
  have k0 := HHR.out.readT HVRb.out 0 rfl
  have k1 := HHR.out.readT HVRb.out 1 rfl
  have k2 := HHR.out.readT HVRb.out 2 rfl
  have k3 := HHR.out.readT HVRb.out 3 rfl
  have k4 := HHR.out.readT HVRb.out 4 rfl
  have k5 := HHR.out.readT HVRb.out 5 rfl
  refine hKA _ _ ?_
  apply wp_seq_k
  intro KB hKB
  go_cut [12, 14, 15] from 26 (fun s12 s14 s15 wc => Below wbR.heap.size wbR wc)
  case first =>
    rcases HZR.out with ⟨hmay, rfl, rfl⟩ | ⟨hmay, rfl, rfl⟩
    · obtain ⟨rfl, rfl, hxx⟩ := HFIN.out hmay
      simp only [Prod.mk.injEq] at hxx
      have hmn : m' = n + (ruleB (((s0, x0, (r, j)), O3) : Rl)).length := by have h1 := Ow.len HO2.out; have h2 := HLT.out; simp only [List.length_append] at h1; omega
      have hlen := (ruleB_len hmay).2
      rw [← hmn]
      obtain ⟨⟨rfl, rfl, rfl, rfl⟩, rfl⟩ := hxx
      have hle : n ≤ m' := by omega
      have hsub : ¬ ((387 : Int) < (m' : Int) - (n : Int)) := by omega
      have hsub2 : decide ((387 : Int) < (m' : Int) - (n : Int)) = false := decide_eq_false hsub
      clear hmn hlen HFIN hmay
      repeat (first | go_skip | go_guarded | go_step)
      refine (rSameRule_any s4 x4 p4 A4 n4 d4 l4 A6 n6 d6 R6 L6 s4 x4 p4 C1 g1 h1 l4 C3 g3 h3 T3 L6 wbR HX4.out HX6.out ((HR1.out.below HVRb.out).more HVRb.out.size) ((HR3.out.below HVRb.out).more HVRb.out.size) (by omega) (by omega) (fun x hx => Nat.le_trans (HKR.out x hx) (by omega))).mono ?_
      rintro e w5 ⟨rfl, hb5⟩
      rw [decide_eq_true rfl]
      have HB5 := Lib.hid hb5
      clear hb5
      dsimp only
      repeat (first | go_skip | go_guarded | go_step)
      go_meet
      case rel => exact HB5.out
    · repeat (first | go_skip | go_guarded | go_step)
      go_meet
      case rel => exact Below.refl _ _
  case rest =>
  have hbz := hcut
  clear i0 k0 i1 k1 i2 k2 i3 k3 i4 k4 i5 k5
  rename World => wn
  have HVN := Lib.hid (HVRb.out.trans (hbz.mono HVRb.out.size))
  have HBXF := Lib.hid (HBXF.out.later hbz)
  have HBXC := Lib.hid (HBXC.out.later hbz)
  have HBXR := Lib.hid (HBXR.out.later hbz)
  clear hbz hcut
  refine hKB _ _ ?_
  exact part15 ok A2 n2 c2 bs2 w U HB.out HW.out hwc hn2 wn HVN.out gxF _ HBXF.out hlF HGUF.out gxC _ HBXC.out hlC HGUC.out gxR _ HBXR.out rfl HGUR.out HLT1.out (Nat.lt_of_lt_of_le HLC.out HGXR.out)
end Go.Proofs.Ytcoafgnbmgndeaa.wireBack
