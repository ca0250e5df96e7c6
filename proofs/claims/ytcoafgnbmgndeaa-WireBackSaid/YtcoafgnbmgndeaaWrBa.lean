/- Layer 6 (wire): WireBack, its last three parts: what was taken of any bytes is put as it stood. -/
import Derived.Test.YtcoafgnbmgndeaaWrQ
import Derived.Test.YtcoafgnbmgndeaaWrAo
import Derived.Test.YtcoafgnbmgndeaaWqU
import Derived.Deep.Cut
set_option linter.unusedVariables false
set_option linter.unusedSimpArgs false
namespace Go.Proofs.Ytcoafgnbmgndeaa.wireBack
open Go Go.RowKit
theorem i64_bdW {a : Int} (w : (Lit.int .i64 a).wf = true) : -9223372036854775808 ≤ a ∧ a ≤ 9223372036854775807 := by
  have h1 : IntKind.i64.min = -9223372036854775808 := rfl
  have h2 : IntKind.i64.max = 9223372036854775807 := rfl
  simp only [Lit.wf, Bool.and_eq_true, decide_eq_true_eq] at w
  omega
theorem str_add (a b : List UInt8) : (({ data := a.toArray } : ByteArray) ++ ({ data := b.toArray } : ByteArray)) = { data := (a ++ b).toArray } := by
  apply ByteArray.ext
  rw [ByteArray.data_append]
  simp
theorem anyd_conv8 {ops : Array Oper} {E : Prop} {o : Oper} {a : Act} {w : World} {K : Act → World → Prop} {Q : Exit → Act → World → Prop} (hwant : Region.wanted o (yielded ops a.tmps) = true) (x : Operand)
    (ho : o.op = .convert 22 9 x) (B : Nat) (A : Option Addr) (n c : Nat) (bs : List UInt8) (hx : a.eval x = .slice A n c) (hr : Rd w B 1 A n (bs.map bv))
    (h : K (a.put o.dst (strV bs)) w) : if Region.wanted o (yielded ops a.tmps) = true then Oper.wp Try.prog o a w K Q else E := by
  rw [if_pos hwant]
  have e := run_conv_str (P := Try.prog) w 22 9 5 Try.underlying22 Try.underlying5 Try.underlying9 B A n c bs hr
  unfold Oper.wp execOp
  simp only [ho, hx, Sem.run_bind, e, Result.andThen_ok]
  exact h
theorem bigR_not {c : Rl} (h : bigR c = false) : c.1.2.2.2.length ≤ 100 ∧ c.2.length ≤ 100 ∧ ∀ x ∈ c.2, x.2.2.2.2.length ≤ 100 := by
  unfold bigR at h
  rw [Bool.or_eq_false_iff, Bool.or_eq_false_iff, decide_eq_false_iff_not, decide_eq_false_iff_not, List.any_eq_false] at h
  refine ⟨by omega, by omega, fun x hx => ?_⟩
  have := h.2 x hx
  simp only [decide_eq_true_eq] at this
  omega

theorem bigC_not {c : Cl} (h : bigC c = false) : c.1.2.length ≤ 100 ∧ c.2.length ≤ 100 ∧ ∀ x ∈ c.2, x.2.2.length ≤ 100 := by
  unfold bigC at h
  rw [Bool.or_eq_false_iff, Bool.or_eq_false_iff, decide_eq_false_iff_not, decide_eq_false_iff_not, List.any_eq_false] at h
  refine ⟨by omega, by omega, fun x hx => ?_⟩
  have := h.2 x hx
  simp only [decide_eq_true_eq] at this
  omega

theorem rdPre {w : World} {B : Nat} {A : Option Addr} {n : Nat} {bs : List UInt8} (h : Rd w B 1 A n (bs.map bv)) {k : Nat} (hk : k ≤ n) : Rd w B 1 A k ((bs.take k).map bv) := by
  have hl : bs.length = n := by simpa using h.len1
  refine ⟨by simp; omega, fun h0 => ?_⟩
  obtain ⟨b, o, e, hb, hc⟩ := h.2 (by omega)
  refine ⟨b, o, e, hb, fun j u hu => hc j u ?_⟩
  rw [List.getElem?_map, List.getElem?_take] at hu
  split at hu
  · rw [List.getElem?_map]; exact hu
  · cases hu

theorem Bk.third (w : World) (x y : Obj) (t : TypeId) (cs : List Value) : Bk (((w.alloc x).alloc y).alloc (.cells cs.toArray t)) (w.heap.size + 1 + 1) t cs := by
  have h := Bk.new ((w.alloc x).alloc y) t cs
  simpa using h

/-- What of a function's body begins at a region. -/
def seqAt (n : Nat) : Code → Option Code
  | .seq a b => match a with
    | .region i ops d => if i = n then some (.seq (.region i ops d) b) else seqAt n b
    | _ => seqAt n b
  | _ => none
noncomputable def rest7 : Code := (Try.f6.body.bind (seqAt 7)).getD .skip
noncomputable def rest11 : Code := (Try.f6.body.bind (seqAt 11)).getD .skip
noncomputable def rest15 : Code := (Try.f6.body.bind (seqAt 15)).getD .skip
noncomputable def rest20 : Code := (Try.f6.body.bind (seqAt 20)).getD .skip
noncomputable def rest25 : Code := (Try.f6.body.bind (seqAt 25)).getD .skip

set_option maxRecDepth 100000 in
set_option maxHeartbeats 16000000 in
theorem part25 {u0 u1 u2 u3 u5 u6 u7 u8 u9 u10 u11 u12 u13 u14 u15 u16 u17 u18 u20 u21 u22 u23 u24 u25 u26 u27 u28 u29 u30 u31 u32 u33 u34 u35 u36 u37 u38 u39 u40 u41 u42 u43 u44 u45 u46 u47 u48 u49 u50 u51 u52 u53 u54 u55 u56 u57 u58 u59 u60 u61 u62 u63 u64 u65 u66 u67 u68 u69 u70 u71 u72 u73 u74 u75 u76 u77 u78 u79 u80 u81 u82 u83 u84 u85 u86 u87 u88 u89 u90 u91 u92 u93 u94 u95 u96 u97 u98 u99 u100 u101 u102 u103 u104 u105 u106 u107 u108 u109 u110 u111 u112 u113 u114 u115 u116 u117 u118 u119 u120 u121 u122 u123 u124 u125 u126 u127 u128 u129 u130 u131 u132 u133 u134 u135 u136 u137 u138 u139 u140 u141 u142 u143 u144 u145 u146 u147 u148 u149 u150 u151 u152 u153 u154 u155 u156 u157 u158 u159 u160 u161 u162 u163 u164 u165 u166 u167 u168 u169 u170 u171 u172 u173 u174 u175 u176 u177 u178 u179 u180 u181 u182 u183 u184 u185 u186 u187 u188 u189 u190 u191 u192 u193 u194 u195 u196 u197 u198 u199 u200 u201 u202 u203 u204 u205 u206 u207 u208 u209 u210 u211 u212 u213 u214 u215 u216 u217 u218 u219 u220 u221 u222 u223 u224 u225 u226 u227 u228 u229 u230 u231 u232 u233 u234 u235 u236 u237 u238 u239 u240 u241 u242 u243 u244 u245 u246 u247 u248 u249 u250 u251 u252 u253 u254 u255 u256 u257 u258 u259 u260 u261 u262 u263 u264 u265 u266 u267 u268 u269 u270 u271 u272 u273 u274 u275 u276 u277 u278 : Value} (ok : WireOk) (A2 : Option Addr) (n2 c2 : Nat) (bs2 : List UInt8) (w U : World) (hB : Below w.heap.size w U) (hw2 : Rd U U.heap.size 1 A2 n2 (bs2.map bv)) (hwc : n2 ≤ c2) (hn2 : ¬ 4096 < n2) (wz : World) (hV : Below U.heap.size U wz) (gxR : Nat) (cR : List Value) (hbR : Bk wz gxR 59 cR) (hlR : cR.length = 6) (huR : U.heap.size ≤ gxR) :
    Code.wp Try.prog rest25 (bodyPost Try.prog Try.f6 (fun e w' => e = .returned (.bool true) ∧ Below w.heap.size w w')) ⟨#[u0, u1, u2, u3, .slice A2 n2 c2, u5, u6, u7, u8, u9, u10, u11, u12, u13, u14, u15, u16, u17, u18, .pointer (some ⟨gxR, 0, none⟩), u20, u21, u22, u23, u24, u25, u26, u27, u28, u29, u30, u31, u32, u33, u34, u35, u36, u37, u38, u39, u40, u41, u42, u43, u44, u45, u46, u47, u48, u49, u50, u51, u52, u53, u54, u55, u56, u57, u58, u59, u60, u61, u62, u63, u64, u65, u66, u67, u68, u69, u70, u71, u72, u73, u74, u75, u76, u77, u78, u79, u80, u81, u82, u83, u84, u85, u86, u87, u88, u89, u90, u91, u92, u93, u94, u95, u96, u97, u98, u99, u100, u101, u102, u103, u104, u105, u106, u107, u108, u109, u110, u111, u112, u113, u114, u115, u116, u117, u118, u119, u120, u121, u122, u123, u124, u125, u126, u127, u128, u129, u130, u131, u132, u133, u134, u135, u136, u137, u138, u139, u140, u141, u142, u143, u144, u145, u146, u147, u148, u149, u150, u151, u152, u153, u154, u155, u156, u157, u158, u159, u160, u161, u162, u163, u164, u165, u166, u167, u168, u169, u170, u171, u172, u173, u174, u175, u176, u177, u178, u179, u180, u181, u182, u183, u184, u185, u186, u187, u188, u189, u190, u191, u192, u193, u194, u195, u196, u197, u198, u199, u200, u201, u202, u203, u204, u205, u206, u207, u208, u209, u210, u211, u212, u213, u214, u215, u216, u217, u218, u219, u220, u221, u222, u223, u224, u225, u226, u227, u228, u229, u230, u231, u232, u233, u234, u235, u236, u237, u238, u239, u240, u241, u242, u243, u244, u245, u246, u247, u248, u249, u250, u251, u252, u253, u254, u255, u256, u257, u258, u259, u260, u261, u262, u263, u264, u265, u266, u267, u268, u269, u270, u271, u272, u273, u274, u275, u276, u277, u278], []⟩ wz := by
  conv => arg 2; whnf
  have HB := Lib.hid hB
  have HW := Lib.hid hw2
  have HV := Lib.hid hV
  have HLW := Lib.hid (show bs2.length = n2 by simpa using hw2.len1)
  obtain ⟨cR0, cR1, cR2, cR3, cR4, cR5, rfl⟩ : ∃ cR0 cR1 cR2 cR3 cR4 cR5, cR = [cR0, cR1, cR2, cR3, cR4, cR5] := by
    match cR, hlR with | [a, b, c, d, e, f], _ => exact ⟨a, b, c, d, e, f, rfl⟩
  have HBXR := Lib.hid hbR
  have HGUR := Lib.hid huR
  clear hB hw2 hV hbR huR hlR
  repeat (first | go_skip | go_guarded | go_step)
  refine (takeRuleO_any A2 n2 c2 0 bs2 wz ((HW.out.below HV.out).more HV.out.size) hwc (by omega)).mono ?_
  rintro e wt ⟨s5, x5, p5, A5, n5, d5, l5, A7, n7, d7, R7, L7, y5, z5, rfl, ho5, ho7, hd5, hd7, hm5, hm7, hs7, hb5, ha5⟩
  have HGZ := Lib.hid (show gxR < wz.heap.size from HBXR.out.lt)
  have HTZ := Lib.hid hb5
  have HBXT := Lib.hid (HBXR.out.later hb5)
  have r0 := (HBXR.out.later hb5).readT (Below.refl _ _) 0 rfl
  have f0 := (HBXR.out.later hb5).frozen 0
  have r1 := (HBXR.out.later hb5).readT (Below.refl _ _) 1 rfl
  have f1 := (HBXR.out.later hb5).frozen 1
  have r2 := (HBXR.out.later hb5).readT (Below.refl _ _) 2 rfl
  have f2 := (HBXR.out.later hb5).frozen 2
  have r3 := (HBXR.out.later hb5).readT (Below.refl _ _) 3 rfl
  have f3 := (HBXR.out.later hb5).frozen 3
  have r4 := (HBXR.out.later hb5).readT (Below.refl _ _) 4 rfl
  have f4 := (HBXR.out.later hb5).frozen 4
  have r5 := (HBXR.out.later hb5).readT (Below.refl _ _) 5 rfl
  have f5 := (HBXR.out.later hb5).frozen 5
  have HO5 := Lib.hid ho5
  have HO7 := Lib.hid ho7
  have HS7 := Lib.hid hs7
  have HA5 := Lib.hid ha5
  clear hb5 ha5 ho5 ho7 hs7
  dsimp only
  go_upto_region 26 with (fail)
  rename_i K20 hK20 Kc hKc
  obtain ⟨V, hV, hbv, htv⟩ : ∃ V, V = ((((((wt.setCell ⟨gxR, 0, none⟩ (.bool s5)).setCell ⟨gxR, 1, none⟩ (.bool x5.1)).setCell ⟨gxR, 2, none⟩ (nv x5.2)).setCell ⟨gxR, 3, none⟩ (nv p5)).setCell ⟨gxR, 4, none⟩ (.slice A5 n5 d5)).setCell ⟨gxR, 5, none⟩ (.slice A7 n7 d7)) ∧ Bk V gxR 59 [.bool s5, .bool x5.1, nv x5.2, nv p5, .slice A5 n5 d5, .slice A7 n7 d7] ∧ Turn (fun k => k = gxR) wt V := ⟨_, rfl, ((((((HBXT.out.set_ 0 (.bool s5)).set_ 1 (.bool x5.1)).set_ 2 (nv x5.2)).set_ 3 (nv p5)).set_ 4 (.slice A5 n5 d5)).set_ 5 (.slice A7 n7 d7)), (((((((Turn.refl (fun k => k = gxR) wt).setCell (p := ⟨gxR, 0, none⟩) (fun _ => rfl) _).setCell (p := ⟨gxR, 1, none⟩) (fun _ => rfl) _).setCell (p := ⟨gxR, 2, none⟩) (fun _ => rfl) _).setCell (p := ⟨gxR, 3, none⟩) (fun _ => rfl) _).setCell (p := ⟨gxR, 4, none⟩) (fun _ => rfl) _).setCell (p := ⟨gxR, 5, none⟩) (fun _ => rfl) _)⟩
  rw [← hV]
  clear hV r0 f0 r1 f1 r2 f2 r3 f3 r4 f4 r5 f5
  have HBV := Lib.hid hbv
  have HTV := Lib.hid ((Turn.ofBelow (G := fun k => k = gxR) HTZ.out).trans htv)
  have HOV5 := Lib.hid (htv.own HO5.out (fun k hk e => by have := (World.ownsRow.lt HO5.out k hk).1; have := HGZ.out; omega))
  have HOV7 := Lib.hid (HO7.out.turn htv (fun k hk e => by have := HGZ.out; omega))
  clear hbv htv
  go_upto_if 254 with (fail)
  go_cut [12] from 26 (fun s12 wc => Turn (fun k => k = gxR) wz wc)
  case first =>
    by_cases hz5 : z5 = 0
    · subst hz5
      have hback := takeAns_back0 ruleC HA5.out.symm
      obtain ⟨hmay, hyl, henc, hyy⟩ := hback
      have hyn : y5 ≤ n2 := by have := HLW.out; omega
      have HENC := Lib.hid henc
      have HMAY := Lib.hid hmay
      clear hmay hyl henc hyy
      have q0 := HBV.out.readT (Below.refl _ _) 0 rfl
      have q1 := HBV.out.readT (Below.refl _ _) 1 rfl
      have q2 := HBV.out.readT (Below.refl _ _) 2 rfl
      have q3 := HBV.out.readT (Below.refl _ _) 3 rfl
      have q4 := HBV.out.readT (Below.refl _ _) 4 rfl
      have q5 := HBV.out.readT (Below.refl _ _) 5 rfl
      repeat (first | go_skip | go_guarded | go_step)
      refine (ok.putRule none 0 0 [] s5 x5 p5 A5 n5 d5 l5 A7 n7 d7 R7 L7 V Rd.nil (by omega) (by omega) (OwT.rd HOV5.out) (OwK.rd HOV7.out) hd5 hd7 (by omega) (by omega) (fun x hx => Nat.le_trans (HS7.out x hx) (by omega))).mono ?_
      rintro e wp ⟨A9, m9, c9, z9, bs9, rfl, ho9, hb9, hz9⟩
      have HTP := Lib.hid (HTV.out.trans (Turn.ofBelow (G := fun k => k = gxR) hb9))
      rcases hz9 with ⟨_, rfl, rfl⟩ | ⟨hno, _, _⟩
      case inr => exact absurd HMAY.out (by rw [hno]; simp)
      case inl =>
      rw [List.nil_append, HENC.out] at ho9
      have HO9 := Lib.hid ho9
      have HUP := Lib.hid (HV.out.trans (HTP.out.below (B := U.heap.size) (fun k _ e => by have := HGUR.out; omega) HV.out.size))
      clear ho9 hb9 q0 q1 q2 q3 q4 q5
      have hr9 : ∀ W, Below wp.heap.size wp W → Rd W wp.heap.size 1 A9 m9 ((bs2.take y5).map bv) := fun W hb => (Ow.rd HO9.out).below hb
      have hrw : ∀ W, Below wp.heap.size wp W → Rd W wp.heap.size 1 A2 y5 ((bs2.take y5).map bv) := fun W hb => (rdPre ((HW.out.below HUP.out).more HUP.out.size) hyn).below hb
      have kc1 : ∀ W, Below wp.heap.size wp W → (convert 22 9 (.slice A9 m9 c9)).run Try.prog W = .ok (strV (bs2.take y5)) W := fun W hb => run_conv_str (P := Try.prog) W 22 9 5 Try.underlying22 Try.underlying5 Try.underlying9 wp.heap.size A9 m9 c9 (bs2.take y5) (hr9 W hb)
      have kc2 : ∀ W, Below wp.heap.size wp W → (convert 22 9 (.slice A2 y5 c2)).run Try.prog W = .ok (strV (bs2.take y5)) W := fun W hb => run_conv_str (P := Try.prog) W 22 9 5 Try.underlying22 Try.underlying5 Try.underlying9 wp.heap.size A2 y5 c2 (bs2.take y5) (hrw W hb)
      have kd1 : ∀ q, _ := fun q => kc1 (wp.drewN q) (belowDrews (Below.refl wp.heap.size wp) q)
      have kd2 : ∀ q, _ := fun q => kc2 (wp.drewN q) (belowDrews (Below.refl wp.heap.size wp) q)
      have KC1 := Lib.hid kc1
      have KC2 := Lib.hid kc2
      clear hr9 hrw kc1 kc2
      have hle1 : ¬ ((n2 : Int) < (y5 : Int)) := by omega
      have hle2 : decide ((n2 : Int) < (y5 : Int)) = false := decide_eq_false hle1
      have hle3 : ¬ ((y5 : Int) < 0) := by omega
      have hle4 : (0 : Int) ≤ (y5 : Int) := by omega
      dsimp only
      go_upto_region 28 with (fail)
      go_quiet (fail)
      repeat (first | go_skip | go_guarded | go_step)
      go_meet
      case rel => exact HTP.out.trans (Turn.ofBelow (belowDrews (Below.refl _ _) _))
    · have hd5 : ((z5 : Int) == 0) = false := by simp; omega
      repeat (first | go_skip | go_guarded | go_step)
      go_meet
      case rel => exact HTV.out
  case rest =>
  rename World => wn
  have HVN := Lib.hid (HV.out.trans (hcut.below (B := U.heap.size) (fun k _ e => by have := HGUR.out; omega) HV.out.size))
  clear hcut
  refine hK20 _ _ ?_
  repeat (first | go_skip | go_guarded | go_step)
  refine (wWorks_any ok _).mono ?_
  rintro e w9 ⟨rfl, hb9⟩
  dsimp only
  repeat (first | go_skip | go_guarded | go_step)
  go_ret
  exact ⟨rfl, HB.out.trans ((HVN.out.trans (hb9.mono HVN.out.size)).mono HB.out.size)⟩

set_option maxRecDepth 100000 in
set_option maxHeartbeats 16000000 in
theorem part20 {u0 u1 u2 u3 u5 u6 u7 u8 u9 u10 u11 u12 u13 u14 u15 u16 u18 u20 u21 u22 u23 u24 u25 u26 u27 u28 u29 u30 u31 u32 u33 u34 u35 u36 u37 u38 u39 u40 u41 u42 u43 u44 u45 u46 u47 u48 u49 u50 u51 u52 u53 u54 u55 u56 u57 u58 u59 u60 u61 u62 u63 u64 u65 u66 u67 u68 u69 u70 u71 u72 u73 u74 u75 u76 u77 u78 u79 u80 u81 u82 u83 u84 u85 u86 u87 u88 u89 u90 u91 u92 u93 u94 u95 u96 u97 u98 u99 u100 u101 u102 u103 u104 u105 u106 u107 u108 u109 u110 u111 u112 u113 u114 u115 u116 u117 u118 u119 u120 u121 u122 u123 u124 u125 u126 u127 u128 u129 u130 u131 u132 u133 u134 u135 u136 u137 u138 u139 u140 u141 u142 u143 u144 u145 u146 u147 u148 u149 u150 u151 u152 u153 u154 u155 u156 u157 u158 u159 u160 u161 u162 u163 u164 u165 u166 u167 u168 u169 u170 u171 u172 u173 u174 u175 u176 u177 u178 u179 u180 u181 u182 u183 u184 u185 u186 u187 u188 u189 u190 u191 u192 u193 u194 u195 u196 u197 u198 u199 u200 u201 u202 u203 u204 u205 u206 u207 u208 u209 u210 u211 u212 u213 u214 u215 u216 u217 u218 u219 u220 u221 u222 u223 u224 u225 u226 u227 u228 u229 u230 u231 u232 u233 u234 u235 u236 u237 u238 u239 u240 u241 u242 u243 u244 u245 u246 u247 u248 u249 u250 u251 u252 u253 u254 u255 u256 u257 u258 u259 u260 u261 u262 u263 u264 u265 u266 u267 u268 u269 u270 u271 u272 u273 u274 u275 u276 u277 u278 : Value} (ok : WireOk) (A2 : Option Addr) (n2 c2 : Nat) (bs2 : List UInt8) (w U : World) (hB : Below w.heap.size w U) (hw2 : Rd U U.heap.size 1 A2 n2 (bs2.map bv)) (hwc : n2 ≤ c2) (hn2 : ¬ 4096 < n2) (wz : World) (hV : Below U.heap.size U wz) (gxC : Nat) (cC : List Value) (hbC : Bk wz gxC 45 cC) (hlC : cC.length = 3) (huC : U.heap.size ≤ gxC) (gxR : Nat) (cR : List Value) (hbR : Bk wz gxR 59 cR) (hlR : cR.length = 6) (huR : U.heap.size ≤ gxR) (hlt2 : gxC < gxR) :
    Code.wp Try.prog rest20 (bodyPost Try.prog Try.f6 (fun e w' => e = .returned (.bool true) ∧ Below w.heap.size w w')) ⟨#[u0, u1, u2, u3, .slice A2 n2 c2, u5, u6, u7, u8, u9, u10, u11, u12, u13, u14, u15, u16, .pointer (some ⟨gxC, 0, none⟩), u18, .pointer (some ⟨gxR, 0, none⟩), u20, u21, u22, u23, u24, u25, u26, u27, u28, u29, u30, u31, u32, u33, u34, u35, u36, u37, u38, u39, u40, u41, u42, u43, u44, u45, u46, u47, u48, u49, u50, u51, u52, u53, u54, u55, u56, u57, u58, u59, u60, u61, u62, u63, u64, u65, u66, u67, u68, u69, u70, u71, u72, u73, u74, u75, u76, u77, u78, u79, u80, u81, u82, u83, u84, u85, u86, u87, u88, u89, u90, u91, u92, u93, u94, u95, u96, u97, u98, u99, u100, u101, u102, u103, u104, u105, u106, u107, u108, u109, u110, u111, u112, u113, u114, u115, u116, u117, u118, u119, u120, u121, u122, u123, u124, u125, u126, u127, u128, u129, u130, u131, u132, u133, u134, u135, u136, u137, u138, u139, u140, u141, u142, u143, u144, u145, u146, u147, u148, u149, u150, u151, u152, u153, u154, u155, u156, u157, u158, u159, u160, u161, u162, u163, u164, u165, u166, u167, u168, u169, u170, u171, u172, u173, u174, u175, u176, u177, u178, u179, u180, u181, u182, u183, u184, u185, u186, u187, u188, u189, u190, u191, u192, u193, u194, u195, u196, u197, u198, u199, u200, u201, u202, u203, u204, u205, u206, u207, u208, u209, u210, u211, u212, u213, u214, u215, u216, u217, u218, u219, u220, u221, u222, u223, u224, u225, u226, u227, u228, u229, u230, u231, u232, u233, u234, u235, u236, u237, u238, u239, u240, u241, u242, u243, u244, u245, u246, u247, u248, u249, u250, u251, u252, u253, u254, u255, u256, u257, u258, u259, u260, u261, u262, u263, u264, u265, u266, u267, u268, u269, u270, u271, u272, u273, u274, u275, u276, u277, u278], []⟩ wz := by
  conv => arg 2; whnf
  have HB := Lib.hid hB
  have HW := Lib.hid hw2
  have HV := Lib.hid hV
  have HLW := Lib.hid (show bs2.length = n2 by simpa using hw2.len1)
  obtain ⟨cC0, cC1, cC2, rfl⟩ : ∃ cC0 cC1 cC2, cC = [cC0, cC1, cC2] := by
    match cC, hlC with | [a, b, c], _ => exact ⟨a, b, c, rfl⟩
  have HBXC := Lib.hid hbC
  have HGUC := Lib.hid huC
  have HBXR := Lib.hid hbR
  have HGUR := Lib.hid huR
  have HLT2 := Lib.hid hlt2
  clear hB hw2 hV hbC huC hbR huR hlC hlt2
  repeat (first | go_skip | go_guarded | go_step)
  refine (takeClauseO_any A2 n2 c2 0 bs2 wz ((HW.out.below HV.out).more HV.out.size) hwc (by omega)).mono ?_
  rintro e wt ⟨p5, A5, n5, d5, l5, A7, n7, d7, R7, L7, y5, z5, rfl, ho5, ho7, hd5, hd7, hm5, hm7, hs7, hb5, ha5⟩
  have HGZ := Lib.hid (show gxC < wz.heap.size from HBXC.out.lt)
  have HTZ := Lib.hid hb5
  have HBXT := Lib.hid (HBXC.out.later hb5)
  have r0 := (HBXC.out.later hb5).readT (Below.refl _ _) 0 rfl
  have f0 := (HBXC.out.later hb5).frozen 0
  have r1 := (HBXC.out.later hb5).readT (Below.refl _ _) 1 rfl
  have f1 := (HBXC.out.later hb5).frozen 1
  have r2 := (HBXC.out.later hb5).readT (Below.refl _ _) 2 rfl
  have f2 := (HBXC.out.later hb5).frozen 2
  have HO5 := Lib.hid ho5
  have HO7 := Lib.hid ho7
  have HS7 := Lib.hid hs7
  have HA5 := Lib.hid ha5
  clear hb5 ha5 ho5 ho7 hs7
  dsimp only
  go_upto_region 21 with (fail)
  rename_i K20 hK20 Kc hKc
  obtain ⟨V, hV, hbv, htv⟩ : ∃ V, V = (((wt.setCell ⟨gxC, 0, none⟩ (nv p5)).setCell ⟨gxC, 1, none⟩ (.slice A5 n5 d5)).setCell ⟨gxC, 2, none⟩ (.slice A7 n7 d7)) ∧ Bk V gxC 45 [nv p5, .slice A5 n5 d5, .slice A7 n7 d7] ∧ Turn (fun k => k = gxC) wt V := ⟨_, rfl, (((HBXT.out.set_ 0 (nv p5)).set_ 1 (.slice A5 n5 d5)).set_ 2 (.slice A7 n7 d7)), ((((Turn.refl (fun k => k = gxC) wt).setCell (p := ⟨gxC, 0, none⟩) (fun _ => rfl) _).setCell (p := ⟨gxC, 1, none⟩) (fun _ => rfl) _).setCell (p := ⟨gxC, 2, none⟩) (fun _ => rfl) _)⟩
  rw [← hV]
  clear hV r0 f0 r1 f1 r2 f2
  have HBV := Lib.hid hbv
  have HTV := Lib.hid ((Turn.ofBelow (G := fun k => k = gxC) HTZ.out).trans htv)
  have HOV5 := Lib.hid (htv.own HO5.out (fun k hk e => by have := (World.ownsRow.lt HO5.out k hk).1; have := HGZ.out; omega))
  have HOV7 := Lib.hid (HO7.out.turn htv (fun k hk e => by have := HGZ.out; omega))
  clear hbv htv
  go_upto_if 223 with (fail)
  go_cut [12] from 26 (fun s12 wc => Turn (fun k => k = gxC) wz wc)
  case first =>
    by_cases hz5 : z5 = 0
    · subst hz5
      have hback := takeAns_back0 clauseC HA5.out.symm
      obtain ⟨hmay, hyl, henc, hyy⟩ := hback
      have hyn : y5 ≤ n2 := by have := HLW.out; omega
      have HENC := Lib.hid henc
      have HMAY := Lib.hid hmay
      clear hmay hyl henc hyy
      have q0 := HBV.out.readT (Below.refl _ _) 0 rfl
      have q1 := HBV.out.readT (Below.refl _ _) 1 rfl
      have q2 := HBV.out.readT (Below.refl _ _) 2 rfl
      repeat (first | go_skip | go_guarded | go_step)
      refine (ok.putClause none 0 0 [] p5 A5 n5 d5 l5 A7 n7 d7 R7 L7 V Rd.nil (by omega) (by omega) (OwT.rd HOV5.out) (OwL.rd HOV7.out) hd5 hd7 (by omega) (by omega) (fun x hx => Nat.le_trans (HS7.out x hx) (by omega))).mono ?_
      rintro e wp ⟨A9, m9, c9, z9, bs9, rfl, ho9, hb9, hz9⟩
      have HTP := Lib.hid (HTV.out.trans (Turn.ofBelow (G := fun k => k = gxC) hb9))
      rcases hz9 with ⟨_, rfl, rfl⟩ | ⟨hno, _, _⟩
      case inr => exact absurd HMAY.out (by rw [hno]; simp)
      case inl =>
      rw [List.nil_append, HENC.out] at ho9
      have HO9 := Lib.hid ho9
      have HUP := Lib.hid (HV.out.trans (HTP.out.below (B := U.heap.size) (fun k _ e => by have := HGUC.out; omega) HV.out.size))
      clear ho9 hb9 q0 q1 q2
      have hr9 : ∀ W, Below wp.heap.size wp W → Rd W wp.heap.size 1 A9 m9 ((bs2.take y5).map bv) := fun W hb => (Ow.rd HO9.out).below hb
      have hrw : ∀ W, Below wp.heap.size wp W → Rd W wp.heap.size 1 A2 y5 ((bs2.take y5).map bv) := fun W hb => (rdPre ((HW.out.below HUP.out).more HUP.out.size) hyn).below hb
      have kc1 : ∀ W, Below wp.heap.size wp W → (convert 22 9 (.slice A9 m9 c9)).run Try.prog W = .ok (strV (bs2.take y5)) W := fun W hb => run_conv_str (P := Try.prog) W 22 9 5 Try.underlying22 Try.underlying5 Try.underlying9 wp.heap.size A9 m9 c9 (bs2.take y5) (hr9 W hb)
      have kc2 : ∀ W, Below wp.heap.size wp W → (convert 22 9 (.slice A2 y5 c2)).run Try.prog W = .ok (strV (bs2.take y5)) W := fun W hb => run_conv_str (P := Try.prog) W 22 9 5 Try.underlying22 Try.underlying5 Try.underlying9 wp.heap.size A2 y5 c2 (bs2.take y5) (hrw W hb)
      have kd1 : ∀ q, _ := fun q => kc1 (wp.drewN q) (belowDrews (Below.refl wp.heap.size wp) q)
      have kd2 : ∀ q, _ := fun q => kc2 (wp.drewN q) (belowDrews (Below.refl wp.heap.size wp) q)
      have KC1 := Lib.hid kc1
      have KC2 := Lib.hid kc2
      clear hr9 hrw kc1 kc2
      have hle1 : ¬ ((n2 : Int) < (y5 : Int)) := by omega
      have hle2 : decide ((n2 : Int) < (y5 : Int)) = false := decide_eq_false hle1
      have hle3 : ¬ ((y5 : Int) < 0) := by omega
      have hle4 : (0 : Int) ≤ (y5 : Int) := by omega
      dsimp only
      go_upto_region 23 with (fail)
      go_quiet (fail)
      repeat (first | go_skip | go_guarded | go_step)
      go_meet
      case rel => exact HTP.out.trans (Turn.ofBelow (belowDrews (Below.refl _ _) _))
    · have hd5 : ((z5 : Int) == 0) = false := by simp; omega
      repeat (first | go_skip | go_guarded | go_step)
      go_meet
      case rel => exact HTV.out
  case rest =>
  rename World => wn
  have HVN := Lib.hid (HV.out.trans (hcut.below (B := U.heap.size) (fun k _ e => by have := HGUC.out; omega) HV.out.size))
  refine hK20 _ _ ?_
  exact part25 ok A2 n2 c2 bs2 w U HB.out HW.out hwc hn2 wn HVN.out gxR _ (hcut.bk HBXR.out (fun e => by have := HLT2.out; omega)) hlR HGUR.out

set_option maxRecDepth 100000 in
set_option maxHeartbeats 16000000 in
theorem part15 {u0 u1 u2 u3 u5 u6 u7 u8 u9 u10 u11 u12 u14 u15 u16 u18 u20 u21 u22 u23 u24 u25 u26 u27 u28 u29 u30 u31 u32 u33 u34 u35 u36 u37 u38 u39 u40 u41 u42 u43 u44 u45 u46 u47 u48 u49 u50 u51 u52 u53 u54 u55 u56 u57 u58 u59 u60 u61 u62 u63 u64 u65 u66 u67 u68 u69 u70 u71 u72 u73 u74 u75 u76 u77 u78 u79 u80 u81 u82 u83 u84 u85 u86 u87 u88 u89 u90 u91 u92 u93 u94 u95 u96 u97 u98 u99 u100 u101 u102 u103 u104 u105 u106 u107 u108 u109 u110 u111 u112 u113 u114 u115 u116 u117 u118 u119 u120 u121 u122 u123 u124 u125 u126 u127 u128 u129 u130 u131 u132 u133 u134 u135 u136 u137 u138 u139 u140 u141 u142 u143 u144 u145 u146 u147 u148 u149 u150 u151 u152 u153 u154 u155 u156 u157 u158 u159 u160 u161 u162 u163 u164 u165 u166 u167 u168 u169 u170 u171 u172 u173 u174 u175 u176 u177 u178 u179 u180 u181 u182 u183 u184 u185 u186 u187 u188 u189 u190 u191 u192 u193 u194 u195 u196 u197 u198 u199 u200 u201 u202 u203 u204 u205 u206 u207 u208 u209 u210 u211 u212 u213 u214 u215 u216 u217 u218 u219 u220 u221 u222 u223 u224 u225 u226 u227 u228 u229 u230 u231 u232 u233 u234 u235 u236 u237 u238 u239 u240 u241 u242 u243 u244 u245 u246 u247 u248 u249 u250 u251 u252 u253 u254 u255 u256 u257 u258 u259 u260 u261 u262 u263 u264 u265 u266 u267 u268 u269 u270 u271 u272 u273 u274 u275 u276 u277 u278 : Value} (ok : WireOk) (A2 : Option Addr) (n2 c2 : Nat) (bs2 : List UInt8) (w U : World) (hB : Below w.heap.size w U) (hw2 : Rd U U.heap.size 1 A2 n2 (bs2.map bv)) (hwc : n2 ≤ c2) (hn2 : ¬ 4096 < n2) (wz : World) (hV : Below U.heap.size U wz) (gxF : Nat) (cF : List Value) (hbF : Bk wz gxF 26 cF) (hlF : cF.length = 2) (huF : U.heap.size ≤ gxF) (gxC : Nat) (cC : List Value) (hbC : Bk wz gxC 45 cC) (hlC : cC.length = 3) (huC : U.heap.size ≤ gxC) (gxR : Nat) (cR : List Value) (hbR : Bk wz gxR 59 cR) (hlR : cR.length = 6) (huR : U.heap.size ≤ gxR) (hlt1 : gxF < gxC) (hlt2 : gxC < gxR) :
    Code.wp Try.prog rest15 (bodyPost Try.prog Try.f6 (fun e w' => e = .returned (.bool true) ∧ Below w.heap.size w w')) ⟨#[u0, u1, u2, u3, .slice A2 n2 c2, u5, u6, u7, u8, u9, u10, u11, u12, .pointer (some ⟨gxF, 0, none⟩), u14, u15, u16, .pointer (some ⟨gxC, 0, none⟩), u18, .pointer (some ⟨gxR, 0, none⟩), u20, u21, u22, u23, u24, u25, u26, u27, u28, u29, u30, u31, u32, u33, u34, u35, u36, u37, u38, u39, u40, u41, u42, u43, u44, u45, u46, u47, u48, u49, u50, u51, u52, u53, u54, u55, u56, u57, u58, u59, u60, u61, u62, u63, u64, u65, u66, u67, u68, u69, u70, u71, u72, u73, u74, u75, u76, u77, u78, u79, u80, u81, u82, u83, u84, u85, u86, u87, u88, u89, u90, u91, u92, u93, u94, u95, u96, u97, u98, u99, u100, u101, u102, u103, u104, u105, u106, u107, u108, u109, u110, u111, u112, u113, u114, u115, u116, u117, u118, u119, u120, u121, u122, u123, u124, u125, u126, u127, u128, u129, u130, u131, u132, u133, u134, u135, u136, u137, u138, u139, u140, u141, u142, u143, u144, u145, u146, u147, u148, u149, u150, u151, u152, u153, u154, u155, u156, u157, u158, u159, u160, u161, u162, u163, u164, u165, u166, u167, u168, u169, u170, u171, u172, u173, u174, u175, u176, u177, u178, u179, u180, u181, u182, u183, u184, u185, u186, u187, u188, u189, u190, u191, u192, u193, u194, u195, u196, u197, u198, u199, u200, u201, u202, u203, u204, u205, u206, u207, u208, u209, u210, u211, u212, u213, u214, u215, u216, u217, u218, u219, u220, u221, u222, u223, u224, u225, u226, u227, u228, u229, u230, u231, u232, u233, u234, u235, u236, u237, u238, u239, u240, u241, u242, u243, u244, u245, u246, u247, u248, u249, u250, u251, u252, u253, u254, u255, u256, u257, u258, u259, u260, u261, u262, u263, u264, u265, u266, u267, u268, u269, u270, u271, u272, u273, u274, u275, u276, u277, u278], []⟩ wz := by
  conv => arg 2; whnf
  have HB := Lib.hid hB
  have HW := Lib.hid hw2
  have HV := Lib.hid hV
  have HLW := Lib.hid (show bs2.length = n2 by simpa using hw2.len1)
  obtain ⟨cF0, cF1, rfl⟩ : ∃ cF0 cF1, cF = [cF0, cF1] := by
    match cF, hlF with | [a, b], _ => exact ⟨a, b, rfl⟩
  have HBXF := Lib.hid hbF
  have HGUF := Lib.hid huF
  have HBXC := Lib.hid hbC
  have HGUC := Lib.hid huC
  have HBXR := Lib.hid hbR
  have HGUR := Lib.hid huR
  have HLT2 := Lib.hid hlt2
  have HLT1 := Lib.hid hlt1
  clear hB hw2 hV hbF huF hbC huC hbR huR hlF hlt2 hlt1
  repeat (first | go_skip | go_guarded | go_step)
  refine (takeFactO_any A2 n2 c2 0 bs2 wz ((HW.out.below HV.out).more HV.out.size) hwc (by omega)).mono ?_
  rintro e wt ⟨p5, A5, n5, d5, l5, y5, z5, rfl, ho5, hd5, hm5, hb5, ha5⟩
  have HGZ := Lib.hid (show gxF < wz.heap.size from HBXF.out.lt)
  have HTZ := Lib.hid hb5
  have HBXT := Lib.hid (HBXF.out.later hb5)
  have r0 := (HBXF.out.later hb5).readT (Below.refl _ _) 0 rfl
  have f0 := (HBXF.out.later hb5).frozen 0
  have r1 := (HBXF.out.later hb5).readT (Below.refl _ _) 1 rfl
  have f1 := (HBXF.out.later hb5).frozen 1
  have HO5 := Lib.hid ho5


  have HA5 := Lib.hid ha5
  clear hb5 ha5 ho5
  dsimp only
  go_upto_region 16 with (fail)
  rename_i K20 hK20 Kc hKc
  obtain ⟨V, hV, hbv, htv⟩ : ∃ V, V = ((wt.setCell ⟨gxF, 0, none⟩ (nv p5)).setCell ⟨gxF, 1, none⟩ (.slice A5 n5 d5)) ∧ Bk V gxF 26 [nv p5, .slice A5 n5 d5] ∧ Turn (fun k => k = gxF) wt V := ⟨_, rfl, ((HBXT.out.set_ 0 (nv p5)).set_ 1 (.slice A5 n5 d5)), (((Turn.refl (fun k => k = gxF) wt).setCell (p := ⟨gxF, 0, none⟩) (fun _ => rfl) _).setCell (p := ⟨gxF, 1, none⟩) (fun _ => rfl) _)⟩
  rw [← hV]
  clear hV r0 f0 r1 f1
  have HBV := Lib.hid hbv
  have HTV := Lib.hid ((Turn.ofBelow (G := fun k => k = gxF) HTZ.out).trans htv)
  have HOV5 := Lib.hid (htv.own HO5.out (fun k hk e => by have := (World.ownsRow.lt HO5.out k hk).1; have := HGZ.out; omega))

  clear hbv htv
  go_upto_if 192 with (fail)
  go_cut [12] from 26 (fun s12 wc => Turn (fun k => k = gxF) wz wc)
  case first =>
    by_cases hz5 : z5 = 0
    · subst hz5
      have hback := takeAns_back0 factC HA5.out.symm
      obtain ⟨hmay, hyl, henc, hyy⟩ := hback
      have hyn : y5 ≤ n2 := by have := HLW.out; omega
      have HENC := Lib.hid henc
      have HMAY := Lib.hid hmay
      clear hmay hyl henc hyy
      have q0 := HBV.out.readT (Below.refl _ _) 0 rfl
      have q1 := HBV.out.readT (Below.refl _ _) 1 rfl
      repeat (first | go_skip | go_guarded | go_step)
      refine (ok.putFact none 0 0 [] p5 A5 n5 d5 l5 V Rd.nil (by omega) (by omega) (OwU.rd HOV5.out) hd5 (by omega)).mono ?_
      rintro e wp ⟨A9, m9, c9, z9, bs9, rfl, ho9, hb9, hz9⟩
      have HTP := Lib.hid (HTV.out.trans (Turn.ofBelow (G := fun k => k = gxF) hb9))
      rcases hz9 with ⟨_, rfl, rfl⟩ | ⟨hno, _, _⟩
      case inr => exact absurd HMAY.out (by rw [hno]; simp)
      case inl =>
      rw [List.nil_append, HENC.out] at ho9
      have HO9 := Lib.hid ho9
      have HUP := Lib.hid (HV.out.trans (HTP.out.below (B := U.heap.size) (fun k _ e => by have := HGUF.out; omega) HV.out.size))
      clear ho9 hb9 q0 q1
      have hr9 : ∀ W, Below wp.heap.size wp W → Rd W wp.heap.size 1 A9 m9 ((bs2.take y5).map bv) := fun W hb => (Ow.rd HO9.out).below hb
      have hrw : ∀ W, Below wp.heap.size wp W → Rd W wp.heap.size 1 A2 y5 ((bs2.take y5).map bv) := fun W hb => (rdPre ((HW.out.below HUP.out).more HUP.out.size) hyn).below hb
      have kc1 : ∀ W, Below wp.heap.size wp W → (convert 22 9 (.slice A9 m9 c9)).run Try.prog W = .ok (strV (bs2.take y5)) W := fun W hb => run_conv_str (P := Try.prog) W 22 9 5 Try.underlying22 Try.underlying5 Try.underlying9 wp.heap.size A9 m9 c9 (bs2.take y5) (hr9 W hb)
      have kc2 : ∀ W, Below wp.heap.size wp W → (convert 22 9 (.slice A2 y5 c2)).run Try.prog W = .ok (strV (bs2.take y5)) W := fun W hb => run_conv_str (P := Try.prog) W 22 9 5 Try.underlying22 Try.underlying5 Try.underlying9 wp.heap.size A2 y5 c2 (bs2.take y5) (hrw W hb)
      have kd1 : ∀ q, _ := fun q => kc1 (wp.drewN q) (belowDrews (Below.refl wp.heap.size wp) q)
      have kd2 : ∀ q, _ := fun q => kc2 (wp.drewN q) (belowDrews (Below.refl wp.heap.size wp) q)
      have KC1 := Lib.hid kc1
      have KC2 := Lib.hid kc2
      clear hr9 hrw kc1 kc2
      have hle1 : ¬ ((n2 : Int) < (y5 : Int)) := by omega
      have hle2 : decide ((n2 : Int) < (y5 : Int)) = false := decide_eq_false hle1
      have hle3 : ¬ ((y5 : Int) < 0) := by omega
      have hle4 : (0 : Int) ≤ (y5 : Int) := by omega
      dsimp only
      go_upto_region 18 with (fail)
      go_quiet (fail)
      repeat (first | go_skip | go_guarded | go_step)
      go_meet
      case rel => exact HTP.out.trans (Turn.ofBelow (belowDrews (Below.refl _ _) _))
    · have hd5 : ((z5 : Int) == 0) = false := by simp; omega
      repeat (first | go_skip | go_guarded | go_step)
      go_meet
      case rel => exact HTV.out
  case rest =>
  rename World => wn
  have HVN := Lib.hid (HV.out.trans (hcut.below (B := U.heap.size) (fun k _ e => by have := HGUF.out; omega) HV.out.size))
  refine hK20 _ _ ?_
  exact part20 ok A2 n2 c2 bs2 w U HB.out HW.out hwc hn2 wn HVN.out gxC _ (hcut.bk HBXC.out (fun e => by have := HLT2.out; have := HLT1.out; omega)) hlC HGUC.out gxR _ (hcut.bk HBXR.out (fun e => by have := HLT2.out; have := HLT1.out; omega)) hlR HGUR.out HLT2.out
end Go.Proofs.Ytcoafgnbmgndeaa.wireBack
