/- Texts, packed: PaS PaD QaA -/
import Derived.Test.YtoigpbajefkpoaaGreatDoorPyS
set_option linter.unusedVariables false
set_option linter.unusedSimpArgs false
namespace Go.Proofs.YtoigpbajefkpoaaGreatDoor
open Go Go.RowKit

theorem printL_err {l : List ByteArray} : ∀ rs : List Rl, (printL l rs).2 ≠ 0 → (printL l rs).1 = []
 | [], h => rfl
 | r :: rs, h => by
  rw [printL] at h ⊢
  split
  ·
   rfl
  ·
   rename_i h1
   rw [if_neg h1] at h
   split
   ·
    rfl
   ·
    rename_i h2
    rw [if_neg h2] at h
    split
    ·
     rename_i h3
     rw [h3] at h
     exact absurd rfl h
    ·
     rfl
def fineR (l : List ByteArray) (r : Rl) : Bool := mayR r && knownR l r
theorem printL_app {l : List ByteArray} (b : List Rl) : ∀ a : List Rl, a.all (fineR l) = true → printL l (a ++ b) = if (printL l b).2 = 0 then (a.flatMap (ruleL l) ++ (printL l b).1, 0) else ([], (printL l b).2)
 | [], _ => by
  split
  ·
   rename_i h
   rw [← h]
   rfl
  ·
   rename_i h
   have h1 := printL_err b h
   cases hb : printL l b with
   | mk x y =>
    rw [hb] at h1
    dsimp only at h1
    subst h1
    simp [hb]
 | r :: a, h => by
  rw [List.all_cons, Bool.and_eq_true] at h
  have h1 := h.1
  unfold fineR at h1
  rw [Bool.and_eq_true] at h1
  rw [List.cons_append, printL, if_neg (by simp [h1.1]), if_neg (by simp [h1.2]), printL_app b a h.2]
  by_cases hb : (printL l b).2 = 0
  ·
   rw [if_pos hb, if_pos hb, List.flatMap_cons, List.append_assoc]
   rfl
  ·
   rw [if_neg hb, if_neg hb]
   cases hq : (printL l b).2 with
   | zero => exact absurd hq hb
   | succ k => rfl
theorem rs_split {rs : List Rl} {i : Nat} {x : Rl} (h : rs[i]? = some x) : rs = rs.take i ++ x :: rs.drop (i + 1) := by
 obtain ⟨hi, e⟩ := List.getElem?_eq_some_iff.1 h
 conv => lhs; rw [← List.take_append_drop i rs]
 rw [List.drop_eq_getElem_cons hi, e]
theorem printL_form {l : List ByteArray} {rs : List Rl} {i : Nat} {x : Rl} (h : rs[i]? = some x) (ha : (rs.take i).all (fineR l) = true) (hm : mayR x = false) : printL l rs = ([], 8) := by
 have h1 : printL l (x :: rs.drop (i + 1)) = ([], 8) := by rw [printL, if_pos (by simp [hm])]
 rw [rs_split h, printL_app _ _ ha, h1]
 rfl
theorem printL_none {l : List ByteArray} {rs : List Rl} {i : Nat} {x : Rl} (h : rs[i]? = some x) (ha : (rs.take i).all (fineR l) = true) (hm : mayR x = true) (hk : knownR l x = false) : printL l rs = ([], 4) := by
 have h1 : printL l (x :: rs.drop (i + 1)) = ([], 4) := by rw [printL, if_neg (by simp [hm]), if_pos (by simp [hk])]
 rw [rs_split h, printL_app _ _ ha, h1]
 rfl
theorem printL_all {l : List ByteArray} {rs : List Rl} (ha : rs.all (fineR l) = true) : printL l rs = (rs.flatMap (ruleL l), 0) := by
 have := printL_app (l := l) [] rs ha
 rw [List.append_nil] at this
 rw [this]
 simp [printL]
theorem bodyL_snoc {names : List ByteArray} {d : Co} : ∀ M : List Co, bodyL names (M ++ [d]) = bodyL names M ++ (if M = [] then [32, 58, 45, 32] else [44, 32]) ++ condL names d
 | [] => by simp [bodyL]
 | c :: M => by simp [bodyL]
theorem sayL_len {names : List ByteArray} (h : Short names) {y : Sy} (hy : y.2.2.2.length ≤ 1000) : (sayL names y).length ≤ 1100000 := by
 have h1 := termL_len h y.2.1
 have h2 := namedL_len h y.2.2.1.toNat
 have h3 : (argsL names y.2.2.2).length ≤ 1002001 := by
  by_cases he : y.2.2.2 = []
  ·
   rw [he]; simp [argsL]
  ·
   rw [argsL_of he, List.length_append]
   have := argsO_len h y.2.2.2
   simp
   omega
 unfold sayL
 rw [List.length_append, List.length_append]
 split
 ·
  rw [List.length_append]
  simp only [List.length_cons, List.length_nil]
  omega
 ·
  simp
  omega
theorem bodyL_len {names : List ByteArray} (h : Short names) : ∀ M : List Co, (∀ x ∈ M, x.2.2.2.2.length ≤ 1000) → (bodyL names M).length ≤ 1100010 * M.length
 | [], _ => by simp [bodyL]
 | c :: M, hM => by
  have hc : ∀ d ∈ c :: M, (condL names d).length ≤ 1100004 := by
   intro d hd
   have := sayL_len h (y := d.2) (hM d hd)
   unfold condL
   rw [List.length_append]
   split
   ·
    simp
    omega
   ·
    simp
    omega
  have key : ∀ M : List Co, (∀ d ∈ M, (condL names d).length ≤ 1100004) → (M.flatMap (fun d => [44, 32] ++ condL names d)).length ≤ 1100006 * M.length := by
   intro M
   induction M with
   | nil => intro _; simp
   | cons d M ih =>
    intro hq
    have h1 := ih fun x hx => hq x (List.mem_cons_of_mem _ hx)
    have h2 := hq d (List.mem_cons_self ..)
    rw [List.flatMap_cons, List.length_append, List.length_append, List.length_cons]
    simp only [List.length_cons, List.length_nil]
    omega
  have h1 := key M fun d hd => hc d (List.mem_cons_of_mem _ hd)
  have h2 := hc c (List.mem_cons_self ..)
  simp only [bodyL, List.length_append, List.length_cons, List.length_nil]
  omega
theorem prules_len {names : List ByteArray} (h : Short names) {rs : List Rl} (hs : smallR rs) : (rs.flatMap (ruleL names)).length ≤ 1200000000 * rs.length := by
 induction rs with
 | nil => simp
 | cons r rs ih =>
  have h1 := ih fun x hx => hs x (List.mem_cons_of_mem _ hx)
  have h2 := hs r (List.mem_cons_self ..)
  have h3 := sayL_len h (y := r.1) h2.1
  have h4 := bodyL_len h r.2 h2.2.2
  have h5 : 1100010 * r.2.length ≤ 1100010 * 1000 := Nat.mul_le_mul_left _ h2.2.1
  have h6 : (ruleL names r).length ≤ 1100000 + 1100010 * r.2.length + 2 := by
   unfold ruleL
   rw [List.length_append, List.length_append]
   simp only [List.length_cons, List.length_nil]
   omega
  rw [List.flatMap_cons, List.length_append, List.length_cons]
  omega
theorem small_take {rs : List Rl} (h : smallR rs) (i : Nat) : smallR (rs.take i) := fun r hr => h r (List.mem_of_mem_take hr)
set_option maxRecDepth 100000 in
set_option maxHeartbeats 16000000 in
theorem rPrint8_any (A : Option Addr) (n c : Nat) (l : List ByteArray) (A1 : Option Addr) (n1 c1 : Nat) (Q : List RlA) (rs : List Rl) (w : World) (hr : Rd w w.heap.size 1 A n (l.map sv)) (hn : n ≤ 100000) (hl : Short l)
  (h : RdRs w w.heap.size A1 n1 Q rs) (hn1 : n1 ≤ 100000) (hsm : smallR rs) :
  Calls Tryz.prog 18 #[.slice A n c, .slice A1 n1 c1] w fun e w' => e = .returned (.tuple #[strV (printL l rs).1, .int .i64 ((printL l rs).2 : Int)]) ∧ Below w.heap.size w w' := by
 have HR := Lib.hid hr
 have H := Lib.hid h
 have HL := Lib.hid h.lenL
 have HSM := Lib.hid hsm
 clear hr h hsm
 go_enter Tryz.func18, Tryz.ntmps18
 repeat (first | go_skip | go_guarded | go_step)
 go_loopw [6, 7] (fun pp q wr => ∃ (i : Nat) (T : ByteArray), i ≤ n1 ∧ pp = sv T ∧ q = .int .i64 (i : Int) ∧ T = ⟨((rs.take i).flatMap (ruleL l)).toArray⟩ ∧ (rs.take i).all (fineR l) = true ∧ Below w.heap.size w wr) (fun _ q _ => n1 - (intOf q).toNat)
 case atStart => exact ⟨0, ⟨#[]⟩, by omega, rfl, rfl, rfl, rfl, Below.refl _ _⟩
 case round =>
  obtain ⟨i, T, hi, rfl, rfl, hT, hal, hbr⟩ := hrel
  have hTs : T.size ≤ 1200000000 * i := by
   have h0 : T.size = ((rs.take i).flatMap (ruleL l)).length := by rw [hT]; rfl
   have h1 := prules_len hl (small_take HSM.out i)
   have h2 : (rs.take i).length ≤ i := by simp; omega
   have h3 : 1200000000 * (rs.take i).length ≤ 1200000000 * i := Nat.mul_le_mul_left _ h2
   omega
  have HT := Lib.hid hT
  have HAL := Lib.hid hal
  have HBR := Lib.hid hbr
  clear hT hal hbr
  by_cases hlt : i < n1
  ·
   have hci : (i : Int) < (n1 : Int) := by omega
   obtain ⟨b, o, sd, tm, p, as_, M, Ai, ni, ci, Bi, mi, di, Ri, hA1, hbb, hx, q0, q1, q2, q3, q4, q5, hta, hka⟩ := H.out.at_ hlt
   subst hA1
   have Hx0 := (HBR.out.cell hbb).trans q0
   have Hx1 := (HBR.out.cell hbb).trans q1
   have Hx2 := (HBR.out.cell hbb).trans q2
   have Hx3 := (HBR.out.cell hbb).trans q3
   have Hx4 := (HBR.out.cell hbb).trans q4
   have Hx5 := (HBR.out.cell hbb).trans q5
   have HX := Lib.hid hx
   have hmem := HSM.out _ (List.mem_of_getElem? hx)
   have hni : ni ≤ 1000 := by have h1 := hmem.1; have h2 := rdT_len hta; dsimp only at h1; omega
   have hmi : mi ≤ 1000 := by have h1 := hmem.2.1; have h2 := hka.lenL; dsimp only at h1; omega
   have HMM := Lib.hid (show ∀ x ∈ M, x.2.2.2.2.length ≤ 1000 from hmem.2.2)
   have HTA := Lib.hid hta
   have HKA := Lib.hid hka
   clear hx q0 q1 q2 q3 q4 q5 hmem hta hka
   go_upto_region 6 with (fail)
   obtain ⟨U, hU, hbk, hbu⟩ := box6 wr [.bool sd, .bool tm.1, nv tm.2, nv p, .slice Ai ni ci, .slice Bi mi di] 54
   rw [← hU]
   have HBk := Lib.hid hbk
   have j0 := hbk.read (Below.refl _ _) 0 rfl
   have j1 := hbk.read (Below.refl _ _) 1 rfl
   have j2 := hbk.read (Below.refl _ _) 2 rfl
   have j3 := hbk.read (Below.refl _ _) 3 rfl
   have j4 := hbk.read (Below.refl _ _) 4 rfl
   have j5 := hbk.read (Below.refl _ _) 5 rfl
   have HBU := Lib.hid (HBR.out.trans (hbu.mono HBR.out.size))
   clear hU hbk hbu Hx0 Hx1 Hx2 Hx3 Hx4 Hx5
   generalize wr.heap.size = g at *
   repeat (first | go_skip | go_guarded | go_step)
   refine (rRMay_any sd tm p Ai ni ci as_ Bi mi di Ri M U ((HTA.out.below HBU.out).more HBU.out.size) ((HKA.out.below HBU.out).more HBU.out.size) (by omega) (by omega) (fun x hx => by have := HMM.out x hx; omega)).mono ?_
   rintro e U1 ⟨rfl, hb1⟩
   have HB1 := Lib.hid hb1
   have j0 := HBk.out.read hb1 0 rfl
   have j1 := HBk.out.read hb1 1 rfl
   have j2 := HBk.out.read hb1 2 rfl
   have j3 := HBk.out.read hb1 3 rfl
   have j4 := HBk.out.read hb1 4 rfl
   clear hb1
   obtain ⟨my, hmy⟩ : ∃ my, mayR ((sd, tm, (p, as_)), M) = my := ⟨_, rfl⟩
   rw [hmy]
   have HMY := Lib.hid hmy
   clear hmy
   cases my with
   | false =>
    have HP := Lib.hid (printL_form HX.out HAL.out HMY.out)
    dsimp only
    repeat (first | go_skip | go_guarded | go_step)
    go_ret2
    exact ⟨by rw [HP.out]; rfl, HBU.out.trans (HB1.out.mono HBU.out.size)⟩
   | true =>
    have HV1 := Lib.hid (HBU.out.trans (HB1.out.mono HBU.out.size))
    dsimp only
    repeat (first | go_skip | go_guarded | go_step)
    refine (rKnown_any A n c l sd tm p Ai ni ci as_ U1 ((HR.out.below HV1.out).more HV1.out.size) hn hl ((HTA.out.below HV1.out).more HV1.out.size) hni).mono ?_
    rintro e U2 ⟨rfl, hb2⟩
    have HB2 := Lib.hid (HB1.out.trans (hb2.mono HB1.out.size))
    have HV2 := Lib.hid (HBU.out.trans (HB2.out.mono HBU.out.size))
    have m0 := HBk.out.read HB2.out 0 rfl
    have m1 := HBk.out.read HB2.out 1 rfl
    have m2 := HBk.out.read HB2.out 2 rfl
    have m3 := HBk.out.read HB2.out 3 rfl
    have m4 := HBk.out.read HB2.out 4 rfl
    clear hb2 j0 j1 j2 j3 j4 j5
    obtain ⟨kn, hkn⟩ : ∃ kn, knownB l (sd, tm, (p, as_)) = kn := ⟨_, rfl⟩
    rw [hkn]
    have HKN := Lib.hid hkn
    clear hkn
    dsimp only
    repeat (first | go_skip | go_guarded | go_step)
    refine (rSay8_any A n c l sd tm p Ai ni ci as_ U2 ((HR.out.below HV2.out).more HV2.out.size) hn hl ((HTA.out.below HV2.out).more HV2.out.size) hni).mono ?_
    rintro e U3 ⟨rfl, hb3⟩
    have HB3 := Lib.hid (HB2.out.trans (hb3.mono HB2.out.size))
    clear hb3 m0 m1 m2 m3 m4
    obtain ⟨Y, hY, hYs⟩ : ∃ Y : ByteArray, strV (sayL l (sd, tm, (p, as_))) = sv Y ∧ Y = ⟨(sayL l (sd, tm, (p, as_))).toArray⟩ := ⟨_, rfl, rfl⟩
    rw [hY]
    have hsl : (sayL l (sd, tm, (p, as_))).length ≤ 1100000 := sayL_len hl (by rw [rdT_len HTA.out]; exact hni)
    have hy1 : Y.size ≤ 1100000 := by rw [hYs]; exact hsl
    have g21 : T.size + Y.size ≤ maxLen := by unfold maxLen; omega
    have g22 : ¬ (maxLen < T.size + Y.size) := by unfold maxLen; omega
    have HY := Lib.hid hYs
    clear hY hYs
    dsimp only
    go_upto_region 10 with (fail)
    obtain ⟨T0, hT0⟩ : ∃ T0 : ByteArray, T0 = T ++ Y := ⟨_, rfl⟩
    rw [← hT0]
    have hs0 : T0.size = T.size + Y.size := by rw [hT0, ByteArray.size_append]
    have HT0 := Lib.hid (show T0 = ⟨((rs.take i).flatMap (ruleL l) ++ sayL l (sd, tm, (p, as_))).toArray⟩ by rw [hT0, HT.out, HY.out, app_str])
    clear hT0 g21 g22
    repeat (first | go_skip | go_guarded | go_step)
    go_loopw [6, 9, 10] (fun pp s q wr2 => ∃ (k : Nat) (T2 : ByteArray) (is_ : Bool), k ≤ mi ∧ pp = sv T2 ∧ s = .bool is_ ∧ q = .int .i64 (k : Int) ∧ T2 = ⟨((rs.take i).flatMap (ruleL l) ++ sayL l (sd, tm, (p, as_)) ++ bodyL l (M.take k)).toArray⟩ ∧ is_ = (knownB l (sd, tm, (p, as_)) && (M.take k).all (fun x => knownB l x.2)) ∧ Below U.heap.size U wr2) (fun _ _ q _ => mi - (intOf q).toNat)
    case atStart => exact ⟨0, T0, kn, by omega, rfl, rfl, rfl, by rw [HT0.out]; simp [bodyL], by rw [HKN.out]; simp, HB3.out⟩
    case round =>
     rename World => wr2
     obtain ⟨k, T2, is_, hk, rfl, rfl, rfl, hT2, his, hbr2⟩ := hrel
     have hT2s : T2.size ≤ 1200000000 * i + 1100000 + 1100010 * k := by
      have h0 : T2.size = ((rs.take i).flatMap (ruleL l) ++ sayL l (sd, tm, (p, as_)) ++ bodyL l (M.take k)).length := by rw [hT2]; rfl
      have h1 : T.size = ((rs.take i).flatMap (ruleL l)).length := by rw [HT.out]; rfl
      rw [h0, List.length_append, List.length_append]
      have h2 := bodyL_len hl (M.take k) (fun x hx => HMM.out x (List.mem_of_mem_take hx))
      have h3 : (M.take k).length ≤ k := by simp; omega
      have h4 : 1100010 * (M.take k).length ≤ 1100010 * k := Nat.mul_le_mul_left _ h3
      omega
     have HT2 := Lib.hid hT2
     have HIS := Lib.hid his
     have HBR2 := Lib.hid hbr2
     have HV := Lib.hid (HBU.out.trans (hbr2.mono HBU.out.size))
     have i5 := HBk.out.read hbr2 5 rfl
     clear hT2 his hbr2
     by_cases hltk : k < mi
     ·
      have hck : (k : Int) < (mi : Int) := by omega
      obtain ⟨b2, o2, ng, s2, x2, q2, l2, Ai2, ni2, ci2, hA2, hbb2, hx2, hc0, hc1, hc2, hc3, hc4, hc5, hrow⟩ := (HKA.out.below HV.out).at_ hltk
      subst hA2
      have HX2 := Lib.hid hx2
      have hni2 : ni2 ≤ 1000 := by have h1 := HMM.out _ (List.mem_of_getElem? hx2); have h2 := rdT_len hrow; dsimp only at h1; omega
      have HROW := Lib.hid hrow
      clear hx2 hrow
      have hsl2 : (sayL l (s2, x2, (q2, l2))).length ≤ 1100000 := sayL_len hl (by rw [rdT_len HROW.out]; exact hni2)
      cases is_ with
      | true =>
       repeat (first | go_skip | go_guarded | go_step)
       refine (rKnown_any A n c l s2 x2 q2 Ai2 ni2 ci2 l2 wr2 ((HR.out.below HV.out).more HV.out.size) hn hl (HROW.out.more HV.out.size) hni2).mono ?_
       rintro e V ⟨rfl, hb4⟩
       have HVV := Lib.hid (HV.out.trans (hb4.mono HV.out.size))
       have HBV := Lib.hid (HBR2.out.trans (hb4.mono HBR2.out.size))
       have hm4 := hb4.mono HV.out.size
       have d0 := (hm4.cell hbb2).trans hc0
       have d1 := (hm4.cell hbb2).trans hc1
       have d2 := (hm4.cell hbb2).trans hc2
       have d3 := (hm4.cell hbb2).trans hc3
       have d4 := (hm4.cell hbb2).trans hc4
       have d5 := (hm4.cell hbb2).trans hc5
       have HROWV := Lib.hid (((HROW.out.below hm4)).more HVV.out.size)
       have i5' := HBk.out.read HBV.out 5 rfl
       clear hb4 hm4 hc0 hc1 hc2 hc3 hc4 hc5 i5
       have HISV := Lib.hid (show knownB l (s2, x2, (q2, l2)) = (knownB l (sd, tm, (p, as_)) && (M.take (k + 1)).all (fun x => knownB l x.2)) by
        rw [List.take_add_one, HX2.out, List.all_append, ← Bool.and_assoc, ← HIS.out]
        simp)
       obtain ⟨kn2, hkn2⟩ : ∃ kn2, knownB l (s2, x2, (q2, l2)) = kn2 := ⟨_, rfl⟩
       rw [hkn2] at HISV ⊢
       clear hkn2
       dsimp only
       rcases Nat.eq_zero_or_pos k with h0 | h0
       ·
        subst h0
        simp only [Nat.zero_mul, Nat.add_zero] at d0 d1 d2 d3 d4 d5
        have g31 : T2.size + 4 ≤ maxLen := by unfold maxLen; omega
        have g32 : ¬ (maxLen < T2.size + 4) := by unfold maxLen; omega
        go_upto_region 17 with (fail)
        obtain ⟨T3, hT3⟩ : ∃ T3 : ByteArray, T3 = T2 ++ ⟨#[32, 58, 45, 32]⟩ := ⟨_, rfl⟩
        rw [← hT3]
        have hs3 : T3.size = T2.size + 4 := by rw [hT3, ByteArray.size_append]; rfl
        have HT3 := Lib.hid hT3
        clear hT3 g31 g32
        cases ng with
        | true =>
         have g41 : T3.size + 4 ≤ maxLen := by unfold maxLen; omega
         have g42 : ¬ (maxLen < T3.size + 4) := by unfold maxLen; omega
         go_upto_region 19 with (fail)
         obtain ⟨T4, hT4⟩ : ∃ T4 : ByteArray, T4 = T3 ++ ⟨#[110, 111, 116, 32]⟩ := ⟨_, rfl⟩
         rw [← hT4]
         have hs4 : T4.size = T3.size + 4 := by rw [hT4, ByteArray.size_append]; rfl
         have HT4 := Lib.hid hT4
         clear hT4 g41 g42
         repeat (first | go_skip | go_guarded | go_step)
         refine (rSay8_any A n c l s2 x2 q2 Ai2 ni2 ci2 l2 V ((HR.out.below HVV.out).more HVV.out.size) hn hl HROWV.out hni2).mono ?_
         rintro e V2 ⟨rfl, hb5⟩
         have HB5 := Lib.hid (HBV.out.trans (hb5.mono HBV.out.size))
         clear hb5
         obtain ⟨Z, hZ, hZs⟩ : ∃ Z : ByteArray, strV (sayL l (s2, x2, (q2, l2))) = sv Z ∧ Z = ⟨(sayL l (s2, x2, (q2, l2))).toArray⟩ := ⟨_, rfl, rfl⟩
         rw [hZ]
         have hz1 : Z.size ≤ 1100000 := by rw [hZs]; exact hsl2
         have g51 : T4.size + Z.size ≤ maxLen := by unfold maxLen; omega
         have g52 : ¬ (maxLen < T4.size + Z.size) := by unfold maxLen; omega
         have HZ := Lib.hid hZs
         clear hZ hZs
         dsimp only
         repeat (first | go_skip | go_guarded | go_step)
         go_roundw
         case rel =>
          refine ⟨1, T4 ++ Z, kn2, by omega, rfl, rfl, by go_num, ?_, ?_, HB5.out⟩
          ·
           have hne : M.take 0 = [] := by
            rfl
           rw [HT4.out, HT3.out, HT2.out, HZ.out, List.take_add_one (i := 0), HX2.out, Option.toList_some, bodyL_snoc, if_pos hne, show (⟨#[32, 58, 45, 32]⟩ : ByteArray) = ⟨([32, 58, 45, 32] : List UInt8).toArray⟩ from rfl, show (⟨#[110, 111, 116, 32]⟩ : ByteArray) = ⟨(notW).toArray⟩ from rfl, app_str, app_str, app_str]
           simp [condL]
          ·
           exact HISV.out
         case measure => simp [intOf]; omega
        | false =>
         repeat (first | go_skip | go_guarded | go_step)
         refine (rSay8_any A n c l s2 x2 q2 Ai2 ni2 ci2 l2 V ((HR.out.below HVV.out).more HVV.out.size) hn hl HROWV.out hni2).mono ?_
         rintro e V2 ⟨rfl, hb5⟩
         have HB5 := Lib.hid (HBV.out.trans (hb5.mono HBV.out.size))
         clear hb5
         obtain ⟨Z, hZ, hZs⟩ : ∃ Z : ByteArray, strV (sayL l (s2, x2, (q2, l2))) = sv Z ∧ Z = ⟨(sayL l (s2, x2, (q2, l2))).toArray⟩ := ⟨_, rfl, rfl⟩
         rw [hZ]
         have hz1 : Z.size ≤ 1100000 := by rw [hZs]; exact hsl2
         have g51 : T3.size + Z.size ≤ maxLen := by unfold maxLen; omega
         have g52 : ¬ (maxLen < T3.size + Z.size) := by unfold maxLen; omega
         have HZ := Lib.hid hZs
         clear hZ hZs
         dsimp only
         repeat (first | go_skip | go_guarded | go_step)
         go_roundw
         case rel =>
          refine ⟨1, T3 ++ Z, kn2, by omega, rfl, rfl, by go_num, ?_, ?_, HB5.out⟩
          ·
           have hne : M.take 0 = [] := by
            rfl
           rw [HT3.out, HT2.out, HZ.out, List.take_add_one (i := 0), HX2.out, Option.toList_some, bodyL_snoc, if_pos hne, show (⟨#[32, 58, 45, 32]⟩ : ByteArray) = ⟨([32, 58, 45, 32] : List UInt8).toArray⟩ from rfl, app_str, app_str]
           simp [condL]
          ·
           exact HISV.out
         case measure => simp [intOf]; omega
       ·
        have hk0 : ((k : Int) == 0) = false := by simp; omega
        have g31 : T2.size + 2 ≤ maxLen := by unfold maxLen; omega
        have g32 : ¬ (maxLen < T2.size + 2) := by unfold maxLen; omega
        go_upto_region 17 with (fail)
        obtain ⟨T3, hT3⟩ : ∃ T3 : ByteArray, T3 = T2 ++ ⟨#[44, 32]⟩ := ⟨_, rfl⟩
        rw [← hT3]
        have hs3 : T3.size = T2.size + 2 := by rw [hT3, ByteArray.size_append]; rfl
        have HT3 := Lib.hid hT3
        clear hT3 g31 g32
        cases ng with
        | true =>
         have g41 : T3.size + 4 ≤ maxLen := by unfold maxLen; omega
         have g42 : ¬ (maxLen < T3.size + 4) := by unfold maxLen; omega
         go_upto_region 19 with (fail)
         obtain ⟨T4, hT4⟩ : ∃ T4 : ByteArray, T4 = T3 ++ ⟨#[110, 111, 116, 32]⟩ := ⟨_, rfl⟩
         rw [← hT4]
         have hs4 : T4.size = T3.size + 4 := by rw [hT4, ByteArray.size_append]; rfl
         have HT4 := Lib.hid hT4
         clear hT4 g41 g42
         repeat (first | go_skip | go_guarded | go_step)
         refine (rSay8_any A n c l s2 x2 q2 Ai2 ni2 ci2 l2 V ((HR.out.below HVV.out).more HVV.out.size) hn hl HROWV.out hni2).mono ?_
         rintro e V2 ⟨rfl, hb5⟩
         have HB5 := Lib.hid (HBV.out.trans (hb5.mono HBV.out.size))
         clear hb5
         obtain ⟨Z, hZ, hZs⟩ : ∃ Z : ByteArray, strV (sayL l (s2, x2, (q2, l2))) = sv Z ∧ Z = ⟨(sayL l (s2, x2, (q2, l2))).toArray⟩ := ⟨_, rfl, rfl⟩
         rw [hZ]
         have hz1 : Z.size ≤ 1100000 := by rw [hZs]; exact hsl2
         have g51 : T4.size + Z.size ≤ maxLen := by unfold maxLen; omega
         have g52 : ¬ (maxLen < T4.size + Z.size) := by unfold maxLen; omega
         have HZ := Lib.hid hZs
         clear hZ hZs
         dsimp only
         repeat (first | go_skip | go_guarded | go_step)
         go_roundw
         case rel =>
          refine ⟨k + 1, T4 ++ Z, kn2, by omega, rfl, rfl, by go_num, ?_, ?_, HB5.out⟩
          ·
           have hne : ¬ (M.take k = []) := by
            intro h
            have h2 := congrArg List.length h
            have h3 := HKA.out.lenL
            rw [List.length_take] at h2
            simp only [List.length_nil] at h2
            omega
           rw [HT4.out, HT3.out, HT2.out, HZ.out, List.take_add_one, HX2.out, Option.toList_some, bodyL_snoc, if_neg hne, show (⟨#[44, 32]⟩ : ByteArray) = ⟨([44, 32] : List UInt8).toArray⟩ from rfl, show (⟨#[110, 111, 116, 32]⟩ : ByteArray) = ⟨(notW).toArray⟩ from rfl, app_str, app_str, app_str]
           simp [condL]
          ·
           exact HISV.out
         case measure => simp [intOf]; omega
        | false =>
         repeat (first | go_skip | go_guarded | go_step)
         refine (rSay8_any A n c l s2 x2 q2 Ai2 ni2 ci2 l2 V ((HR.out.below HVV.out).more HVV.out.size) hn hl HROWV.out hni2).mono ?_
         rintro e V2 ⟨rfl, hb5⟩
         have HB5 := Lib.hid (HBV.out.trans (hb5.mono HBV.out.size))
         clear hb5
         obtain ⟨Z, hZ, hZs⟩ : ∃ Z : ByteArray, strV (sayL l (s2, x2, (q2, l2))) = sv Z ∧ Z = ⟨(sayL l (s2, x2, (q2, l2))).toArray⟩ := ⟨_, rfl, rfl⟩
         rw [hZ]
         have hz1 : Z.size ≤ 1100000 := by rw [hZs]; exact hsl2
         have g51 : T3.size + Z.size ≤ maxLen := by unfold maxLen; omega
         have g52 : ¬ (maxLen < T3.size + Z.size) := by unfold maxLen; omega
         have HZ := Lib.hid hZs
         clear hZ hZs
         dsimp only
         repeat (first | go_skip | go_guarded | go_step)
         go_roundw
         case rel =>
          refine ⟨k + 1, T3 ++ Z, kn2, by omega, rfl, rfl, by go_num, ?_, ?_, HB5.out⟩
          ·
           have hne : ¬ (M.take k = []) := by
            intro h
            have h2 := congrArg List.length h
            have h3 := HKA.out.lenL
            rw [List.length_take] at h2
            simp only [List.length_nil] at h2
            omega
           rw [HT3.out, HT2.out, HZ.out, List.take_add_one, HX2.out, Option.toList_some, bodyL_snoc, if_neg hne, show (⟨#[44, 32]⟩ : ByteArray) = ⟨([44, 32] : List UInt8).toArray⟩ from rfl, app_str, app_str]
           simp [condL]
          ·
           exact HISV.out
         case measure => simp [intOf]; omega
      | false =>
       obtain ⟨V, hV⟩ : ∃ V, V = wr2 := ⟨_, rfl⟩
       rw [← hV] at hc0 hc1 hc2 hc3 hc4 hc5 i5 ⊢
       have HVV := Lib.hid (show Below w.heap.size w V by rw [hV]; exact HV.out)
       have HBV := Lib.hid (show Below U.heap.size U V by rw [hV]; exact HBR2.out)
       have HROWV := Lib.hid (show RdT V V.heap.size Ai2 ni2 l2 by rw [hV]; exact HROW.out.more HV.out.size)
       have d0 := hc0
       have d1 := hc1
       have d2 := hc2
       have d3 := hc3
       have d4 := hc4
       have d5 := hc5
       have HISV := Lib.hid (show false = (knownB l (sd, tm, (p, as_)) && (M.take (k + 1)).all (fun x => knownB l x.2)) by
        rw [List.take_add_one, HX2.out, List.all_append, ← Bool.and_assoc, ← HIS.out]
        simp)
       clear hV hc0 hc1 hc2 hc3 hc4 hc5
       rcases Nat.eq_zero_or_pos k with h0 | h0
       ·
        subst h0
        simp only [Nat.zero_mul, Nat.add_zero] at d0 d1 d2 d3 d4 d5
        have g31 : T2.size + 4 ≤ maxLen := by unfold maxLen; omega
        have g32 : ¬ (maxLen < T2.size + 4) := by unfold maxLen; omega
        go_upto_region 17 with (fail)
        obtain ⟨T3, hT3⟩ : ∃ T3 : ByteArray, T3 = T2 ++ ⟨#[32, 58, 45, 32]⟩ := ⟨_, rfl⟩
        rw [← hT3]
        have hs3 : T3.size = T2.size + 4 := by rw [hT3, ByteArray.size_append]; rfl
        have HT3 := Lib.hid hT3
        clear hT3 g31 g32
        cases ng with
        | true =>
         have g41 : T3.size + 4 ≤ maxLen := by unfold maxLen; omega
         have g42 : ¬ (maxLen < T3.size + 4) := by unfold maxLen; omega
         go_upto_region 19 with (fail)
         obtain ⟨T4, hT4⟩ : ∃ T4 : ByteArray, T4 = T3 ++ ⟨#[110, 111, 116, 32]⟩ := ⟨_, rfl⟩
         rw [← hT4]
         have hs4 : T4.size = T3.size + 4 := by rw [hT4, ByteArray.size_append]; rfl
         have HT4 := Lib.hid hT4
         clear hT4 g41 g42
         repeat (first | go_skip | go_guarded | go_step)
         refine (rSay8_any A n c l s2 x2 q2 Ai2 ni2 ci2 l2 V ((HR.out.below HVV.out).more HVV.out.size) hn hl HROWV.out hni2).mono ?_
         rintro e V2 ⟨rfl, hb5⟩
         have HB5 := Lib.hid (HBV.out.trans (hb5.mono HBV.out.size))
         clear hb5
         obtain ⟨Z, hZ, hZs⟩ : ∃ Z : ByteArray, strV (sayL l (s2, x2, (q2, l2))) = sv Z ∧ Z = ⟨(sayL l (s2, x2, (q2, l2))).toArray⟩ := ⟨_, rfl, rfl⟩
         rw [hZ]
         have hz1 : Z.size ≤ 1100000 := by rw [hZs]; exact hsl2
         have g51 : T4.size + Z.size ≤ maxLen := by unfold maxLen; omega
         have g52 : ¬ (maxLen < T4.size + Z.size) := by unfold maxLen; omega
         have HZ := Lib.hid hZs
         clear hZ hZs
         dsimp only
         repeat (first | go_skip | go_guarded | go_step)
         go_roundw
         case rel =>
          refine ⟨1, T4 ++ Z, false, by omega, rfl, rfl, by go_num, ?_, ?_, HB5.out⟩
          ·
           have hne : M.take 0 = [] := by
            rfl
           rw [HT4.out, HT3.out, HT2.out, HZ.out, List.take_add_one (i := 0), HX2.out, Option.toList_some, bodyL_snoc, if_pos hne, show (⟨#[32, 58, 45, 32]⟩ : ByteArray) = ⟨([32, 58, 45, 32] : List UInt8).toArray⟩ from rfl, show (⟨#[110, 111, 116, 32]⟩ : ByteArray) = ⟨(notW).toArray⟩ from rfl, app_str, app_str, app_str]
           simp [condL]
          ·
           exact HISV.out
         case measure => simp [intOf]; omega
        | false =>
         repeat (first | go_skip | go_guarded | go_step)
         refine (rSay8_any A n c l s2 x2 q2 Ai2 ni2 ci2 l2 V ((HR.out.below HVV.out).more HVV.out.size) hn hl HROWV.out hni2).mono ?_
         rintro e V2 ⟨rfl, hb5⟩
         have HB5 := Lib.hid (HBV.out.trans (hb5.mono HBV.out.size))
         clear hb5
         obtain ⟨Z, hZ, hZs⟩ : ∃ Z : ByteArray, strV (sayL l (s2, x2, (q2, l2))) = sv Z ∧ Z = ⟨(sayL l (s2, x2, (q2, l2))).toArray⟩ := ⟨_, rfl, rfl⟩
         rw [hZ]
         have hz1 : Z.size ≤ 1100000 := by rw [hZs]; exact hsl2
         have g51 : T3.size + Z.size ≤ maxLen := by unfold maxLen; omega
         have g52 : ¬ (maxLen < T3.size + Z.size) := by unfold maxLen; omega
         have HZ := Lib.hid hZs
         clear hZ hZs
         dsimp only
         repeat (first | go_skip | go_guarded | go_step)
         go_roundw
         case rel =>
          refine ⟨1, T3 ++ Z, false, by omega, rfl, rfl, by go_num, ?_, ?_, HB5.out⟩
          ·
           have hne : M.take 0 = [] := by
            rfl
           rw [HT3.out, HT2.out, HZ.out, List.take_add_one (i := 0), HX2.out, Option.toList_some, bodyL_snoc, if_pos hne, show (⟨#[32, 58, 45, 32]⟩ : ByteArray) = ⟨([32, 58, 45, 32] : List UInt8).toArray⟩ from rfl, app_str, app_str]
           simp [condL]
          ·
           exact HISV.out
         case measure => simp [intOf]; omega
       ·
        have hk0 : ((k : Int) == 0) = false := by simp; omega
        have g31 : T2.size + 2 ≤ maxLen := by unfold maxLen; omega
        have g32 : ¬ (maxLen < T2.size + 2) := by unfold maxLen; omega
        go_upto_region 17 with (fail)
        obtain ⟨T3, hT3⟩ : ∃ T3 : ByteArray, T3 = T2 ++ ⟨#[44, 32]⟩ := ⟨_, rfl⟩
        rw [← hT3]
        have hs3 : T3.size = T2.size + 2 := by rw [hT3, ByteArray.size_append]; rfl
        have HT3 := Lib.hid hT3
        clear hT3 g31 g32
        cases ng with
        | true =>
         have g41 : T3.size + 4 ≤ maxLen := by unfold maxLen; omega
         have g42 : ¬ (maxLen < T3.size + 4) := by unfold maxLen; omega
         go_upto_region 19 with (fail)
         obtain ⟨T4, hT4⟩ : ∃ T4 : ByteArray, T4 = T3 ++ ⟨#[110, 111, 116, 32]⟩ := ⟨_, rfl⟩
         rw [← hT4]
         have hs4 : T4.size = T3.size + 4 := by rw [hT4, ByteArray.size_append]; rfl
         have HT4 := Lib.hid hT4
         clear hT4 g41 g42
         repeat (first | go_skip | go_guarded | go_step)
         refine (rSay8_any A n c l s2 x2 q2 Ai2 ni2 ci2 l2 V ((HR.out.below HVV.out).more HVV.out.size) hn hl HROWV.out hni2).mono ?_
         rintro e V2 ⟨rfl, hb5⟩
         have HB5 := Lib.hid (HBV.out.trans (hb5.mono HBV.out.size))
         clear hb5
         obtain ⟨Z, hZ, hZs⟩ : ∃ Z : ByteArray, strV (sayL l (s2, x2, (q2, l2))) = sv Z ∧ Z = ⟨(sayL l (s2, x2, (q2, l2))).toArray⟩ := ⟨_, rfl, rfl⟩
         rw [hZ]
         have hz1 : Z.size ≤ 1100000 := by rw [hZs]; exact hsl2
         have g51 : T4.size + Z.size ≤ maxLen := by unfold maxLen; omega
         have g52 : ¬ (maxLen < T4.size + Z.size) := by unfold maxLen; omega
         have HZ := Lib.hid hZs
         clear hZ hZs
         dsimp only
         repeat (first | go_skip | go_guarded | go_step)
         go_roundw
         case rel =>
          refine ⟨k + 1, T4 ++ Z, false, by omega, rfl, rfl, by go_num, ?_, ?_, HB5.out⟩
          ·
           have hne : ¬ (M.take k = []) := by
            intro h
            have h2 := congrArg List.length h
            have h3 := HKA.out.lenL
            rw [List.length_take] at h2
            simp only [List.length_nil] at h2
            omega
           rw [HT4.out, HT3.out, HT2.out, HZ.out, List.take_add_one, HX2.out, Option.toList_some, bodyL_snoc, if_neg hne, show (⟨#[44, 32]⟩ : ByteArray) = ⟨([44, 32] : List UInt8).toArray⟩ from rfl, show (⟨#[110, 111, 116, 32]⟩ : ByteArray) = ⟨(notW).toArray⟩ from rfl, app_str, app_str, app_str]
           simp [condL]
          ·
           exact HISV.out
         case measure => simp [intOf]; omega
        | false =>
         repeat (first | go_skip | go_guarded | go_step)
         refine (rSay8_any A n c l s2 x2 q2 Ai2 ni2 ci2 l2 V ((HR.out.below HVV.out).more HVV.out.size) hn hl HROWV.out hni2).mono ?_
         rintro e V2 ⟨rfl, hb5⟩
         have HB5 := Lib.hid (HBV.out.trans (hb5.mono HBV.out.size))
         clear hb5
         obtain ⟨Z, hZ, hZs⟩ : ∃ Z : ByteArray, strV (sayL l (s2, x2, (q2, l2))) = sv Z ∧ Z = ⟨(sayL l (s2, x2, (q2, l2))).toArray⟩ := ⟨_, rfl, rfl⟩
         rw [hZ]
         have hz1 : Z.size ≤ 1100000 := by rw [hZs]; exact hsl2
         have g51 : T3.size + Z.size ≤ maxLen := by unfold maxLen; omega
         have g52 : ¬ (maxLen < T3.size + Z.size) := by unfold maxLen; omega
         have HZ := Lib.hid hZs
         clear hZ hZs
         dsimp only
         repeat (first | go_skip | go_guarded | go_step)
         go_roundw
         case rel =>
          refine ⟨k + 1, T3 ++ Z, false, by omega, rfl, rfl, by go_num, ?_, ?_, HB5.out⟩
          ·
           have hne : ¬ (M.take k = []) := by
            intro h
            have h2 := congrArg List.length h
            have h3 := HKA.out.lenL
            rw [List.length_take] at h2
            simp only [List.length_nil] at h2
            omega
           rw [HT3.out, HT2.out, HZ.out, List.take_add_one, HX2.out, Option.toList_some, bodyL_snoc, if_neg hne, show (⟨#[44, 32]⟩ : ByteArray) = ⟨([44, 32] : List UInt8).toArray⟩ from rfl, app_str, app_str]
           simp [condL]
          ·
           exact HISV.out
         case measure => simp [intOf]; omega
     ·
      obtain rfl : k = mi := by omega
      have hck : ¬ (k : Int) < (k : Int) := by omega
      have htk : M.take k = M := List.take_of_length_le (by rw [HKA.out.lenL]; exact Nat.le_refl _)
      have HT3 := Lib.hid (show T2 = ⟨((rs.take i).flatMap (ruleL l) ++ sayL l (sd, tm, (p, as_)) ++ bodyL l M).toArray⟩ by rw [HT2.out, htk])
      have HIS3 := Lib.hid (show is_ = knownR l ((sd, tm, (p, as_)), M) by rw [HIS.out, htk]; rfl)
      clear htk HT2 HIS
      cases is_ with
      | false =>
       have HP := Lib.hid (printL_none HX.out HAL.out HMY.out HIS3.out.symm)
       repeat (first | go_skip | go_guarded | go_step)
       go_ret2
       exact ⟨by rw [HP.out]; rfl, HV.out⟩
      | true =>
       have g31 : T2.size + 2 ≤ maxLen := by unfold maxLen; omega
       have g32 : ¬ (maxLen < T2.size + 2) := by unfold maxLen; omega
       repeat (first | go_skip | go_guarded | go_step)
       go_roundw
       case rel =>
        refine ⟨i + 1, T2 ++ ⟨#[46, 10]⟩, by omega, rfl, by go_num, ?_, ?_, HV.out⟩
        ·
         rw [HT3.out, List.take_add_one, HX.out, show (⟨#[46, 10]⟩ : ByteArray) = ⟨([46, 10] : List UInt8).toArray⟩ from rfl, app_str]
         simp [ruleL]
        ·
         rw [List.take_add_one, HX.out, List.all_append, HAL.out]
         simp [fineR, HMY.out, ← HIS3.out]
       case measure => simp [intOf]; omega
  ·
   obtain rfl : i = n1 := by omega
   have hci : ¬ (i : Int) < (i : Int) := by omega
   have htk : rs.take i = rs := List.take_of_length_le (by rw [HL.out]; exact Nat.le_refl _)
   have hp := printL_all (l := l) (rs := rs) (by have := HAL.out; rwa [htk] at this)
   have HP := Lib.hid hp
   have HT' := Lib.hid (show T = ⟨(rs.flatMap (ruleL l)).toArray⟩ by rw [HT.out, htk])
   clear htk hp HT
   repeat (first | go_skip | go_guarded | go_step)
   go_ret2
   refine ⟨?_, HBR.out⟩
   rw [HP.out]
   show Ending.returned (.tuple #[sv T, .int .i64 0]) = _
   rw [HT'.out]
   rfl
end Go.Proofs.YtoigpbajefkpoaaGreatDoor

set_option linter.unusedVariables false
set_option linter.unusedSimpArgs false
namespace Go.Proofs.YtoigpbajefkpoaaGreatDoor
open Go Go.RowKit

def smallR1 (rs : List Rl) : Prop := ∀ r ∈ rs, r.1.2.2.2.length ≤ 100 ∧ r.2.length ≤ 100 ∧ ∀ x ∈ r.2, x.2.2.2.2.length ≤ 100
theorem fewR_small1 {rs : List Rl} (h : fewR rs = true) : rs.length ≤ 60 ∧ smallR1 rs := by
 unfold fewR at h
 rw [Bool.and_eq_true] at h
 refine ⟨of_decide_eq_true h.1, fun r hr => ?_⟩
 have h2 := h.2
 rw [List.all_eq_true] at h2
 have h3 := h2 r hr
 unfold bigR at h3
 simp only [Bool.not_eq_true', Bool.or_eq_false_iff, decide_eq_false_iff_not, List.any_eq_false, decide_eq_true_eq] at h3
 refine ⟨by omega, by omega, fun x hx => ?_⟩
 have := h3.2 x hx
 omega
theorem sayL_len1 {names : List ByteArray} (h : Short names) {y : Sy} (hy : y.2.2.2.length ≤ 100) : (sayL names y).length ≤ 102210 := by
 have h1 := termL_len h y.2.1
 have h2 := namedL_len h y.2.2.1.toNat
 have h3 : (argsL names y.2.2.2).length ≤ 100201 := by
  by_cases he : y.2.2.2 = []
  ·
   rw [he]; simp [argsL]
  ·
   rw [argsL_of he, List.length_append]
   have := argsO_len h y.2.2.2
   simp
   omega
 unfold sayL
 rw [List.length_append, List.length_append]
 split
 ·
  rw [List.length_append]
  simp only [List.length_cons, List.length_nil]
  omega
 ·
  simp
  omega
theorem bodyL_len1 {names : List ByteArray} (h : Short names) : ∀ M : List Co, (∀ x ∈ M, x.2.2.2.2.length ≤ 100) → (bodyL names M).length ≤ 102220 * M.length
 | [], _ => by simp [bodyL]
 | c :: M, hM => by
  have hc : ∀ d ∈ c :: M, (condL names d).length ≤ 102214 := by
   intro d hd
   have := sayL_len1 h (y := d.2) (hM d hd)
   unfold condL
   rw [List.length_append]
   split
   ·
    simp
    omega
   ·
    simp
    omega
  have key : ∀ M : List Co, (∀ d ∈ M, (condL names d).length ≤ 102214) → (M.flatMap (fun d => [44, 32] ++ condL names d)).length ≤ 102216 * M.length := by
   intro M
   induction M with
   | nil => intro _; simp
   | cons d M ih =>
    intro hq
    have h1 := ih fun x hx => hq x (List.mem_cons_of_mem _ hx)
    have h2 := hq d (List.mem_cons_self ..)
    rw [List.flatMap_cons, List.length_append, List.length_append, List.length_cons]
    simp only [List.length_cons, List.length_nil]
    omega
  have h1 := key M fun d hd => hc d (List.mem_cons_of_mem _ hd)
  have h2 := hc c (List.mem_cons_self ..)
  simp only [bodyL, List.length_append, List.length_cons, List.length_nil]
  omega
theorem prules_len1 {names : List ByteArray} (h : Short names) {rs : List Rl} (hs : smallR1 rs) : (rs.flatMap (ruleL names)).length ≤ 10400000 * rs.length := by
 induction rs with
 | nil => simp
 | cons r rs ih =>
  have h1 := ih fun x hx => hs x (List.mem_cons_of_mem _ hx)
  have h2 := hs r (List.mem_cons_self ..)
  have h3 := sayL_len1 h (y := r.1) h2.1
  have h4 := bodyL_len1 h r.2 h2.2.2
  have h5 : 102220 * r.2.length ≤ 102220 * 100 := Nat.mul_le_mul_left _ h2.2.1
  have h6 : (ruleL names r).length ≤ 102210 + 102220 * r.2.length + 2 := by
   unfold ruleL
   rw [List.length_append, List.length_append]
   simp only [List.length_cons, List.length_nil]
   omega
  rw [List.flatMap_cons, List.length_append, List.length_cons]
  omega
theorem printL_len {l : List ByteArray} : ∀ rs : List Rl, (printL l rs).1.length ≤ (rs.flatMap (ruleL l)).length
 | [] => by simp [printL]
 | r :: rs => by
  have ih := printL_len (l := l) rs
  rw [printL, List.flatMap_cons, List.length_append]
  split
  ·
   simp
  ·
   split
   ·
    simp
   ·
    split
    ·
     rw [List.length_append]
     omega
    ·
     simp
theorem few_len {l : List ByteArray} (hl : Short l) {rs : List Rl} (h : fewR rs = true) : (printL l rs).1.length ≤ 1000000000 := by
 obtain ⟨h1, h2⟩ := fewR_small1 h
 have h3 := printL_len (l := l) rs
 have h4 := prules_len1 hl h2
 have h5 : 10400000 * rs.length ≤ 10400000 * 60 := Nat.mul_le_mul_left _ h1
 omega
end Go.Proofs.YtoigpbajefkpoaaGreatDoor
namespace Go.Proofs.YtoigpbajefkpoaaGreatDoor.parsePrint
open Go Go.RowKit

set_option maxRecDepth 100000 in
set_option maxHeartbeats 8000000 in
theorem walk {P : World → Prop} (ok : ParsesOk P) (A : Option Addr) (n c : Nat) (l : List ByteArray) (A1 : Option Addr) (n1 c1 : Nat) (Q : List RlA) (rs : List Rl) (w : World) (hP : P w) (hr : Rd w w.heap.size 1 A n (l.map sv)) (h1 : RdRs w w.heap.size A1 n1 Q rs) (hnc : n1 ≤ c1) :
  Calls Tryz.prog 4 #[.slice A n c, .slice A1 n1 c1] w fun e w' => e = .returned (.bool true) ∧ Below w.heap.size w w' := by
 have HPW := Lib.hid hP
 clear hP
 have HR := Lib.hid hr
 have H := Lib.hid h1
 have HNC := Lib.hid hnc
 have HLN := Lib.hid (show l.length = n by simpa using hr.len1)
 clear hr h1 hnc
 go_enter Tryz.func4, Tryz.ntmps4
 repeat (first | go_skip | go_guarded | go_step)
 refine (few_any A1 n1 c1 Q rs w H.out).mono ?_
 rintro e w1 ⟨rfl, hb1⟩
 have HB1 := Lib.hid hb1
 clear hb1
 obtain ⟨fw, hfw⟩ : ∃ fw, fewR rs = fw := ⟨_, rfl⟩
 rw [hfw]
 have HFW := Lib.hid hfw
 clear hfw
 cases fw with
 | false =>
  dsimp only
  repeat (first | go_skip | go_guarded | go_step)
  refine (pWorks_any ok w1 (ok.later _ _ HPW.out HB1.out)).mono ?_
  rintro e w2 ⟨rfl, hb⟩
  have HB2 := Lib.hid (HB1.out.trans (hb.mono HB1.out.size))
  dsimp only
  repeat (first | go_skip | go_guarded | go_step)
  go_ret
  exact ⟨rfl, HB2.out⟩
 | true =>
  have hsm := fewR_small HFW.out
  have HSM := Lib.hid hsm.2
  have HN1 := Lib.hid (show n1 ≤ 100000 by have h2 := H.out.lenL; have h3 := hsm.1; omega)
  clear hsm
  dsimp only
  repeat (first | go_skip | go_guarded | go_step)
  refine (table_any A n c l w1 ((HR.out.below HB1.out).more HB1.out.size)).mono ?_
  rintro e w2 ⟨hb2, ⟨htb, g, F, rfl, ht2, hg2, hs2, hf2⟩ | ⟨htb, rfl⟩⟩
  ·
   have HB2 := Lib.hid (HB1.out.trans (hb2.mono HB1.out.size))
   have HT2 := Lib.hid ht2
   have HG2 := Lib.hid hg2
   have HS := Lib.hid (show Short l from fun s hs => Nat.le_trans (hs2 s hs) (by omega))
   have HN := Lib.hid (show n ≤ 100000 by have := hg2.len; have h2 := HLN.out; omega)
   have HLEN := Lib.hid (few_len HS.out HFW.out)
   clear hb2 ht2 hg2 hs2 hf2 htb
   dsimp only
   repeat (first | go_skip | go_guarded | go_step)
   refine (ok.print g F l A1 n1 c1 Q rs w2 (ok.later _ _ HPW.out HB2.out) HT2.out (HG2.out.mono (by omega)) ((H.out.below HB2.out).more HB2.out.size) HNC.out HN1.out HSM.out HLEN.out).mono ?_
   rintro e w3 ⟨rfl, hb3⟩
   have HB3 := Lib.hid (HB2.out.trans (hb3.mono HB2.out.size))
   have HT3 := Lib.hid (HT2.out.later hb3)
   clear hb3
   obtain ⟨X, hX⟩ : ∃ X : ByteArray, strV (printL l rs).1 = sv X := ⟨⟨(printL l rs).1.toArray⟩, rfl⟩
   obtain ⟨z, hz⟩ : ∃ z : Nat, (printL l rs).2 = z := ⟨_, rfl⟩
   rw [hX, hz]
   have HX := Lib.hid hX
   have HZ := Lib.hid hz
   clear hX hz
   dsimp only
   repeat (first | go_skip | go_guarded | go_step)
   refine (rPrint8_any A n c l A1 n1 c1 Q rs w3 ((HR.out.below HB3.out).more HB3.out.size) HN.out HS.out ((H.out.below HB3.out).more HB3.out.size) HN1.out HSM.out).mono ?_
   rintro e w4 ⟨rfl, hb4⟩
   have HB4 := Lib.hid (HB3.out.trans (hb4.mono HB3.out.size))
   have HT4 := Lib.hid (HT3.out.later hb4)
   clear hb4
   rw [HX.out, HZ.out]
   dsimp only
   repeat (first | go_skip | go_guarded | go_step)
   refine (tList g F l w4 HT4.out (by have h2 := HLN.out; have h3 := HN.out; omega)).mono ?_
   rintro e w5 ⟨A5, c5, rfl, ho5, hb5⟩
   have HB5 := Lib.hid (HB4.out.trans (hb5.mono HB4.out.size))
   have HR5 := Lib.hid ((HR.out.below HB5.out).more HB5.out.size)
   have HO5 := Lib.hid (Rd.ofOwn ho5)
   have HNL := Lib.hid (show l.length ≤ 1000000 by have h2 := HLN.out; have h3 := HN.out; omega)
   clear ho5 hb5
   dsimp only
   repeat (first | go_skip | go_guarded | go_step)
   refine (rSame_any A5 A l.length c5 n c _ _ l l w5 HO5.out HR5.out HNL.out).mono ?_
   rintro e w6 ⟨rfl, q, rfl⟩
   rw [decide_eq_true rfl]
   have HB6 := Lib.hid (show Below w.heap.size w (w5.drewN q) from ⟨HB5.out.os, HB5.out.tape, HB5.out.output, HB5.out.size, HB5.out.block⟩)
   dsimp only
   repeat (first | go_skip | go_guarded | go_step)
   refine (pWorks_any ok _ (ok.later _ _ HPW.out HB6.out)).mono ?_
   rintro e w7 ⟨rfl, hb7⟩
   have HB7 := Lib.hid (HB6.out.trans (hb7.mono HB6.out.size))
   clear hb7
   dsimp only
   repeat (first | go_skip | go_guarded | go_step)
   go_ret
   exact ⟨rfl, HB7.out⟩
  ·
   have HB2 := Lib.hid (HB1.out.trans (hb2.mono HB1.out.size))
   clear hb2
   dsimp only
   repeat (first | go_skip | go_guarded | go_step)
   refine (pWorks_any ok w2 (ok.later _ _ HPW.out HB2.out)).mono ?_
   rintro e w3 ⟨rfl, hb⟩
   have HB3 := Lib.hid (HB2.out.trans (hb.mono HB2.out.size))
   dsimp only
   repeat (first | go_skip | go_guarded | go_step)
   go_ret
   exact ⟨rfl, HB3.out⟩
end Go.Proofs.YtoigpbajefkpoaaGreatDoor.parsePrint

set_option linter.unusedVariables false
set_option linter.unusedSimpArgs false
namespace Go.Proofs.YtoigpbajefkpoaaGreatDoor
open Go Go.RowKit

/-- A text's words are these. -/
def Lx (t : List UInt8) (ws : List (Nat × List UInt8)) : Prop := ∀ a, (lexG a t).2 = none ∧ texts (lexG a t).1 = ws
theorem Lx.nil : Lx [] [] := fun a => by
 rw [lexG_end (by rfl)]
 exact ⟨rfl, rfl⟩
theorem Lx.sp {r : List UInt8} {ws : List (Nat × List UInt8)} (h : Lx r ws) : Lx (32 :: r) ws := fun a => by
 have hs := lexG_shut shut32 a r
 rw [List.cons_append, List.nil_append] at hs
 rw [hs]
 exact h _
theorem shut10 : shutBl [10] := fun l => by
 rw [List.cons_append, List.nil_append, blN, if_neg (by decide)]
 simp [isBl]
theorem Lx.nl {r : List UInt8} {ws : List (Nat × List UInt8)} (h : Lx r ws) : Lx (10 :: r) ws := fun a => by
 have hs := lexG_shut shut10 a r
 rw [List.cons_append, List.nil_append] at hs
 rw [hs]
 exact h _
theorem Lx.word {w r : List UInt8} {k : Nat} {ws : List (Nat × List UInt8)} (hb : blN false (w ++ r) = 0) (hw : wordN (w ++ r) = (k, w.length)) (hn : w ≠ []) (h : Lx r ws) : Lx (w ++ r) ((k, w) :: ws) := fun a => by
 obtain ⟨h1, h2⟩ := h (a + 0 + w.length)
 rw [lexG_word (by rw [hb]; rfl) hw (fun e => hn (List.eq_nil_of_length_eq_zero e)), List.drop_left, List.take_left, hb]
 refine ⟨h1, ?_⟩
 show (k, w) :: texts _ = _
 rw [h2]
theorem Lx.open_ {r : List UInt8} {ws : List (Nat × List UInt8)} (h : Lx r ws) : Lx (40 :: r) ((5, [40]) :: ws) :=
 Lx.word (w := [40]) (by rw [List.cons_append, blN, if_neg (by decide)]; rfl) (by rw [List.cons_append]; unfold wordN markN; simp) (by simp) h
theorem Lx.shut {r : List UInt8} {ws : List (Nat × List UInt8)} (h : Lx r ws) : Lx (41 :: r) ((6, [41]) :: ws) :=
 Lx.word (w := [41]) (by rw [List.cons_append, blN, if_neg (by decide)]; rfl) (by rw [List.cons_append]; unfold wordN markN; simp) (by simp) h
theorem Lx.comma {r : List UInt8} {ws : List (Nat × List UInt8)} (h : Lx r ws) : Lx (44 :: r) ((7, [44]) :: ws) :=
 Lx.word (w := [44]) (by rw [List.cons_append, blN, if_neg (by decide)]; rfl) (by rw [List.cons_append]; unfold wordN markN; simp) (by simp) h
theorem Lx.stop {r : List UInt8} {ws : List (Nat × List UInt8)} (h : Lx r ws) : Lx (46 :: r) ((8, [46]) :: ws) :=
 Lx.word (w := [46]) (by rw [List.cons_append, blN, if_neg (by decide)]; rfl) (by rw [List.cons_append]; unfold wordN markN; simp) (by simp) h
theorem Lx.if_ {r : List UInt8} {ws : List (Nat × List UInt8)} (h : Lx r ws) : Lx (58 :: 45 :: r) ((9, [58, 45]) :: ws) :=
 Lx.word (w := [58, 45]) (by rw [List.cons_append, blN, if_neg (by decide)]; rfl) (by rw [List.cons_append, List.cons_append]; unfold wordN markN; simp) (by simp) h
/-- A text that no word can go on in. -/
def Ends (r : List UInt8) : Prop := r = [] ∨ ∃ d b, r = d :: b ∧ okB d = false ∧ d ≠ 45
theorem takeWhile_all {p : UInt8 → Bool} : ∀ l : List UInt8, l.all p = true → l.takeWhile p = l
 | [], _ => rfl
 | c :: l, h => by
  rw [List.all_cons, Bool.and_eq_true] at h
  rw [List.takeWhile_cons, if_pos h.1, takeWhile_all l h.2]
theorem Lx.let_ {w r : List UInt8} {ws : List (Nat × List UInt8)} (ha : w.all okB = true) (h1 : 1 ≤ w.length) (h2 : w.length ≤ 32) (hr : Ends r) (h : Lx r ws) : Lx (w ++ r) ((kindL w, w) :: ws) := by
 have hne : w ≠ [] := by rintro rfl; simp at h1
 have hl : letN w = w.length := by unfold letN; rw [takeWhile_all w ha]
 have hw : wordN w = (kindL w, w.length) := by
  have hm : markN w = (0, 0) := by
   cases w with
   | nil => exact absurd rfl hne
   | cons c l =>
    rw [List.all_cons, Bool.and_eq_true] at ha
    exact markN_ok ha.1 l
  rw [wordN_let hm, if_neg (by omega), hl, List.take_length]
 have hb : blN false (w ++ r) = 0 := by
  cases w with
  | nil => exact absurd rfl hne
  | cons c l =>
   rw [List.all_cons, Bool.and_eq_true] at ha
   rw [List.cons_append, blN, if_neg (frontless ha.1).2, if_neg (by rw [(frontless ha.1).1]; decide)]
 refine Lx.word hb ?_ hne h
 rcases hr with rfl | ⟨d, b, rfl, hd, h45⟩
 ·
  rw [List.append_nil]; exact hw
 ·
  rw [wordN_stop hd h45 b hne]; exact hw
theorem ends_cons {d : UInt8} {b : List UInt8} (h : okB d = false) (h2 : d ≠ 45) : Ends (d :: b) := .inr ⟨d, b, rfl, h, h2⟩
/-! ### a printed rule, as words -/
abbrev Tk := Nat × List UInt8
def tokT (N : List ByteArray) (t : Tm) : Tk := (if t.1 then 2 else 1, termL N t)
def toksA (N : List ByteArray) : List Tm → List Tk
 | [] => []
 | t :: l => (5, [40]) :: tokT N t :: (l.flatMap (fun u => [(7, [44]), tokT N u]) ++ [(6, [41])])
def toksS (N : List ByteArray) (y : Sy) : List Tk := (if y.1 then [tokT N y.2.1, (4, [115, 97, 121, 115])] else []) ++ (1, namedL N y.2.2.1.toNat) :: toksA N y.2.2.2
def toksC (N : List ByteArray) (c : Co) : List Tk := (if c.1 then [(3, [110, 111, 116])] else []) ++ toksS N c.2
def toksB (N : List ByteArray) : List Co → List Tk
 | [] => []
 | c :: l => (9, [58, 45]) :: (toksC N c ++ l.flatMap (fun d => (7, [44]) :: toksC N d))
def toksR (N : List ByteArray) (r : Rl) : List Tk := toksS N r.1 ++ (toksB N r.2 ++ [(8, [46])])
theorem digits_ok : ∀ (k n : Nat), n < 10 ^ (k + 1) → (digitsL n).all okB = true
 | 0, n, h => by
  rw [digitsL_small (by omega)]
  have : n < 10 := by omega
  match n, this with
  | 0, _ => decide
  | 1, _ => decide
  | 2, _ => decide
  | 3, _ => decide
  | 4, _ => decide
  | 5, _ => decide
  | 6, _ => decide
  | 7, _ => decide
  | 8, _ => decide
  | 9, _ => decide
 | k + 1, n, h => by
  by_cases hn : n < 10
  ·
   exact digits_ok 0 n (by omega)
  ·
   rw [digitsL_big hn, List.all_append, digits_ok k (n / 10) (by rw [Nat.pow_succ] at h; omega), digits_ok 0 (n % 10) (by omega)]
   rfl
theorem lx_var {n : Nat} (hn : n < 4294967296) {r : List UInt8} {ws : List Tk} (hr : Ends r) (h : Lx r ws) : Lx (88 :: (digitsL n ++ r)) ((2, 88 :: digitsL n) :: ws) := by
 have h1 := digits_ok 9 n (by omega)
 have h2 := digitsL_len 9 n (by omega)
 have hk : kindL (88 :: digitsL n) = 2 := by
  unfold kindL
  rw [if_neg (by intro e; simp at e), if_neg (by intro e; simp at e)]
  rfl
 have := Lx.let_ (w := 88 :: digitsL n) (by rw [List.all_cons, h1]; rfl) (by simp) (by simp; omega) hr h
 rw [hk] at this
 exact this
theorem plain_kind {x : ByteArray} (h : plainB x = true) : kindL (tb x) = 1 := by
 unfold plainB at h
 split at h
 ·
  rename_i w y heq
  have h2 := of_decide_eq_true h
  have hlen : (tb x).length ≤ 65536 := by
   rcases Nat.lt_or_ge 65536 (tb x).length with h | h
   ·
    unfold wordsL at heq
    rw [if_pos h] at heq
    simp at heq
   ·
    exact h
  have hg : lexG 0 (tb x) = ([w], none) := by
   unfold wordsL at heq
   rw [if_neg (by omega)] at heq
   split at heq
   ·
    rename_i ws he
    simp only [Prod.mk.injEq] at heq
    rw [he, heq.1]
   ·
    simp at heq
  have ha := lexG_alone 0 (tb x)
  rw [hg] at ha
  obtain ⟨h3, h4, h5⟩ := ha w (by simp)
  obtain ⟨k, t, a⟩ := w
  dsimp only at h2 h3 h4 h5
  obtain ⟨rfl, rfl⟩ := h2
  have := fword_let h3
  rw [List.take_length] at this
  exact this.2.2.2
 ·
  cases h
theorem may_parts {x : ByteArray} (h : mayB x = true) : (tb x).all okB = true ∧ 1 ≤ (tb x).length ∧ (tb x).length ≤ 32 := by
 unfold mayB at h
 simp only [Bool.and_eq_true, decide_eq_true_eq] at h
 rw [tb_len]
 exact ⟨h.1, h.2.1, h.2.2⟩
theorem lx_name {N : List ByteArray} (hN : Good 4096 N) {i : Nat} (hi : Nin N i) {r : List UInt8} {ws : List Tk} (hr : Ends r) (h : Lx r ws) : Lx (namedL N i ++ r) ((1, namedL N i) :: ws) := by
 obtain ⟨x, h1, h2⟩ := hi
 have hx : namedL N i = tb x := by unfold namedL; rw [h1]; dsimp only; rw [if_pos h2]
 obtain ⟨h3, h4, h5⟩ := may_parts (hN.may x (List.mem_of_getElem? h1))
 have := Lx.let_ h3 h4 h5 hr h
 rw [plain_kind h2] at this
 rw [hx]
 exact this
theorem lx_term {N : List ByteArray} (hN : Good 4096 N) {v : Nat} {t : Tm} (ht : Tin N v t) {r : List UInt8} {ws : List Tk} (hr : Ends r) (h : Lx r ws) : Lx (termL N t ++ r) (tokT N t :: ws) := by
 unfold Tin at ht
 unfold tokT termL
 obtain ⟨b, i⟩ := t
 cases b with
 | true => exact lx_var i.toNat_lt hr h
 | false => exact lx_name hN ht hr h
theorem lx_more {N : List ByteArray} (hN : Good 4096 N) {v : Nat} : ∀ (l : List Tm), (∀ t ∈ l, Tin N v t) → ∀ {r : List UInt8} {ws : List Tk}, Lx r ws →
  Lx (l.flatMap (fun u => [44, 32] ++ termL N u) ++ 41 :: r) (l.flatMap (fun u => [(7, [44]), tokT N u]) ++ (6, [41]) :: ws) ∧ Ends (l.flatMap (fun u => [44, 32] ++ termL N u) ++ 41 :: r)
 | [], _, r, ws, h => ⟨Lx.shut h, ends_cons (by decide) (by decide)⟩
 | t :: l, hl, r, ws, h => by
  obtain ⟨h1, h2⟩ := lx_more hN l (fun x hx => hl x (List.mem_cons_of_mem _ hx)) h
  have h3 := lx_term hN (hl t (List.mem_cons_self ..)) h2 h1
  refine ⟨?_, ?_⟩
  ·
   have := Lx.comma (Lx.sp h3)
   simpa using this
  ·
   exact ends_cons (by decide) (by decide)
theorem lx_args {N : List ByteArray} (hN : Good 4096 N) {v : Nat} {l : List Tm} (hl : ∀ t ∈ l, Tin N v t) {r : List UInt8} {ws : List Tk} (hr : Ends r) (h : Lx r ws) : Lx (argsL N l ++ r) (toksA N l ++ ws) ∧ Ends (argsL N l ++ r) := by
 cases l with
 | nil => exact ⟨h, hr⟩
 | cons t l =>
  obtain ⟨h1, h2⟩ := lx_more hN l (fun x hx => hl x (List.mem_cons_of_mem _ hx)) h
  have h3 := Lx.open_ (lx_term hN (hl t (List.mem_cons_self ..)) h2 h1)
  refine ⟨?_, ends_cons (by decide) (by decide)⟩
  simpa [argsL, toksA] using h3
theorem lx_say {N : List ByteArray} (hN : Good 4096 N) {v : Nat} {y : Sy} (hy : ∀ t ∈ termsS y, Tin N v t) (hp : Nin N y.2.2.1.toNat) {r : List UInt8} {ws : List Tk} (hr : Ends r) (h : Lx r ws) : Lx (sayL N y ++ r) (toksS N y ++ ws) := by
 obtain ⟨s, t, p, l⟩ := y
 obtain ⟨h1, h2⟩ := lx_args hN (l := l) (fun x hx => hy x (by simp [termsS, hx])) hr h
 have h3 := lx_name hN hp h2 h1
 cases s with
 | false => simpa [sayL, toksS] using h3
 | true =>
  have h4 := Lx.let_ (w := [115, 97, 121, 115]) (by decide) (by decide) (by decide) (ends_cons (d := 32) (by decide) (by decide)) (Lx.sp h3)
  have h5 := lx_term hN (hy t (by simp [termsS])) (ends_cons (d := 32) (by decide) (by decide)) (Lx.sp h4)
  simpa [sayL, toksS, show kindL [115, 97, 121, 115] = 4 from by decide] using h5
theorem lx_cond {N : List ByteArray} (hN : Good 4096 N) {v : Nat} {c : Co} (hy : ∀ t ∈ termsS c.2, Tin N v t) (hp : Nin N c.2.2.2.1.toNat) {r : List UInt8} {ws : List Tk} (hr : Ends r) (h : Lx r ws) : Lx (condL N c ++ r) (toksC N c ++ ws) := by
 have h1 := lx_say hN hy hp hr h
 obtain ⟨b, y⟩ := c
 cases b with
 | false => simpa [condL, toksC] using h1
 | true =>
  have h2 := Lx.let_ (w := [110, 111, 116]) (by decide) (by decide) (by decide) (ends_cons (d := 32) (by decide) (by decide)) (Lx.sp h1)
  simpa [condL, toksC, show kindL [110, 111, 116] = 3 from by decide] using h2
theorem lx_conds {N : List ByteArray} (hN : Good 4096 N) {v : Nat} : ∀ (M : List Co), (∀ c ∈ M, (∀ t ∈ termsS c.2, Tin N v t) ∧ Nin N c.2.2.2.1.toNat) → ∀ {r : List UInt8} {ws : List Tk}, Ends r → Lx r ws →
  Lx (M.flatMap (fun d => [44, 32] ++ condL N d) ++ r) (M.flatMap (fun d => (7, [44]) :: toksC N d) ++ ws) ∧ Ends (M.flatMap (fun d => [44, 32] ++ condL N d) ++ r)
 | [], _, r, ws, hr, h => ⟨h, hr⟩
 | c :: M, hM, r, ws, hr, h => by
  obtain ⟨h1, h2⟩ := lx_conds hN M (fun x hx => hM x (List.mem_cons_of_mem _ hx)) hr h
  have h3 := lx_cond hN (hM c (List.mem_cons_self ..)).1 (hM c (List.mem_cons_self ..)).2 h2 h1
  refine ⟨?_, ends_cons (by decide) (by decide)⟩
  simpa using Lx.comma (Lx.sp h3)
theorem lx_rule {N : List ByteArray} (hN : Good 4096 N) {q : Rl} (hf : Fine N q) {r : List UInt8} {ws : List Tk} (h : Lx r ws) : Lx (ruleL N q ++ r) (toksR N q ++ ws) := by
 obtain ⟨_, _, v, h3, h4, h5⟩ := hf
 obtain ⟨y, M⟩ := q
 have hs := Lx.stop (Lx.nl h)
 have he : Ends (46 :: 10 :: r) := ends_cons (by decide) (by decide)
 have hy : ∀ t ∈ termsS y, Tin N v t := fun t ht => h3 t (by simp [termsR, ht])
 have hM : ∀ c ∈ M, (∀ t ∈ termsS c.2, Tin N v t) ∧ Nin N c.2.2.2.1.toNat := fun c hc => ⟨fun t ht => h3 t (by
  simp only [termsR, List.mem_append, List.mem_flatMap]
  exact .inr ⟨c, hc, ht⟩), h5 c hc⟩
 cases M with
 | nil =>
  have := lx_say hN hy h4 he hs
  simpa [ruleL, toksR, bodyL, toksB] using this
 | cons c M =>
  obtain ⟨h6, h7⟩ := lx_conds hN M (fun x hx => hM x (List.mem_cons_of_mem _ hx)) he hs
  have h8 := lx_cond hN (hM c (List.mem_cons_self ..)).1 (hM c (List.mem_cons_self ..)).2 h7 h6
  have h9 := lx_say hN hy h4 (ends_cons (d := 32) (by decide) (by decide)) (Lx.sp (Lx.if_ (Lx.sp h8)))
  simpa [ruleL, toksR, bodyL, toksB] using h9
theorem lx_rules {N : List ByteArray} (hN : Good 4096 N) : ∀ (rs : List Rl), (∀ q ∈ rs, Fine N q) → Lx (rs.flatMap (ruleL N)) (rs.flatMap (toksR N))
 | [], _ => Lx.nil
 | q :: rs, hf => by
  rw [List.flatMap_cons, List.flatMap_cons]
  exact lx_rule hN (hf q (List.mem_cons_self ..)) (lx_rules hN rs fun x hx => hf x (List.mem_cons_of_mem _ hx))
end Go.Proofs.YtoigpbajefkpoaaGreatDoor

