/- Texts, packed: PbE -/
import Derived.Test.YtoigpbajefkpoaaGreatDoorPyL
set_option linter.unusedVariables false
set_option linter.unusedSimpArgs false
namespace Go.Proofs.YtoigpbajefkpoaaGreatDoor
open Go Go.RowKit

theorem name_tail {sz i : Nat} {s s1 : PS} (h : nameE sz s = .ok (i, s1)) : s1.1 = s.1.tail := by
 unfold nameE at h
 split at h
 ·
  split at h
  ·
   simp only [Except.ok.injEq, Prod.mk.injEq] at h
   rw [← h.2]
  ·
   split at h
   ·
    cases h
   ·
    simp only [Except.ok.injEq, Prod.mk.injEq] at h
    rw [← h.2]
 ·
  cases h
theorem say_eq (sz : Nat) (s : PS) : sayE sz s = bindE (termE sz s) fun t s1 => if t.1 = false ∧ kindE s1.1 ≠ 4 then bindE (atomB sz t.2 s1) fun a s2 => .ok ((false, (false, 0), a), s2) else bindE (takeE sz [4] s1) fun _ s2 => bindE (takeE sz [1] s2) fun x s3 => bindE (numE x s3) fun i s4 => bindE (atomB sz (UInt32.ofNat i) s4) fun a s5 => .ok ((true, t, a), s5) := by
 have key : ∀ (t : Tm) (s1 : PS), (bindE (wordE sz 4 s1) fun _ s2 => bindE (atomE sz s2) fun a s3 => (.ok ((true, t, a), s3) : Except PE (Sy × PS))) = bindE (takeE sz [4] s1) fun _ s2 => bindE (takeE sz [1] s2) fun x s3 => bindE (numE x s3) fun i s4 => bindE (atomB sz (UInt32.ofNat i) s4) fun a s5 => .ok ((true, t, a), s5) := by
  intro t s1
  rw [takeE_word]
  cases takeE sz [4] s1 with
  | error z => rfl
  | ok z =>
   obtain ⟨x, s2⟩ := z
   rw [bindE_okv, bindE_okv, bindE_okv, atom_eq, name_eq]
   cases takeE sz [1] s2 with
   | error z => rfl
   | ok z =>
    obtain ⟨y, s3⟩ := z
    rw [bindE_okv, bindE_okv]
    cases numE y s3 <;> rfl
 unfold sayE
 by_cases h2 : kindE s.1 = 2
 ·
  rw [if_pos (Or.inl h2)]
  unfold termE
  rw [if_pos h2]
  cases findO s.2.2 (txE s.1) with
  | some i =>
   rw [bindE_okv, bindE_okv, key, if_neg (fun e => by cases e.1)]
  | none =>
   dsimp only
   split
   ·
    rfl
   ·
    rw [bindE_okv, bindE_okv, key, if_neg (fun e => by cases e.1)]
 ·
  have ht : termE sz s = bindE (nameE sz s) fun i s1 => .ok ((false, UInt32.ofNat i), s1) := by
   unfold termE
   rw [if_neg h2]
  rw [ht]
  by_cases h4 : kindE s.1.tail = 4
  ·
   rw [if_pos (Or.inr h4)]
   cases hn : nameE sz s with
   | error z => rfl
   | ok z =>
    obtain ⟨i, s1⟩ := z
    rw [bindE_okv, bindE_okv, bindE_okv, key, if_neg (fun e => e.2 (by rw [name_tail hn]; exact h4))]
  ·
   rw [if_neg (fun e => e.elim h2 h4), atom_eq]
   cases hn : nameE sz s with
   | error z => rfl
   | ok z =>
    obtain ⟨i, s1⟩ := z
    rw [bindE_okv, bindE_okv, bindE_okv, if_pos ⟨rfl, by rw [name_tail hn]; exact h4⟩]
theorem turn5 (w : World) (a : Nat) (x0 x1 x2 x3 x4 : Value) : Turn (fun k => k = a) w (((((w.setCell ⟨a, 0, none⟩ x0).setCell ⟨a, 1, none⟩ x1).setCell ⟨a, 2, none⟩ x2).setCell ⟨a, 3, none⟩ x3).setCell ⟨a, 4, none⟩ x4) :=
 (((((Turn.refl (fun k => k = a) w).setCell (p := ⟨a, 0, none⟩) (fun _ => rfl) _).setCell (p := ⟨a, 1, none⟩) (fun _ => rfl) _).setCell (p := ⟨a, 2, none⟩) (fun _ => rfl) _).setCell (p := ⟨a, 3, none⟩) (fun _ => rfl) _).setCell (p := ⟨a, 4, none⟩) (fun _ => rfl) _
theorem sy_end {w : World} {r : Nat} {t : TypeId} {x0 x1 x2 x3 x4 : Value} (h : Bk w r t [x0, x1, x2, x3, x4]) (y0 y1 y2 y3 y4 : Value) : Bk (((((w.setCell ⟨r, 0, none⟩ y0).setCell ⟨r, 1, none⟩ y1).setCell ⟨r, 2, none⟩ y2).setCell ⟨r, 3, none⟩ y3).setCell ⟨r, 4, none⟩ y4) r t [y0, y1, y2, y3, y4] := ((((h.set_ 0 y0).set_ 1 y1).set_ 2 y2).set_ 3 y3).set_ 4 y4
section
variable {gt : Nat} {Ft : Nat → Prop} {l0 : List ByteArray} {sz wb : Nat} {F F2 : Nat → Prop} {g : Nat} {s s2 : PS} {w w2 Z : World}

set_option maxRecDepth 100000 in
set_option maxHeartbeats 8000000 in
theorem say_any (w : World) (h : LSt gt Ft l0 sz wb w F g s) :
  Calls Tryz.prog 78 #[.pointer (some ⟨g, 0, none⟩)] w fun e w' =>
   Fin gt Ft l0 sz wb F g w (sayE sz s) (fun y v W => ∃ A m c, v = .agg #[.bool y.1, .bool y.2.1.1, nv y.2.1.2, nv y.2.2.1, .slice A m c] ∧ OwT W w.heap.size A c m y.2.2.2 ∧ m ≤ 6) e w' := by
 have H := Lib.hid h
 have HWB := Lib.hid h.wlt
 have HSE := Lib.hid (say_eq sz s)
 clear h
 go_enter Tryz.func78, Tryz.ntmps78
 go_upto_region 1 with (fail)
 obtain ⟨U, a0, hU, hub, ha0, hb0⟩ : ∃ U a0, U = w.alloc (.cells #[.bool false, .bool false, .int .u32 0, .int .u32 0, .slice none 0 0] 51) ∧ Below w.heap.size w U ∧ w.heap.size = a0 ∧ Bk U a0 51 [.bool false, .bool false, .int .u32 0, .int .u32 0, .slice none 0 0] := ⟨_, _, rfl, (Below.refl _ _).alloc (Nat.le_refl _) _, rfl, Bk.new w _ _⟩
 rw [← hU, ha0]
 have HLE := Lib.hid (show w.heap.size ≤ a0 by rw [ha0]; exact Nat.le_refl _)
 have HU := Lib.hid hub
 have HA := Lib.hid hb0
 have HS := Lib.hid (H.out.later hub)
 clear hU hub ha0 hb0
 repeat (first | go_skip | go_guarded | go_step)
 refine (term_any U HS.out).mono ?_
 rintro e w1 (⟨tm, s1, v, F1, ht, rfl, rfl, hs, hm⟩ | ⟨z, ht, rfl, htn⟩)
 ·
  have HT := Lib.hid ht
  have HA1 := Lib.hid (HS.out.keeps hm.turn HA.out (by decide) (by decide) (by decide))
  have HM1 := Lib.hid ((Mv.ofBelow (F := F) HU.out).trans hm)
  have HS1 := Lib.hid hs
  clear ht hs hm
  dsimp only
  go_upto_region 2 with (fail)
  obtain ⟨V, a1, hV, hv, ha1, hb1⟩ : ∃ V a1, V = w1.alloc (.cells #[.bool tm.1, nv tm.2] 46) ∧ Below w1.heap.size w1 V ∧ w1.heap.size = a1 ∧ Bk V a1 46 [.bool tm.1, nv tm.2] := ⟨_, _, rfl, (Below.refl _ _).alloc (Nat.le_refl _) _, rfl, Bk.new w1 _ _⟩
  rw [← hV, ha1]
  have HSV := Lib.hid (HS1.out.later hv)
  have HMV := Lib.hid (HM1.out.later (hv.mono HM1.out.turn.size))
  have HAV := Lib.hid (HA1.out.later hv)
  have HBV := Lib.hid hb1
  have k0 := hb1.readT (Below.refl _ _) 0 rfl
  have k1 := hb1.readT (Below.refl _ _) 1 rfl
  clear hV hv ha1 hb1
  have HY := Lib.hid (show sayE sz s = if tm.1 = false ∧ kindE s1.1 ≠ 4 then bindE (atomB sz tm.2 s1) fun a s2 => .ok ((false, (false, 0), a), s2) else bindE (takeE sz [4] s1) fun _ s2 => bindE (takeE sz [1] s2) fun x s3 => bindE (numE x s3) fun i s4 => bindE (atomB sz (UInt32.ofNat i) s4) fun a s5 => .ok ((true, tm, a), s5) by rw [HSE.out, HT.out, bindE_okv])
  obtain ⟨tv, tn⟩ := tm
  dsimp only at k0 k1
  by_cases hc : tv = false ∧ kindE s1.1 ≠ 4
  ·
   obtain ⟨rfl, hc4⟩ := hc
   have HC4 := Lib.hid hc4
   have HN := Lib.hid (show sayE sz s = bindE (atomB sz tn s1) fun a s2 => .ok ((false, (false, 0), a), s2) by rw [HY.out, if_pos ⟨rfl, HC4.out⟩])
   clear hc4
   repeat (first | go_skip | go_guarded | go_step)
   refine (comes_any 4 V HSV.out).mono ?_
   rintro e w' ⟨rfl, rfl⟩
   rw [decide_eq_false HC4.out]
   dsimp only
   repeat (first | go_skip | go_guarded | go_step)
   refine (atom_any tn V HSV.out).mono ?_
   rintro e w2 (⟨a, s2, v, F2, ha, rfl, ⟨A, m, c, rfl, ho, hm6⟩, hs, hm⟩ | ⟨z, ha, rfl, htn⟩)
   ·
    have HA2 := Lib.hid (HSV.out.keeps hm.turn HAV.out (by decide) (by decide) (by decide))
    have HM2 := Lib.hid (HMV.out.trans hm)
    have HS2 := Lib.hid hs
    have HX := Lib.hid ha
    have HO := Lib.hid (ownBase ho HMV.out.turn.size : OwT w2 w.heap.size A c m a.2)
    have HM6 := Lib.hid hm6
    have c0 := HA2.out.readT (Below.refl _ _) 0 rfl
    have c1 := HA2.out.readT (Below.refl _ _) 1 rfl
    have c2 := HA2.out.readT (Below.refl _ _) 2 rfl
    have c3 := HA2.out.readT (Below.refl _ _) 3 rfl
    have c4 := HA2.out.readT (Below.refl _ _) 4 rfl
    have g0 := HA2.out.frozen 0
    have g1 := HA2.out.frozen 1
    have g2 := HA2.out.frozen 2
    have g3 := HA2.out.frozen 3
    have g4 := HA2.out.frozen 4
    clear ha hm hs ho hm6 k0 k1
    dsimp only
    repeat (first | go_skip | go_guarded | go_step)
    refine bodyPost_ret (v := .agg #[.bool false, .bool false, .int .u32 0, nv a.1, .slice A m c]) (results_cell_row rfl _ _ a0 _ _ _ _ rfl (sy_end HA2.out _ _ _ _ _) Tryz.underlying51 rfl (by kernel_rfl)) rfl ?_
    have htt := turn5 w2 a0 (.bool false) (.bool false) (.int .u32 0) (nv a.1) (.slice A m c)
    obtain ⟨q1, q2⟩ := HS2.out.box HM2.out HWB.out HA2.out HLE.out htt (by decide) (by decide) (by decide)
    exact .inl ⟨(false, (false, 0), a), s2, _, F2, by rw [HN.out, HX.out]; rfl, rfl, ⟨A, m, c, rfl, htt.own HO.out (fun k hk e => own_far HO.out HA2.out (by decide) (by rw [hk, e])), HM6.out⟩, q1, q2⟩
   ·
    exact ⟨rfl, .inr ⟨z, by rw [HN.out, ha]; rfl, rfl, HMV.out.endT htn⟩⟩
  ·
   have HN := Lib.hid (show sayE sz s = bindE (takeE sz [4] s1) fun _ s2 => bindE (takeE sz [1] s2) fun x s3 => bindE (numE x s3) fun i s4 => bindE (atomB sz (UInt32.ofNat i) s4) fun a s5 => .ok ((true, (tv, tn), a), s5) by rw [HY.out, if_neg hc])
   have hl : (Instr.buildSlice 91 1 #[(0, .int .u8 4)]).run Tryz.prog V = _ := run_litK1 4 V
   have HL := Lib.hid (litK_rd V [4] 1 rfl)
   have hb := (Below.refl V.heap.size V).alloc (Nat.le_refl _) (.cells ([4].map kv).toArray 5)
   have HSL := Lib.hid (HSV.out.later hb)
   have HAL := Lib.hid (HAV.out.later hb)
   have HBL := Lib.hid (HBV.out.later hb)
   have HML := Lib.hid (HMV.out.later (hb.mono HMV.out.turn.size))
   clear hb
   cases tv with
   | true =>
    clear hc
    repeat (first | go_skip | go_guarded | go_step)
    refine (take_any _ 1 1 [4] _ HSL.out HL.out (by omega) (by simp)).mono ?_
    rintro e w2 hfin
    rcases hfin with ⟨x, s2, v, F2, hx, rfl, rfl, hs, hm⟩ | ⟨z, hx, rfl, htn⟩
    case inr => exact ⟨rfl, .inr ⟨z, by rw [HN.out, hx]; rfl, rfl, HML.out.endT htn⟩⟩
    have HN2 := Lib.hid (show sayE sz s = bindE (takeE sz [1] s2) fun x s3 => bindE (numE x s3) fun i s4 => bindE (atomB sz (UInt32.ofNat i) s4) fun a s5 => .ok ((true, (true, tn), a), s5) by rw [HN.out, hx, bindE_okv])
    have HA2 := Lib.hid (HSL.out.keeps hm.turn HAL.out (by decide) (by decide) (by decide))
    have HB2 := Lib.hid (HSL.out.keeps hm.turn HBL.out (by decide) (by decide) (by decide))
    have HM2 := Lib.hid (HML.out.trans hm)
    have HS2 := Lib.hid hs
    clear hx hm hs hl k0 k1 HN
    dsimp only
    go_upto_region 5 with (fail)
    have HSW := Lib.hid (show LSt gt Ft l0 sz wb w2.drew F2 g s2 from HS2.out.later (belowDrews (Below.refl _ w2) 1))
    have HMW := Lib.hid (show Mv F F2 w w2.drew from HM2.out.later (belowDrews ((Below.refl _ w2).mono HM2.out.turn.size) 1))
    have HAW := Lib.hid (show Bk w2.drew a0 51 _ from HA2.out)
    have HBW := Lib.hid (show Bk w2.drew a1 46 [.bool true, nv tn] from HB2.out)
    have HL5 := Lib.hid (litK_rd w2.drew [1] 1 rfl)
    have hl5 : (Instr.buildSlice 91 1 #[(0, .int .u8 1)]).run Tryz.prog w2.drew = _ := run_litK1 1 w2.drew
    have hb5 : Below w2.drew.heap.size w2.drew (w2.drew.alloc (.cells ([1].map kv).toArray 5)) := (Below.refl _ _).alloc (Nat.le_refl _) _
    have HS5 := Lib.hid (HSW.out.later hb5)
    have HM5 := Lib.hid (HMW.out.later (hb5.mono HMW.out.turn.size))
    have HA5 := Lib.hid (HAW.out.later hb5)
    have HB5 := Lib.hid (HBW.out.later hb5)
    clear hb5
    refine wp_region_held_drew (S := fun V => V.cell? ⟨a1, 0, none⟩ = some (.bool true) ∧ V.cell? ⟨a1, 1, none⟩ = some (nv tn)) (by kernel_rfl) ?_ (fun hHeld => ?_)
    ·
     exact ⟨HB2.out.readT (Below.refl _ _) 0 rfl, HB2.out.readT (Below.refl _ _) 1 rfl⟩
    refine wpAnyH_take (i := 0) (oi := ?p1) (v := ?v1) ?a1 (by kernel_rfl) ?b1 ?c1 ?q1 ?y1 hHeld ?z1
    case a1 => (simp only [List.getElem?_toArray, List.getElem?_cons_succ, List.getElem?_cons_zero]; exact rfl)
    case b1 => kernel_rfl
    case c1 => kernel_rfl
    case q1 => exact fun _ _ _ h => h
    case y1 =>
     refine Or.inl ⟨by rfl, ?_⟩
     intro V hSV
     obtain ⟨z0, z1⟩ := hSV
     go_simp
     (try with_reducible rfl)
    try simp only [Act.put, List.setIfInBounds_toArray, List.set_cons_zero, List.set_cons_succ]
    refine wpAnyH_take (i := 1) (oi := ?p2) (v := ?v2) ?a2 (by kernel_rfl) ?b2 ?c2 ?q2 ?y2 hHeld ?z2
    case a2 => (simp only [List.getElem?_toArray, List.getElem?_cons_succ, List.getElem?_cons_zero]; exact rfl)
    case b2 => kernel_rfl
    case c2 => kernel_rfl
    case q2 => exact fun _ _ _ h => h
    case y2 =>
     refine Or.inl ⟨by rfl, ?_⟩
     intro V hSV
     go_simp
     (try with_reducible rfl)
    try simp only [Act.put, List.setIfInBounds_toArray, List.set_cons_zero, List.set_cons_succ]
    refine wpAnyH_take (i := 2) (oi := ?p3) (v := ?v3) ?a3 (by kernel_rfl) ?b3 ?c3 ?q3 ?y3 hHeld ?z3
    case a3 => (simp only [List.getElem?_toArray, List.getElem?_cons_succ, List.getElem?_cons_zero]; exact rfl)
    case b3 => kernel_rfl
    case c3 => kernel_rfl
    case q3 => exact fun _ _ _ h => h
    case y3 =>
     refine Or.inl ⟨by rfl, ?_⟩
     intro V hSV
     go_simp
     (try with_reducible rfl)
    try simp only [Act.put, List.setIfInBounds_toArray, List.set_cons_zero, List.set_cons_succ]
    refine wpAnyH_take (i := 3) (oi := ?p4) (v := ?v4) ?a4 (by kernel_rfl) ?b4 ?c4 ?q4 ?y4 hHeld ?z4
    case a4 => (simp only [List.getElem?_toArray, List.getElem?_cons_succ, List.getElem?_cons_zero]; exact rfl)
    case b4 => kernel_rfl
    case c4 => kernel_rfl
    case q4 => exact fun _ _ _ h => h
    case y4 =>
     refine Or.inl ⟨by rfl, ?_⟩
     intro V hSV
     go_simp
     (try with_reducible rfl)
    try simp only [Act.put, List.setIfInBounds_toArray, List.set_cons_zero, List.set_cons_succ]
    refine wpAnyH_ready (rs := [4]) (by kernel_rfl) (by simp) ?_
    refine AllReadyH.cons (o := ?od5) ?hod5 (fun K hK => ?kd5) ?md5
    case hod5 => (simp only [List.getElem?_toArray, List.getElem?_cons_succ, List.getElem?_cons_zero]; exact rfl)
    case kd5 =>
     go_simp
     refine hK.out _ _ ?_ (fun hHeld => ?_)
     ·
      exact ⟨HB5.out.readT (Below.refl _ _) 0 rfl, HB5.out.readT (Below.refl _ _) 1 rfl⟩
     clear hK K
     try simp only [Act.put, List.setIfInBounds_toArray, List.set_cons_zero, List.set_cons_succ]
     refine wpAnyH_ready (rs := [5]) (by kernel_rfl) (by simp) ?_
     refine AllReadyH.cons (o := ?od6) ?hod6 (fun K hK => ?kd6) ?md6
     case hod6 => (simp only [List.getElem?_toArray, List.getElem?_cons_succ, List.getElem?_cons_zero]; exact rfl)
     case kd6 =>
      go_simp
      refine (take_any _ 1 1 [1] _ HS5.out HL5.out (by omega) (by simp)).mono ?_
      rintro e w3 hfin
      rcases hfin with ⟨x3, s3, v, F3, hx, rfl, rfl, hs, hm⟩ | ⟨z, hx, rfl, htn⟩
      case inr => exact ⟨rfl, .inr ⟨z, by rw [HN2.out, hx]; rfl, rfl, HM5.out.endT htn⟩⟩
      have HNM3 := Lib.hid ((gs_take HS5.out.gs hx).2.1 (by have h3 := (gs_take HS5.out.gs hx).2.2; simpa using h3))
      have HN3 := Lib.hid (show sayE sz s = bindE (numE x3 s3) fun i s4 => bindE (atomB sz (UInt32.ofNat i) s4) fun a s5 => .ok ((true, (true, tn), a), s5) by rw [HN2.out, hx, bindE_okv])
      have HA6 := Lib.hid (HS5.out.keeps hm.turn HA5.out (by decide) (by decide) (by decide))
      have HB6 := Lib.hid (HS5.out.keeps hm.turn HB5.out (by decide) (by decide) (by decide))
      have HM6 := Lib.hid (HM5.out.trans hm)
      have HS6 := Lib.hid hs
      clear hx hm hs hl5
      (try dsimp only)
      refine hK.out _ _ ?_ (fun hHeld => ?_)
      ·
       exact ⟨HB6.out.readT (Below.refl _ _) 0 rfl, HB6.out.readT (Below.refl _ _) 1 rfl⟩
      clear hK K
      try simp only [Act.put, List.setIfInBounds_toArray, List.set_cons_zero, List.set_cons_succ]
      refine wpAnyH_ready (rs := [6]) (by kernel_rfl) (by simp) ?_
      refine AllReadyH.cons (o := ?od7) ?hod7 (fun K hK => ?kd7) ?md7
      case hod7 => (simp only [List.getElem?_toArray, List.getElem?_cons_succ, List.getElem?_cons_zero]; exact rfl)
      case kd7 =>
       go_simp
       refine (number_any x3 w3 HS6.out HNM3.out).mono ?_
       rintro e w4 hfin
       rcases hfin with ⟨i4, s4, v, F4, hx, rfl, ⟨rfl, hi4⟩, hs, hm⟩ | ⟨z, hx, rfl, htn⟩
       case inr => exact ⟨rfl, .inr ⟨z, by rw [HN3.out, hx]; rfl, rfl, HM6.out.endT htn⟩⟩
       have HN4 := Lib.hid (show sayE sz s = bindE (atomB sz (UInt32.ofNat i4) s4) fun a s5 => .ok ((true, (true, tn), a), s5) by rw [HN3.out, hx, bindE_okv])
       have HA7 := Lib.hid (HS6.out.keeps hm.turn HA6.out (by decide) (by decide) (by decide))
       have HB7 := Lib.hid (HS6.out.keeps hm.turn HB6.out (by decide) (by decide) (by decide))
       have HM7 := Lib.hid (HM6.out.trans hm)
       have HS7 := Lib.hid hs
       clear hx hm hs hi4
       (try dsimp only)
       refine hK.out _ _ ?_ (fun hHeld => ?_)
       ·
        exact ⟨HB7.out.readT (Below.refl _ _) 0 rfl, HB7.out.readT (Below.refl _ _) 1 rfl⟩
       clear hK K
       try simp only [Act.put, List.setIfInBounds_toArray, List.set_cons_zero, List.set_cons_succ]
       refine wpAnyH_ready (rs := [7]) (by kernel_rfl) (by simp) ?_
       refine AllReadyH.cons (o := ?od8) ?hod8 (fun K hK => ?kd8) ?md8
       case hod8 => (simp only [List.getElem?_toArray, List.getElem?_cons_succ, List.getElem?_cons_zero]; exact rfl)
       case kd8 =>
        go_simp
        refine (atom_any (UInt32.ofNat i4) w4 HS7.out).mono ?_
        rintro e w5 hfin
        rcases hfin with ⟨a, s5, v, F5, hx, rfl, ⟨A, m, c, rfl, ho, hm6⟩, hs, hm⟩ | ⟨z, hx, rfl, htn⟩
        case inr => exact ⟨rfl, .inr ⟨z, by rw [HN4.out, hx]; rfl, rfl, HM7.out.endT htn⟩⟩
        have HN5 := Lib.hid (show sayE sz s = .ok ((true, (true, tn), a), s5) by rw [HN4.out, hx, bindE_okv])
        have HA8 := Lib.hid (HS7.out.keeps hm.turn HA7.out (by decide) (by decide) (by decide))
        have HB8 := Lib.hid (HS7.out.keeps hm.turn HB7.out (by decide) (by decide) (by decide))
        have HO8 := Lib.hid (ownBase ho HM7.out.turn.size : OwT w5 w.heap.size A c m a.2)
        have HM8 := Lib.hid (HM7.out.trans hm)
        have HS8 := Lib.hid hs
        have HMM := Lib.hid hm6
        have c0 := HA8.out.readT (Below.refl _ _) 0 rfl
        have c1 := HA8.out.readT (Below.refl _ _) 1 rfl
        have c2 := HA8.out.readT (Below.refl _ _) 2 rfl
        have c3 := HA8.out.readT (Below.refl _ _) 3 rfl
        have c4 := HA8.out.readT (Below.refl _ _) 4 rfl
        have g0 := HA8.out.frozen 0
        have g1 := HA8.out.frozen 1
        have g2 := HA8.out.frozen 2
        have g3 := HA8.out.frozen 3
        have g4 := HA8.out.frozen 4
        clear hx hm hs ho hm6
        (try dsimp only)
        refine hK.out _ _ ?_ (fun hHeld => ?_)
        ·
         exact ⟨HB8.out.readT (Below.refl _ _) 0 rfl, HB8.out.readT (Below.refl _ _) 1 rfl⟩
        clear hK K
        try simp only [Act.put, List.setIfInBounds_toArray, List.set_cons_zero, List.set_cons_succ]
        refine wpAnyH_take (i := 8) (oi := ?p9) (v := ?v9) ?a9 (by kernel_rfl) ?b9 ?c9 ?q9 ?y9 hHeld ?z9
        case a9 => (simp only [List.getElem?_toArray, List.getElem?_cons_succ, List.getElem?_cons_zero]; exact rfl)
        case b9 => kernel_rfl
        case c9 => kernel_rfl
        case q9 => exact fun _ _ _ h => h
        case y9 =>
         refine Or.inl ⟨by rfl, ?_⟩
         intro V hSV
         go_simp
         (try with_reducible rfl)
        try simp only [Act.put, List.setIfInBounds_toArray, List.set_cons_zero, List.set_cons_succ]
        refine wpAnyH_ready (rs := [9]) (by kernel_rfl) (by simp) ?_
        refine AllReadyH.cons (o := ?od10) ?hod10 (fun K hK => ?kd10) ?md10
        case hod10 => (simp only [List.getElem?_toArray, List.getElem?_cons_succ, List.getElem?_cons_zero]; exact rfl)
        case kd10 =>
         go_simp
         have htt := turn5 w5 a0 (.bool true) (.bool true) (nv tn) (nv a.1) (.slice A m c)
         have hbe := sy_end HA8.out (.bool true) (.bool true) (nv tn) (nv a.1) (.slice A m c)
         have HB9 := Lib.hid (htt.bk HB8.out (fun e => by subst e; have := HA8.out.symm.trans HB8.out; simp only [Option.some.injEq, Obj.cells.injEq] at this; exact absurd this.2.1 (by decide)))
         obtain ⟨q1, q2⟩ := HS8.out.box HM8.out HWB.out HA8.out HLE.out htt (by decide) (by decide) (by decide)
         have ho9 := htt.own HO8.out (fun k hk e => own_far HO8.out HA8.out (by decide) (by rw [hk, e]))
         generalize (((((w5.setCell ⟨a0, 0, none⟩ (.bool true)).setCell ⟨a0, 1, none⟩ (.bool true)).setCell ⟨a0, 2, none⟩ (nv tn)).setCell ⟨a0, 3, none⟩ (nv a.1)).setCell ⟨a0, 4, none⟩ (.slice A m c)) = Z9 at htt hbe HB9 q1 q2 ho9 ⊢
         have HBE := Lib.hid hbe
         have HS9 := Lib.hid q1
         have HM9 := Lib.hid q2
         have HO9 := Lib.hid ho9
         clear htt hbe q1 q2 ho9 c0 c1 c2 c3 c4 g0 g1 g2 g3 g4
         refine hK.out _ _ ?_ (fun hHeld => ?_)
         ·
          exact ⟨HB9.out.readT (Below.refl _ _) 0 rfl, HB9.out.readT (Below.refl _ _) 1 rfl⟩
         clear hK K
         try simp only [Act.put, List.setIfInBounds_toArray, List.set_cons_zero, List.set_cons_succ]
         refine wpAnyH_done (by kernel_rfl) ?_ _
         clear hHeld
         repeat (first | go_skip | go_guarded | go_step)
         refine bodyPost_ret (v := .agg #[.bool true, .bool true, nv tn, nv a.1, .slice A m c]) (results_cell_row rfl _ _ a0 _ _ _ _ rfl HBE.out Tryz.underlying51 rfl (by kernel_rfl)) rfl ?_
         exact .inl ⟨(true, (true, tn), a), s5, _, F5, HN5.out, rfl, ⟨A, m, c, rfl, HO9.out, HMM.out⟩, HS9.out, HM9.out⟩
        exact AllReadyH.nil
       exact AllReadyH.nil
      exact AllReadyH.nil
     exact AllReadyH.nil
    exact AllReadyH.nil
   | false =>
    have HC4 := Lib.hid (show kindE s1.1 = 4 from Classical.byContradiction fun e => hc ⟨rfl, e⟩)
    clear hc
    repeat (first | go_skip | go_guarded | go_step)
    refine (comes_any 4 V HSV.out).mono ?_
    rintro e w' ⟨rfl, rfl⟩
    rw [decide_eq_true HC4.out]
    dsimp only
    repeat (first | go_skip | go_guarded | go_step)
    refine (take_any _ 1 1 [4] _ HSL.out HL.out (by omega) (by simp)).mono ?_
    rintro e w2 hfin
    rcases hfin with ⟨x, s2, v, F2, hx, rfl, rfl, hs, hm⟩ | ⟨z, hx, rfl, htn⟩
    case inr => exact ⟨rfl, .inr ⟨z, by rw [HN.out, hx]; rfl, rfl, HML.out.endT htn⟩⟩
    have HN2 := Lib.hid (show sayE sz s = bindE (takeE sz [1] s2) fun x s3 => bindE (numE x s3) fun i s4 => bindE (atomB sz (UInt32.ofNat i) s4) fun a s5 => .ok ((true, (false, tn), a), s5) by rw [HN.out, hx, bindE_okv])
    have HA2 := Lib.hid (HSL.out.keeps hm.turn HAL.out (by decide) (by decide) (by decide))
    have HB2 := Lib.hid (HSL.out.keeps hm.turn HBL.out (by decide) (by decide) (by decide))
    have HM2 := Lib.hid (HML.out.trans hm)
    have HS2 := Lib.hid hs
    clear hx hm hs hl k0 k1 HN
    dsimp only
    go_upto_region 5 with (fail)
    have HSW := Lib.hid (show LSt gt Ft l0 sz wb w2.drew F2 g s2 from HS2.out.later (belowDrews (Below.refl _ w2) 1))
    have HMW := Lib.hid (show Mv F F2 w w2.drew from HM2.out.later (belowDrews ((Below.refl _ w2).mono HM2.out.turn.size) 1))
    have HAW := Lib.hid (show Bk w2.drew a0 51 _ from HA2.out)
    have HBW := Lib.hid (show Bk w2.drew a1 46 [.bool false, nv tn] from HB2.out)
    have HL5 := Lib.hid (litK_rd w2.drew [1] 1 rfl)
    have hl5 : (Instr.buildSlice 91 1 #[(0, .int .u8 1)]).run Tryz.prog w2.drew = _ := run_litK1 1 w2.drew
    have hb5 : Below w2.drew.heap.size w2.drew (w2.drew.alloc (.cells ([1].map kv).toArray 5)) := (Below.refl _ _).alloc (Nat.le_refl _) _
    have HS5 := Lib.hid (HSW.out.later hb5)
    have HM5 := Lib.hid (HMW.out.later (hb5.mono HMW.out.turn.size))
    have HA5 := Lib.hid (HAW.out.later hb5)
    have HB5 := Lib.hid (HBW.out.later hb5)
    clear hb5
    refine wp_region_held_drew (S := fun V => V.cell? ⟨a1, 0, none⟩ = some (.bool false) ∧ V.cell? ⟨a1, 1, none⟩ = some (nv tn)) (by kernel_rfl) ?_ (fun hHeld => ?_)
    ·
     exact ⟨HB2.out.readT (Below.refl _ _) 0 rfl, HB2.out.readT (Below.refl _ _) 1 rfl⟩
    refine wpAnyH_take (i := 0) (oi := ?p11) (v := ?v11) ?a11 (by kernel_rfl) ?b11 ?c11 ?q11 ?y11 hHeld ?z11
    case a11 => (simp only [List.getElem?_toArray, List.getElem?_cons_succ, List.getElem?_cons_zero]; exact rfl)
    case b11 => kernel_rfl
    case c11 => kernel_rfl
    case q11 => exact fun _ _ _ h => h
    case y11 =>
     refine Or.inl ⟨by rfl, ?_⟩
     intro V hSV
     obtain ⟨z0, z1⟩ := hSV
     go_simp
     (try with_reducible rfl)
    try simp only [Act.put, List.setIfInBounds_toArray, List.set_cons_zero, List.set_cons_succ]
    refine wpAnyH_take (i := 1) (oi := ?p12) (v := ?v12) ?a12 (by kernel_rfl) ?b12 ?c12 ?q12 ?y12 hHeld ?z12
    case a12 => (simp only [List.getElem?_toArray, List.getElem?_cons_succ, List.getElem?_cons_zero]; exact rfl)
    case b12 => kernel_rfl
    case c12 => kernel_rfl
    case q12 => exact fun _ _ _ h => h
    case y12 =>
     refine Or.inl ⟨by rfl, ?_⟩
     intro V hSV
     go_simp
     (try with_reducible rfl)
    try simp only [Act.put, List.setIfInBounds_toArray, List.set_cons_zero, List.set_cons_succ]
    refine wpAnyH_take (i := 2) (oi := ?p13) (v := ?v13) ?a13 (by kernel_rfl) ?b13 ?c13 ?q13 ?y13 hHeld ?z13
    case a13 => (simp only [List.getElem?_toArray, List.getElem?_cons_succ, List.getElem?_cons_zero]; exact rfl)
    case b13 => kernel_rfl
    case c13 => kernel_rfl
    case q13 => exact fun _ _ _ h => h
    case y13 =>
     refine Or.inl ⟨by rfl, ?_⟩
     intro V hSV
     go_simp
     (try with_reducible rfl)
    try simp only [Act.put, List.setIfInBounds_toArray, List.set_cons_zero, List.set_cons_succ]
    refine wpAnyH_take (i := 3) (oi := ?p14) (v := ?v14) ?a14 (by kernel_rfl) ?b14 ?c14 ?q14 ?y14 hHeld ?z14
    case a14 => (simp only [List.getElem?_toArray, List.getElem?_cons_succ, List.getElem?_cons_zero]; exact rfl)
    case b14 => kernel_rfl
    case c14 => kernel_rfl
    case q14 => exact fun _ _ _ h => h
    case y14 =>
     refine Or.inl ⟨by rfl, ?_⟩
     intro V hSV
     go_simp
     (try with_reducible rfl)
    try simp only [Act.put, List.setIfInBounds_toArray, List.set_cons_zero, List.set_cons_succ]
    refine wpAnyH_ready (rs := [4]) (by kernel_rfl) (by simp) ?_
    refine AllReadyH.cons (o := ?od15) ?hod15 (fun K hK => ?kd15) ?md15
    case hod15 => (simp only [List.getElem?_toArray, List.getElem?_cons_succ, List.getElem?_cons_zero]; exact rfl)
    case kd15 =>
     go_simp
     refine hK.out _ _ ?_ (fun hHeld => ?_)
     ·
      exact ⟨HB5.out.readT (Below.refl _ _) 0 rfl, HB5.out.readT (Below.refl _ _) 1 rfl⟩
     clear hK K
     try simp only [Act.put, List.setIfInBounds_toArray, List.set_cons_zero, List.set_cons_succ]
     refine wpAnyH_ready (rs := [5]) (by kernel_rfl) (by simp) ?_
     refine AllReadyH.cons (o := ?od16) ?hod16 (fun K hK => ?kd16) ?md16
     case hod16 => (simp only [List.getElem?_toArray, List.getElem?_cons_succ, List.getElem?_cons_zero]; exact rfl)
     case kd16 =>
      go_simp
      refine (take_any _ 1 1 [1] _ HS5.out HL5.out (by omega) (by simp)).mono ?_
      rintro e w3 hfin
      rcases hfin with ⟨x3, s3, v, F3, hx, rfl, rfl, hs, hm⟩ | ⟨z, hx, rfl, htn⟩
      case inr => exact ⟨rfl, .inr ⟨z, by rw [HN2.out, hx]; rfl, rfl, HM5.out.endT htn⟩⟩
      have HNM3 := Lib.hid ((gs_take HS5.out.gs hx).2.1 (by have h3 := (gs_take HS5.out.gs hx).2.2; simpa using h3))
      have HN3 := Lib.hid (show sayE sz s = bindE (numE x3 s3) fun i s4 => bindE (atomB sz (UInt32.ofNat i) s4) fun a s5 => .ok ((true, (false, tn), a), s5) by rw [HN2.out, hx, bindE_okv])
      have HA6 := Lib.hid (HS5.out.keeps hm.turn HA5.out (by decide) (by decide) (by decide))
      have HB6 := Lib.hid (HS5.out.keeps hm.turn HB5.out (by decide) (by decide) (by decide))
      have HM6 := Lib.hid (HM5.out.trans hm)
      have HS6 := Lib.hid hs
      clear hx hm hs hl5
      (try dsimp only)
      refine hK.out _ _ ?_ (fun hHeld => ?_)
      ·
       exact ⟨HB6.out.readT (Below.refl _ _) 0 rfl, HB6.out.readT (Below.refl _ _) 1 rfl⟩
      clear hK K
      try simp only [Act.put, List.setIfInBounds_toArray, List.set_cons_zero, List.set_cons_succ]
      refine wpAnyH_ready (rs := [6]) (by kernel_rfl) (by simp) ?_
      refine AllReadyH.cons (o := ?od17) ?hod17 (fun K hK => ?kd17) ?md17
      case hod17 => (simp only [List.getElem?_toArray, List.getElem?_cons_succ, List.getElem?_cons_zero]; exact rfl)
      case kd17 =>
       go_simp
       refine (number_any x3 w3 HS6.out HNM3.out).mono ?_
       rintro e w4 hfin
       rcases hfin with ⟨i4, s4, v, F4, hx, rfl, ⟨rfl, hi4⟩, hs, hm⟩ | ⟨z, hx, rfl, htn⟩
       case inr => exact ⟨rfl, .inr ⟨z, by rw [HN3.out, hx]; rfl, rfl, HM6.out.endT htn⟩⟩
       have HN4 := Lib.hid (show sayE sz s = bindE (atomB sz (UInt32.ofNat i4) s4) fun a s5 => .ok ((true, (false, tn), a), s5) by rw [HN3.out, hx, bindE_okv])
       have HA7 := Lib.hid (HS6.out.keeps hm.turn HA6.out (by decide) (by decide) (by decide))
       have HB7 := Lib.hid (HS6.out.keeps hm.turn HB6.out (by decide) (by decide) (by decide))
       have HM7 := Lib.hid (HM6.out.trans hm)
       have HS7 := Lib.hid hs
       clear hx hm hs hi4
       (try dsimp only)
       refine hK.out _ _ ?_ (fun hHeld => ?_)
       ·
        exact ⟨HB7.out.readT (Below.refl _ _) 0 rfl, HB7.out.readT (Below.refl _ _) 1 rfl⟩
       clear hK K
       try simp only [Act.put, List.setIfInBounds_toArray, List.set_cons_zero, List.set_cons_succ]
       refine wpAnyH_ready (rs := [7]) (by kernel_rfl) (by simp) ?_
       refine AllReadyH.cons (o := ?od18) ?hod18 (fun K hK => ?kd18) ?md18
       case hod18 => (simp only [List.getElem?_toArray, List.getElem?_cons_succ, List.getElem?_cons_zero]; exact rfl)
       case kd18 =>
        go_simp
        refine (atom_any (UInt32.ofNat i4) w4 HS7.out).mono ?_
        rintro e w5 hfin
        rcases hfin with ⟨a, s5, v, F5, hx, rfl, ⟨A, m, c, rfl, ho, hm6⟩, hs, hm⟩ | ⟨z, hx, rfl, htn⟩
        case inr => exact ⟨rfl, .inr ⟨z, by rw [HN4.out, hx]; rfl, rfl, HM7.out.endT htn⟩⟩
        have HN5 := Lib.hid (show sayE sz s = .ok ((true, (false, tn), a), s5) by rw [HN4.out, hx, bindE_okv])
        have HA8 := Lib.hid (HS7.out.keeps hm.turn HA7.out (by decide) (by decide) (by decide))
        have HB8 := Lib.hid (HS7.out.keeps hm.turn HB7.out (by decide) (by decide) (by decide))
        have HO8 := Lib.hid (ownBase ho HM7.out.turn.size : OwT w5 w.heap.size A c m a.2)
        have HM8 := Lib.hid (HM7.out.trans hm)
        have HS8 := Lib.hid hs
        have HMM := Lib.hid hm6
        have c0 := HA8.out.readT (Below.refl _ _) 0 rfl
        have c1 := HA8.out.readT (Below.refl _ _) 1 rfl
        have c2 := HA8.out.readT (Below.refl _ _) 2 rfl
        have c3 := HA8.out.readT (Below.refl _ _) 3 rfl
        have c4 := HA8.out.readT (Below.refl _ _) 4 rfl
        have g0 := HA8.out.frozen 0
        have g1 := HA8.out.frozen 1
        have g2 := HA8.out.frozen 2
        have g3 := HA8.out.frozen 3
        have g4 := HA8.out.frozen 4
        clear hx hm hs ho hm6
        (try dsimp only)
        refine hK.out _ _ ?_ (fun hHeld => ?_)
        ·
         exact ⟨HB8.out.readT (Below.refl _ _) 0 rfl, HB8.out.readT (Below.refl _ _) 1 rfl⟩
        clear hK K
        try simp only [Act.put, List.setIfInBounds_toArray, List.set_cons_zero, List.set_cons_succ]
        refine wpAnyH_take (i := 8) (oi := ?p19) (v := ?v19) ?a19 (by kernel_rfl) ?b19 ?c19 ?q19 ?y19 hHeld ?z19
        case a19 => (simp only [List.getElem?_toArray, List.getElem?_cons_succ, List.getElem?_cons_zero]; exact rfl)
        case b19 => kernel_rfl
        case c19 => kernel_rfl
        case q19 => exact fun _ _ _ h => h
        case y19 =>
         refine Or.inl ⟨by rfl, ?_⟩
         intro V hSV
         go_simp
         (try with_reducible rfl)
        try simp only [Act.put, List.setIfInBounds_toArray, List.set_cons_zero, List.set_cons_succ]
        refine wpAnyH_ready (rs := [9]) (by kernel_rfl) (by simp) ?_
        refine AllReadyH.cons (o := ?od20) ?hod20 (fun K hK => ?kd20) ?md20
        case hod20 => (simp only [List.getElem?_toArray, List.getElem?_cons_succ, List.getElem?_cons_zero]; exact rfl)
        case kd20 =>
         go_simp
         have htt := turn5 w5 a0 (.bool true) (.bool false) (nv tn) (nv a.1) (.slice A m c)
         have hbe := sy_end HA8.out (.bool true) (.bool false) (nv tn) (nv a.1) (.slice A m c)
         have HB9 := Lib.hid (htt.bk HB8.out (fun e => by subst e; have := HA8.out.symm.trans HB8.out; simp only [Option.some.injEq, Obj.cells.injEq] at this; exact absurd this.2.1 (by decide)))
         obtain ⟨q1, q2⟩ := HS8.out.box HM8.out HWB.out HA8.out HLE.out htt (by decide) (by decide) (by decide)
         have ho9 := htt.own HO8.out (fun k hk e => own_far HO8.out HA8.out (by decide) (by rw [hk, e]))
         generalize (((((w5.setCell ⟨a0, 0, none⟩ (.bool true)).setCell ⟨a0, 1, none⟩ (.bool false)).setCell ⟨a0, 2, none⟩ (nv tn)).setCell ⟨a0, 3, none⟩ (nv a.1)).setCell ⟨a0, 4, none⟩ (.slice A m c)) = Z9 at htt hbe HB9 q1 q2 ho9 ⊢
         have HBE := Lib.hid hbe
         have HS9 := Lib.hid q1
         have HM9 := Lib.hid q2
         have HO9 := Lib.hid ho9
         clear htt hbe q1 q2 ho9 c0 c1 c2 c3 c4 g0 g1 g2 g3 g4
         refine hK.out _ _ ?_ (fun hHeld => ?_)
         ·
          exact ⟨HB9.out.readT (Below.refl _ _) 0 rfl, HB9.out.readT (Below.refl _ _) 1 rfl⟩
         clear hK K
         try simp only [Act.put, List.setIfInBounds_toArray, List.set_cons_zero, List.set_cons_succ]
         refine wpAnyH_done (by kernel_rfl) ?_ _
         clear hHeld
         repeat (first | go_skip | go_guarded | go_step)
         refine bodyPost_ret (v := .agg #[.bool true, .bool false, nv tn, nv a.1, .slice A m c]) (results_cell_row rfl _ _ a0 _ _ _ _ rfl HBE.out Tryz.underlying51 rfl (by kernel_rfl)) rfl ?_
         exact .inl ⟨(true, (false, tn), a), s5, _, F5, HN5.out, rfl, ⟨A, m, c, rfl, HO9.out, HMM.out⟩, HS9.out, HM9.out⟩
        exact AllReadyH.nil
       exact AllReadyH.nil
      exact AllReadyH.nil
     exact AllReadyH.nil
    exact AllReadyH.nil
 ·
  exact ⟨rfl, .inr ⟨z, by rw [HSE.out, ht]; rfl, rfl, (Mv.ofBelow (F := F) HU.out).endT htn⟩⟩
end
end Go.Proofs.YtoigpbajefkpoaaGreatDoor

