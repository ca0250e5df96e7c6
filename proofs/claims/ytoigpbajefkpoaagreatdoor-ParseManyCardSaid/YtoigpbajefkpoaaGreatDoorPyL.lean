/- Texts, packed: PbD -/
import Derived.Test.YtoigpbajefkpoaaGreatDoorPyK
import Derived.Test.YtoigpbajefkpoaaGreatDoorPyG
set_option linter.unusedVariables false
set_option linter.unusedSimpArgs false
namespace Go.Proofs.YtoigpbajefkpoaaGreatDoor
open Go Go.RowKit

theorem bindE_okv {α β : Type} (x : α) (s : PS) (f : α → PS → Except PE (β × PS)) : bindE (.ok (x, s)) f = f x s := rfl
/-- So many terms with commas between. -/
def termsE (sz : Nat) : Nat → List Tm → PS → Except PE (List Tm × PS)
  | 0, _, _ => .error (0, 0)
  | n + 1, acc, s =>
    if acc.length = 6 ∧ (kindE s.1 = 1 ∨ kindE s.1 = 2) then .error (6, placeE sz s.1) else
    bindE (termE sz s) fun t s1 => if kindE s1.1 = 7 then termsE sz n (acc ++ [t]) (nextE s1) else .ok (acc ++ [t], s1)
theorem args_terms (sz : Nat) : ∀ (n : Nat) (acc : List Tm) (s : PS), argsE sz n acc s = bindE (termsE sz n acc s) fun l s1 => bindE (wordE sz 6 s1) fun _ s2 => .ok (l, s2)
  | 0, acc, s => rfl
  | n + 1, acc, s => by
    rw [argsE, termsE]
    split
    · rfl
    · cases termE sz s with
      | error z => rfl
      | ok z =>
        obtain ⟨t, s1⟩ := z
        show (if kindE s1.1 = 7 then _ else _) = bindE (if kindE s1.1 = 7 then _ else _) _
        split
        · exact args_terms sz n _ _
        · rfl
theorem takeE_word {sz k : Nat} {s : PS} : wordE sz k s = bindE (takeE sz [k] s) fun x s1 => .ok (⟨x.2.1.toArray⟩, s1) := by
  unfold wordE takeE
  by_cases h : kindE s.1 = k
  · rw [if_pos h, if_pos (show kindE s.1 ∈ [k] by simp [h])]
    simp only [bindE]
    rw [hdE_tx]
  · rw [if_neg h, if_neg (show ¬ kindE s.1 ∈ [k] by simp [h])]
    rfl
section
variable {gt : Nat} {Ft : Nat → Prop} {l0 : List ByteArray} {sz wb : Nat} {F F2 : Nat → Prop} {g : Nat} {s s2 : PS} {w w2 Z : World}
/-- A box that is new since the call began turns. -/
theorem LSt.box {a0 : Nat} {t : TypeId} {cs : List Value} (h : LSt gt Ft l0 sz wb w2 F2 g s2) (hm : Mv F F2 w w2) (hw : wb < w.heap.size) (hb : Bk w2 a0 t cs) (ha : w.heap.size ≤ a0) (ht : Turn (fun k => k = a0) w2 Z) (h1 : t ≠ LT) (h2 : t ≠ LTab) (h3 : t ≠ 9) : LSt gt Ft l0 sz wb Z F2 g s2 ∧ Mv F F2 w Z :=
  ⟨h.only hb ht h1 h2 h3 (by omega), hm.later (ht.below (fun k _ e => by omega) hm.turn.size)⟩
theorem turn2 (w : World) (a : Nat) (x y : Value) : Turn (fun k => k = a) w ((w.setCell ⟨a, 0, none⟩ x).setCell ⟨a, 1, none⟩ y) := ((Turn.refl (fun k => k = a) w).setCell (p := ⟨a, 0, none⟩) (fun _ => rfl) _).setCell (p := ⟨a, 1, none⟩) (fun _ => rfl) _
theorem tm_end {w : World} {r : Nat} {x0 x1 : Value} (h : Bk w r 46 [x0, x1]) (u v : Value) : Bk ((w.setCell ⟨r, 0, none⟩ u).setCell ⟨r, 1, none⟩ v) r 46 [u, v] := (h.set_ 0 u).set_ 1 v
set_option maxRecDepth 100000 in
set_option maxHeartbeats 4000000 in
theorem term_any (w : World) (h : LSt gt Ft l0 sz wb w F g s) :
    Calls Tryz.prog 100 #[.pointer (some ⟨g, 0, none⟩)] w fun e w' => Fin gt Ft l0 sz wb F g w (termE sz s) (fun tm v _ => v = .agg #[.bool tm.1, nv tm.2]) e w' := by
  have H := Lib.hid h
  have HTE := Lib.hid (term_eq sz s)
  clear h
  go_enter Tryz.func100, Tryz.ntmps100
  go_upto_region 1 with (fail)
  obtain ⟨U, a0, hU, hub, ha0, hb0⟩ : ∃ U a0, U = w.alloc (.cells #[.bool false, .int .u32 0] 46) ∧ Below w.heap.size w U ∧ w.heap.size = a0 ∧ Bk U a0 46 [.bool false, .int .u32 0] := ⟨_, _, rfl, (Below.refl _ _).alloc (Nat.le_refl _) _, rfl, Bk.new w _ _⟩
  rw [← hU, ha0]
  have HA0 := Lib.hid ha0
  have hl : (Instr.buildSlice 91 2 #[(0, .int .u8 1), (1, .int .u8 2)]).run Tryz.prog U = _ := run_litK2 1 2 U
  have HL := Lib.hid (litK_rd U [1, 2] 2 rfl)
  have hb := (Below.refl U.heap.size U).alloc (Nat.le_refl _) (.cells ([1, 2].map kv).toArray 5)
  have HB := Lib.hid (hub.trans (hb.mono hub.size))
  have HS := Lib.hid (H.out.later HB.out)
  have HA := Lib.hid (hb0.later hb)
  clear hU hub ha0 hb0 hb
  repeat (first | go_skip | go_guarded | go_step)
  refine (take_any _ 2 2 [1, 2] _ HS.out HL.out (by omega) (by simp)).mono ?_
  rintro e w1 (⟨x, s1, v, F1, hx, rfl, rfl, hs, hm⟩ | ⟨z, hx, rfl, ht⟩)
  · have HX := Lib.hid hx
    have hgs := gs_take H.out.gs hx
    have HGS := Lib.hid hgs
    have HA1 := Lib.hid (HS.out.keeps hm.turn HA.out (by decide) (by decide) (by decide))
    have HM1 := Lib.hid ((Mv.ofBelow (F := F) HB.out).trans hm)
    have HS1 := Lib.hid hs
    clear hx hgs hs hm hl
    dsimp only
    go_upto_region 2 with (fail)
    obtain ⟨V, a1, hV, hv, ha1, hb1⟩ : ∃ V a1, V = w1.alloc (.cells #[.int .u8 (x.1 : Int), strV x.2.1, .int .i64 (x.2.2 : Int)] LW) ∧ Below w1.heap.size w1 V ∧ w1.heap.size = a1 ∧ Bk V a1 LW [.int .u8 (x.1 : Int), strV x.2.1, .int .i64 (x.2.2 : Int)] := ⟨_, _, rfl, (Below.refl _ _).alloc (Nat.le_refl _) _, rfl, Bk.new w1 _ _⟩
    rw [← hV, ha1]
    have HS2 := Lib.hid (HS1.out.later hv)
    have HM2 := Lib.hid (HM1.out.later (hv.mono HM1.out.turn.size))
    have HA2 := Lib.hid (HA1.out.later hv)
    have k0 := hb1.readT (Below.refl _ _) 0 rfl
    have k1 := hb1.readT (Below.refl _ _) 1 rfl
    have k2 := hb1.readT (Below.refl _ _) 2 rfl
    clear hV hv ha1 hb1
    have HWB := Lib.hid H.out.wlt
    have HLE := Lib.hid (show w.heap.size ≤ a0 by rw [HA0.out]; exact Nat.le_refl _)
    by_cases hk : x.1 = 2
    · have hd : ((x.1 : Int) == 2) = true := by rw [hk]; rfl
      have HR := Lib.hid (show termE sz s = bindE (varE x s1) fun i s2 => .ok ((true, UInt32.ofNat i), s2) by rw [HTE.out, HX.out]; show (if x.1 = 2 then _ else _) = _; rw [if_pos hk])
      clear hk
      repeat (first | go_skip | go_guarded | go_step)
      refine (variable_any x V HS2.out).mono ?_
      rintro e w2 (⟨i, s2, v, F2, hi, rfl, ⟨rfl, hi16⟩, hs, hm⟩ | ⟨z, hi, rfl, ht⟩)
      · have HA3 := Lib.hid (HS2.out.keeps hm.turn HA2.out (by decide) (by decide) (by decide))
        have HM3 := Lib.hid (HM2.out.trans hm)
        have HS3 := Lib.hid hs
        have HI := Lib.hid hi
        have c0 := HA3.out.readT (Below.refl _ _) 0 rfl
        have c1 := HA3.out.readT (Below.refl _ _) 1 rfl
        have g0 := HA3.out.frozen 0
        have g1 := HA3.out.frozen 1
        clear hm hs hi k0 k1 k2
        dsimp only
        repeat (first | go_skip | go_guarded | go_step)
        refine bodyPost_ret (v := .agg #[.bool true, nv (UInt32.ofNat i)]) (results_cell_row rfl _ _ a0 _ _ _ _ rfl (tm_end HA3.out _ _) Tryz.underlying46 rfl (by kernel_rfl)) rfl ?_
        obtain ⟨q1, q2⟩ := HS3.out.box HM3.out HWB.out HA3.out HLE.out (turn2 w2 a0 (.bool true) (nv (UInt32.ofNat i))) (by decide) (by decide) (by decide)
        exact .inl ⟨(true, UInt32.ofNat i), s2, _, F2, by rw [HR.out, HI.out]; rfl, rfl, rfl, q1, q2⟩
      · exact ⟨rfl, .inr ⟨z, by rw [HR.out, hi]; rfl, rfl, HM2.out.endT ht⟩⟩
    · have hd : ((x.1 : Int) == 2) = false := by simp; omega
      have HR := Lib.hid (show termE sz s = bindE (numE x s1) fun i s2 => .ok ((false, UInt32.ofNat i), s2) by rw [HTE.out, HX.out]; show (if x.1 = 2 then _ else _) = _; rw [if_neg hk])
      have HNM := Lib.hid (HGS.out.2.1 (by have h3 := HGS.out.2.2; simp at h3; omega))
      clear hk
      repeat (first | go_skip | go_guarded | go_step)
      refine (number_any x V HS2.out HNM.out).mono ?_
      rintro e w2 (⟨i, s2, v, F2, hi, rfl, ⟨rfl, hi16⟩, hs, hm⟩ | ⟨z, hi, rfl, ht⟩)
      · have HA3 := Lib.hid (HS2.out.keeps hm.turn HA2.out (by decide) (by decide) (by decide))
        have HM3 := Lib.hid (HM2.out.trans hm)
        have HS3 := Lib.hid hs
        have HI := Lib.hid hi
        have c0 := HA3.out.readT (Below.refl _ _) 0 rfl
        have c1 := HA3.out.readT (Below.refl _ _) 1 rfl
        have g0 := HA3.out.frozen 0
        have g1 := HA3.out.frozen 1
        clear hm hs hi k0 k1 k2
        dsimp only
        repeat (first | go_skip | go_guarded | go_step)
        refine bodyPost_ret (v := .agg #[.bool false, nv (UInt32.ofNat i)]) (results_cell_row rfl _ _ a0 _ _ _ _ rfl (tm_end HA3.out _ _) Tryz.underlying46 rfl (by kernel_rfl)) rfl ?_
        obtain ⟨q1, q2⟩ := HS3.out.box HM3.out HWB.out HA3.out HLE.out (turn2 w2 a0 (.bool false) (nv (UInt32.ofNat i))) (by decide) (by decide) (by decide)
        exact .inl ⟨(false, UInt32.ofNat i), s2, _, F2, by rw [HR.out, HI.out]; rfl, rfl, rfl, q1, q2⟩
      · exact ⟨rfl, .inr ⟨z, by rw [HR.out, hi]; rfl, rfl, HM2.out.endT ht⟩⟩
  · exact ⟨rfl, .inr ⟨z, by rw [HTE.out, hx]; rfl, rfl, (Mv.ofBelow (F := F) HB.out).endT ht⟩⟩
def slL (v : Value) : Nat := match v with | .slice _ n _ => n | _ => 0
set_option maxRecDepth 100000 in
set_option maxHeartbeats 8000000 in
theorem listT_any (b0 : Nat) (w : World) (h : LSt gt Ft l0 sz wb w F g s) (hb : Bk w b0 5 ([1, 2].map kv)) :
    Calls Tryz.prog 116 #[.pointer (some ⟨g, 0, none⟩), .int .i64 6, .func (.func 100) #[.pointer (some ⟨g, 0, none⟩)] #[], .slice (some ⟨b0, 0, none⟩) 2 2] w fun e w' =>
      Fin gt Ft l0 sz wb F g w (termsE sz 7 [] s) (fun L v W => ∃ A m c, v = .slice A m c ∧ OwT W w.heap.size A c m L ∧ m ≤ 6) e w' := by
  have H := Lib.hid h
  have HK := Lib.hid hb
  clear h hb
  go_enter Tryz.func116, Tryz.ntmps116
  repeat (first | go_skip | go_guarded | go_step)
  go_loopw [8, 9] (fun l' m' wr => ∃ (i : Nat) (A' : Option Addr) (c' : Nat) (L : List Tm) (more : Bool) (s1 : PS) (F1 : Nat → Prop), m' = .bool more ∧ l' = .slice A' i c' ∧ OwT wr w.heap.size A' c' i L ∧ L.length = i ∧ LSt gt Ft l0 sz wb wr F1 g s1 ∧ Mv F F1 w wr ∧ Bk wr b0 5 ([1, 2].map kv) ∧
      i ≤ 6 ∧ (more = true → termsE sz (7 - i) L s1 = termsE sz 7 [] s) ∧ (more = false → termsE sz 7 [] s = .ok (L, s1))) (fun l' m' _ => 7 - slL l')
  case atStart => exact ⟨0, none, 0, [], true, s, F, rfl, rfl, World.ownsRow_nil _ _ _ _, rfl, H.out, Mv.refl _ _, HK.out, by omega, fun _ => rfl, fun h => by cases h⟩
  case round =>
    obtain ⟨i, A', c', L, more, s1, F1, rfl, rfl, ho, hll, hs, hm, hbk, hi6, hmt, hmf⟩ := hrel
    have HO := Lib.hid ho
    have HLL := Lib.hid hll
    have HS := Lib.hid hs
    have HM := Lib.hid hm
    have HBK := Lib.hid hbk
    have HI6 := Lib.hid hi6
    clear ho hll hs hm hbk hi6
    cases more with
    | false =>
      have HR := Lib.hid (hmf rfl)
      clear hmt hmf
      repeat (first | go_skip | go_guarded | go_step)
      go_ret
      exact .inl ⟨L, s1, _, F1, HR.out, rfl, ⟨A', i, c', rfl, HO.out, HI6.out⟩, HS.out, HM.out⟩
    | true =>
      have HR := Lib.hid (show termsE sz ((6 - i) + 1) L s1 = termsE sz 7 [] s by rw [show (6 - i) + 1 = 7 - i by have := HI6.out; omega]; exact hmt rfl)
      clear hmt hmf
      repeat (first | go_skip | go_guarded | go_step)
      refine (need_any (some ⟨b0, 0, none⟩) 2 2 [1, 2] wr HS.out (by have := HBK.out.rd 2 (by simp); exact this) (by omega)).mono ?_
      rintro e w1 ⟨hb1, ⟨hk, rfl⟩ | ⟨hk, rfl⟩⟩
      · have HKK := Lib.hid hk
        have HB1 := Lib.hid hb1
        obtain ⟨x, hx⟩ : ∃ x, x = hdE sz s1.1 := ⟨_, rfl⟩
        rw [← hx]
        have HPL := Lib.hid (show x.2.2 = placeE sz s1.1 by rw [hx, hdE_place])
        clear hk hb1 hx
        dsimp only
        go_upto_region 5 with (fail)
        obtain ⟨V, a1, hV, hv, ha1, hb1⟩ : ∃ V a1, V = w1.alloc (.cells #[.int .u8 (x.1 : Int), strV x.2.1, .int .i64 (x.2.2 : Int)] LW) ∧ Below w1.heap.size w1 V ∧ w1.heap.size = a1 ∧ Bk V a1 LW [.int .u8 (x.1 : Int), strV x.2.1, .int .i64 (x.2.2 : Int)] := ⟨_, _, rfl, (Below.refl _ _).alloc (Nat.le_refl _) _, rfl, Bk.new w1 _ _⟩
        rw [← hV, ha1]
        have HBV := Lib.hid (HB1.out.trans (hv.mono HB1.out.size))
        have k2 := hb1.readT (Below.refl _ _) 2 rfl
        have HSV := Lib.hid (HS.out.later HBV.out)
        have HMV := Lib.hid (HM.out.later (HBV.out.mono HM.out.turn.size))
        have HOV := Lib.hid (ownBelow HO.out HBV.out (Nat.le_refl _))
        have HBKV := Lib.hid (HBK.out.later HBV.out)
        clear hV hv ha1 hb1
        by_cases h6 : i = 6
        · have hd : decide ((6 : Int) ≤ (i : Int)) = true := by simp; omega
          have HN := Lib.hid (show termsE sz 7 [] s = .error (6, x.2.2) by rw [← HR.out, termsE, if_pos ⟨by rw [HLL.out]; exact h6, by have := HKK.out; simpa using this⟩, HPL.out])
          clear h6
          repeat (first | go_skip | go_guarded | go_step)
          exact ⟨rfl, .inr ⟨_, HN.out, rfl, HMV.out.turn⟩⟩
        · have hd : decide ((6 : Int) ≤ (i : Int)) = false := by simp; have := HI6.out; omega
          have HN := Lib.hid (show termsE sz 7 [] s = bindE (termE sz s1) fun t s1 => if kindE s1.1 = 7 then termsE sz (6 - i) (L ++ [t]) (nextE s1) else .ok (L ++ [t], s1) by rw [← HR.out, termsE, if_neg (fun e => h6 (by rw [← HLL.out]; exact e.1))])
          have H6 := Lib.hid (show i < 6 by have := HI6.out; omega)
          clear h6
          repeat (first | go_skip | go_guarded | go_step)
          refine (term_any V HSV.out).mono ?_
          rintro e w2 (⟨tm, s2, v, F2, ht, rfl, rfl, hs, hm⟩ | ⟨z, ht, rfl, htn⟩)
          · have HO2 := Lib.hid (HSV.out.own hm.turn HOV.out (by decide) (by decide) (by decide))
            have HBK2 := Lib.hid (HSV.out.keeps hm.turn HBKV.out (by decide) (by decide) (by decide))
            have HM2 := Lib.hid (HMV.out.trans hm)
            have HS2 := Lib.hid hs
            have HT2 := Lib.hid ht
            have hlit := run_litTm (.bool tm.1) (nv tm.2) w2
            have hbx : Below w2.heap.size w2 (w2.alloc (.cells #[.bool tm.1, nv tm.2] 46)) := (Below.refl _ _).alloc (Nat.le_refl _) _
            have HRX := Lib.hid (show RdT (w2.alloc (.cells #[.bool tm.1, nv tm.2] 46)) (w2.alloc (.cells #[.bool tm.1, nv tm.2] 46)).heap.size (some ⟨w2.heap.size, 0, none⟩) 1 [tm] from tmBk_rd (Bk.new w2 _ _))
            have HOX := Lib.hid (ownBelow HO2.out hbx (Nat.le_refl _))
            have HBKX := Lib.hid (HBK2.out.later hbx)
            have HMX := Lib.hid (HM2.out.later (hbx.mono HM2.out.turn.size))
            have HSX := Lib.hid (HS2.out.later hbx)
            clear hm hs ht k2 hbx
            dsimp only
            repeat (first
              | (at_builtin; refine appTt _ rfl (.tmp 25) (.tmp 28) rfl w.heap.size A' c' i L rfl HOX.out _ _ 1 1 [tm] rfl HRX.out (by have := H6.out; omega) HMX.out.turn.size ?_
                 intro A6 c6 V6 ho6 hg6
                 have HS6 := Lib.hid (HSX.out.grown HOX.out hg6 (by decide) (by decide) (by decide) (by decide))
                 have HM6 := Lib.hid (HMX.out.later ((Below.refl w.heap.size (w2.alloc (.cells #[.bool tm.1, nv tm.2] 46))).grown hg6 HMX.out.turn.size (fun k hk => (World.ownsRow.lt HOX.out k hk).1)))
                 have HBK6 := Lib.hid (show Bk V6 b0 5 ([1, 2].map kv) from (Turn.ofGrown (G := fun k => (Value.slice A' i c').ownBlock = some k) hg6 (fun k hk => hk)).bk HBKX.out (own_far HOX.out HBKX.out (by decide)))
                 have HO6 := Lib.hid ho6
                 clear hlit hg6 ho6)
              | go_skip | go_guarded | go_step)
            by_cases hc : kindE s2.1 = 7
            · have HC := Lib.hid hc
              clear hc
              refine (past_yes 7 V6 HS6.out (by omega) HC.out).mono ?_
              rintro e w7 ⟨F7, rfl, hs7, hm7⟩
              have HO7 := Lib.hid (HS6.out.own hm7.turn HO6.out (by decide) (by decide) (by decide))
              have HBK7 := Lib.hid (HS6.out.keeps hm7.turn HBK6.out (by decide) (by decide) (by decide))
              have HM7 := Lib.hid (HM6.out.trans hm7)
              have HS7 := Lib.hid hs7
              have HN7 := Lib.hid (show termsE sz 7 [] s = termsE sz (6 - i) (L ++ [tm]) (nextE s2) by rw [HN.out, HT2.out]; show (if _ then _ else _) = _; rw [if_pos HC.out])
              have HI7 := Lib.hid (show i + 1 ≤ 6 by have := H6.out; omega)
              clear hm7 hs7
              dsimp only
              repeat (first | go_skip | go_guarded | go_step)
              go_roundw
              case rel => exact ⟨i + 1, A6, c6, L ++ [tm], true, nextE s2, F7, rfl, rfl, HO7.out, by simp [HLL.out], HS7.out, HM7.out, HBK7.out, HI7.out, fun _ => by rw [HN7.out, show 7 - (i + 1) = 6 - i by omega], (fun h => by cases h)⟩
              case measure => have := H6.out; simp [slL] <;> omega
            · have HC := Lib.hid hc
              clear hc
              refine (past_no 7 V6 HS6.out HC.out).mono ?_
              rintro e w7 ⟨rfl, rfl⟩
              have HN7 := Lib.hid (show termsE sz 7 [] s = .ok (L ++ [tm], s2) by rw [HN.out, HT2.out]; show (if _ then _ else _) = _; rw [if_neg HC.out])
              have HI7 := Lib.hid (show i + 1 ≤ 6 by have := H6.out; omega)
              dsimp only
              repeat (first | go_skip | go_guarded | go_step)
              go_roundw
              case rel => exact ⟨i + 1, A6, c6, L ++ [tm], false, s2, F2, rfl, rfl, HO6.out, by simp [HLL.out], HS6.out, HM6.out, HBK6.out, HI7.out, (fun h => by cases h), fun _ => HN7.out⟩
              case measure => have := H6.out; simp [slL] <;> omega
          · exact ⟨rfl, .inr ⟨z, by rw [HN.out, ht]; rfl, rfl, HMV.out.endT htn⟩⟩
      · exact ⟨rfl, .inr ⟨_, by
          have hk' : ¬ (kindE s1.1 = 1 ∨ kindE s1.1 = 2) := by simpa using hk
          rw [← HR.out, termsE, if_neg (fun e => hk' e.2), term_eq, takeE, if_neg hk]
          rfl, rfl, (HM.out.later (hb1.mono HM.out.turn.size)).turn⟩⟩
/-- An atom, from behind its name on. -/
def atomB (sz : Nat) (p : UInt32) (s : PS) : Except PE (AtL × PS) :=
  if kindE s.1 = 5 then bindE (argsE sz 7 [] (nextE s)) fun l s2 => .ok ((p, l), s2) else .ok ((p, []), s)
theorem atom_eq (sz : Nat) (s : PS) : atomE sz s = bindE (nameE sz s) fun p s1 => atomB sz (UInt32.ofNat p) s1 := rfl
set_option maxRecDepth 100000 in
set_option maxHeartbeats 8000000 in
theorem atom_any (pv : UInt32) (w : World) (h : LSt gt Ft l0 sz wb w F g s) :
    Calls Tryz.prog 102 #[.pointer (some ⟨g, 0, none⟩), nv pv] w fun e w' =>
      Fin gt Ft l0 sz wb F g w (atomB sz pv s) (fun a v W => ∃ A m c, v = .agg #[nv a.1, .slice A m c] ∧ OwT W w.heap.size A c m a.2 ∧ m ≤ 6) e w' := by
  have H := Lib.hid h
  have HWB := Lib.hid h.wlt
  clear h
  go_enter Tryz.func102, Tryz.ntmps102
  go_upto_region 1 with (fail)
  obtain ⟨U, a0, hU, hub, ha0, hb0⟩ : ∃ U a0, U = w.alloc (.cells #[.int .u32 0, .slice none 0 0] 49) ∧ Below w.heap.size w U ∧ w.heap.size = a0 ∧ Bk U a0 49 [.int .u32 0, .slice none 0 0] := ⟨_, _, rfl, (Below.refl _ _).alloc (Nat.le_refl _) _, rfl, Bk.new w _ _⟩
  rw [← hU, ha0]
  have HLE := Lib.hid (show w.heap.size ≤ a0 by rw [ha0]; exact Nat.le_refl _)
  have HU := Lib.hid hub
  have HA := Lib.hid hb0
  clear hU hub ha0 hb0
  go_upto_region 2 with (fail)
  obtain ⟨V, a1, hV, hv, ha1, hb1⟩ : ∃ V a1, V = U.alloc (.cells #[nv pv, .slice none 0 0] 49) ∧ Below U.heap.size U V ∧ U.heap.size = a1 ∧ Bk V a1 49 [nv pv, .slice none 0 0] := ⟨_, _, rfl, (Below.refl _ _).alloc (Nat.le_refl _) _, rfl, Bk.new U _ _⟩
  rw [← hV, ha1]
  have HBV := Lib.hid (HU.out.trans (hv.mono HU.out.size))
  have HAV := Lib.hid (HA.out.later hv)
  have HB1 := Lib.hid hb1
  have HS := Lib.hid (H.out.later HBV.out)
  have HLE1 := Lib.hid (show w.heap.size ≤ a1 by rw [← ha1]; exact HU.out.size)
  have HNE := Lib.hid (show a0 ≠ a1 by have := HA.out.lt; omega)
  clear hV hv ha1 hb1
  repeat (first | go_skip | go_guarded | go_step)
  by_cases hk : kindE s.1 = 5
  · have HK := Lib.hid hk
    clear hk
    have HN := Lib.hid (show atomB sz pv s = bindE (termsE sz 7 [] (nextE s)) fun l s1 => bindE (takeE sz [6] s1) fun _ s2 => .ok ((pv, l), s2) by
      unfold atomB
      rw [if_pos HK.out, args_terms]
      cases termsE sz 7 [] (nextE s) with
      | error z => rfl
      | ok z =>
        obtain ⟨l, s1⟩ := z
        rw [bindE_okv, bindE_okv, takeE_word]
        cases takeE sz [6] s1 <;> rfl)
    refine (past_yes 5 V HS.out (by omega) HK.out).mono ?_
    rintro e w1 ⟨F1, rfl, hs1, hm1⟩
    have HA1 := Lib.hid (HS.out.keeps hm1.turn HAV.out (by decide) (by decide) (by decide))
    have HB2 := Lib.hid (HS.out.keeps hm1.turn HB1.out (by decide) (by decide) (by decide))
    have HM1 := Lib.hid ((Mv.ofBelow (F := F) HBV.out).trans hm1)
    have HS1 := Lib.hid hs1
    clear hs1 hm1
    dsimp only
    go_upto_region 3 with (fail)
    have hl : (Instr.buildSlice 91 2 #[(0, .int .u8 1), (1, .int .u8 2)]).run Tryz.prog w1 = _ := run_litK2 1 2 w1
    have hmf : ∀ (fn : Fn) (first cap : Array Value) (w : World), (Instr.makeFunc fn first cap).run Tryz.prog w = .ok (.func fn first cap) w := fun _ _ _ _ => rfl
    have hb := (Below.refl w1.heap.size w1).alloc (Nat.le_refl _) (.cells ([1, 2].map kv).toArray 5)
    have HBB := Lib.hid (Bk.new w1 5 ([1, 2].map kv))
    have HSL := Lib.hid (HS1.out.later hb)
    have HAL := Lib.hid (HA1.out.later hb)
    have HBL := Lib.hid (HB2.out.later hb)
    have HML := Lib.hid (HM1.out.later (hb.mono HM1.out.turn.size))
    clear hb
    repeat (first | go_skip | go_guarded | go_step)
    refine (listT_any _ _ HSL.out HBB.out).mono ?_
    rintro e w2 (⟨l, s2, v, F2, ht, rfl, ⟨A, m, c, rfl, ho, hm6⟩, hs, hm⟩ | ⟨z, ht, rfl, htn⟩)
    · have HT := Lib.hid ht
      have HO := Lib.hid (ownBase ho (by have := HML.out.turn.size; simpa using this) : OwT w2 w.heap.size A c m l)
      have HM6 := Lib.hid hm6
      have HA2 := Lib.hid (HSL.out.keeps hm.turn HAL.out (by decide) (by decide) (by decide))
      have HB3 := Lib.hid (HSL.out.keeps hm.turn HBL.out (by decide) (by decide) (by decide))
      have HM2 := Lib.hid (HML.out.trans hm)
      have HS2 := Lib.hid hs
      have d1 := HB3.out.readT (Below.refl _ _) 1 rfl
      have f1 := HB3.out.frozen 1
      clear ht ho hm6 hm hs hl
      dsimp only
      go_upto_region 4 with (fail)
      obtain ⟨X, hX, hxt, hxb⟩ : ∃ X, X = w2.setCell ⟨a1, 1, none⟩ (.slice A m c) ∧ Turn (fun k => k = a1) w2 X ∧ Bk X a1 49 [nv pv, .slice A m c] := ⟨_, rfl, (Turn.refl (fun k => k = a1) w2).setCell (p := ⟨a1, 1, none⟩) (fun _ => rfl) _, HB3.out.set_ 1 _⟩
      rw [← hX]
      obtain ⟨q1, q2⟩ := HS2.out.box HM2.out HWB.out HB3.out HLE1.out hxt (by decide) (by decide) (by decide)
      have HS3 := Lib.hid q1
      have HM3 := Lib.hid q2
      have HA3 := Lib.hid (hxt.bk HA2.out HNE.out)
      have HB4 := Lib.hid hxb
      have HO3 := Lib.hid (hxt.own HO.out (fun k hk e => own_far HO.out HB3.out (by decide) (by rw [hk, e])))
      clear hX hxt hxb q1 q2 d1 f1
      have hl : (Instr.buildSlice 91 1 #[(0, .int .u8 6)]).run Tryz.prog X = _ := run_litK1 6 X
      have HL := Lib.hid (litK_rd X [6] 1 rfl)
      have hb := (Below.refl X.heap.size X).alloc (Nat.le_refl _) (.cells ([6].map kv).toArray 5)
      have HSL := Lib.hid (HS3.out.later hb)
      have HAL := Lib.hid (HA3.out.later hb)
      have HBL := Lib.hid (HB4.out.later hb)
      have HML := Lib.hid (HM3.out.later (hb.mono HM3.out.turn.size))
      have HOL := Lib.hid (ownBelow HO3.out hb (Nat.le_refl _))
      clear hb
      repeat (first | go_skip | go_guarded | go_step)
      refine (take_any _ 1 1 [6] _ HSL.out HL.out (by omega) (by simp)).mono ?_
      rintro e w4 (⟨x, s4, v, F4, hx, rfl, rfl, hs, hm⟩ | ⟨z, hx, rfl, htn⟩)
      · have HX := Lib.hid hx
        have HA4 := Lib.hid (HSL.out.keeps hm.turn HAL.out (by decide) (by decide) (by decide))
        have HB5 := Lib.hid (HSL.out.keeps hm.turn HBL.out (by decide) (by decide) (by decide))
        have HO4 := Lib.hid (HSL.out.own hm.turn HOL.out (by decide) (by decide) (by decide))
        have HM4 := Lib.hid (HML.out.trans hm)
        have HS4 := Lib.hid hs
        have d0 := HB5.out.readT (Below.refl _ _) 0 rfl
        have d1 := HB5.out.readT (Below.refl _ _) 1 rfl
        have c0 := HA4.out.readT (Below.refl _ _) 0 rfl
        have c1 := HA4.out.readT (Below.refl _ _) 1 rfl
        have g0 := HA4.out.frozen 0
        have g1 := HA4.out.frozen 1
        clear hx hm hs hl
        dsimp only
        repeat (first | go_skip | go_guarded | go_step)
        refine bodyPost_ret (v := .agg #[nv pv, .slice A m c]) (results_cell_row rfl _ _ a0 _ _ _ _ rfl (atom_end HA4.out _ _) Tryz.underlying49 rfl (by kernel_rfl)) rfl ?_
        obtain ⟨q1, q2⟩ := HS4.out.box HM4.out HWB.out HA4.out HLE.out (turn2 w4 a0 (nv pv) (.slice A m c)) (by decide) (by decide) (by decide)
        exact .inl ⟨(pv, l), s4, _, F4, by rw [HN.out, HT.out, bindE_okv, HX.out]; rfl, rfl, ⟨A, m, c, rfl, (turn2 w4 a0 (nv pv) (.slice A m c)).own HO4.out (fun k hk e => own_far HO4.out HA4.out (by decide) (by rw [hk, e])), HM6.out⟩, q1, q2⟩
      · exact ⟨rfl, .inr ⟨z, by rw [HN.out, HT.out, bindE_okv, hx]; rfl, rfl, HML.out.endT htn⟩⟩
    · exact ⟨rfl, .inr ⟨z, by rw [HN.out, ht]; rfl, rfl, HML.out.endT htn⟩⟩
  · have HK := Lib.hid hk
    clear hk
    have HN := Lib.hid (show atomB sz pv s = .ok ((pv, []), s) by unfold atomB; rw [if_neg HK.out])
    refine (past_no 5 V HS.out HK.out).mono ?_
    rintro e w1 ⟨rfl, rfl⟩
    have d0 := HB1.out.readT (Below.refl _ _) 0 rfl
    have d1 := HB1.out.readT (Below.refl _ _) 1 rfl
    have c0 := HAV.out.readT (Below.refl _ _) 0 rfl
    have c1 := HAV.out.readT (Below.refl _ _) 1 rfl
    have g0 := HAV.out.frozen 0
    have g1 := HAV.out.frozen 1
    dsimp only
    repeat (first | go_skip | go_guarded | go_step)
    refine bodyPost_ret (v := .agg #[nv pv, .slice none 0 0]) (results_cell_row rfl _ _ a0 _ _ _ _ rfl (atom_end HAV.out _ _) Tryz.underlying49 rfl (by kernel_rfl)) rfl ?_
    obtain ⟨q1, q2⟩ := HS.out.box (Mv.ofBelow (F := F) HBV.out) HWB.out HAV.out HLE.out (turn2 V a0 (nv pv) (.slice none 0 0)) (by decide) (by decide) (by decide)
    exact .inl ⟨(pv, []), s, _, F, HN.out, rfl, ⟨none, 0, 0, rfl, World.ownsRow_nil _ _ _ _, by omega⟩, q1, q2⟩
end
end Go.Proofs.YtoigpbajefkpoaaGreatDoor

