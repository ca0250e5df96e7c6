/- Texts, packed: PbF PbG PbH -/
import Derived.Test.YtoigpbajefkpoaaGreatDoorPyM
import Derived.Test.YtoigpbajefkpoaaGreatDoorPyG
import Derived.LaidEql
import Derived.Stop.Asserts
import Derived.RowKitTokens
set_option linter.unusedVariables false
set_option linter.unusedSimpArgs false
namespace Go.Proofs.YtoigpbajefkpoaaGreatDoor
open Go Go.RowKit

def condE (sz : Nat) (s : PS) : Except PE (Co × PS) := bindE (sayE sz (pastE 3 s).2) fun y s1 => .ok (((pastE 3 s).1, y), s1)
theorem conds_cond (sz n : Nat) (acc : List Co) (s : PS) : condsE sz (n + 1) acc s = if acc.length = 8 ∧ (kindE s.1 = 3 ∨ kindE s.1 = 1 ∨ kindE s.1 = 2) then .error (6, placeE sz s.1) else bindE (condE sz s) fun c s1 => if kindE s1.1 = 7 then condsE sz n (acc ++ [c]) (nextE s1) else .ok (acc ++ [c], s1) := by
  rw [condsE]
  split
  · rfl
  · unfold condE pastE
    by_cases h : kindE s.1 = 3
    · rw [if_pos h, if_pos h]
      dsimp only
      cases sayE sz (nextE s) with
      | error z => rfl
      | ok z =>
        obtain ⟨y, s1⟩ := z
        rw [bindE_okv, bindE_okv, bindE_okv, decide_eq_true h]
    · rw [if_neg h, if_neg h]
      dsimp only
      cases sayE sz s with
      | error z => rfl
      | ok z =>
        obtain ⟨y, s1⟩ := z
        rw [bindE_okv, bindE_okv, bindE_okv, decide_eq_false h]
theorem turn6 (w : World) (a : Nat) (x0 x1 x2 x3 x4 x5 : Value) : Turn (fun k => k = a) w ((((((w.setCell ⟨a, 0, none⟩ x0).setCell ⟨a, 1, none⟩ x1).setCell ⟨a, 2, none⟩ x2).setCell ⟨a, 3, none⟩ x3).setCell ⟨a, 4, none⟩ x4).setCell ⟨a, 5, none⟩ x5) :=
  (((((((Turn.refl (fun k => k = a) w).setCell (p := ⟨a, 0, none⟩) (fun _ => rfl) _).setCell (p := ⟨a, 1, none⟩) (fun _ => rfl) _).setCell (p := ⟨a, 2, none⟩) (fun _ => rfl) _).setCell (p := ⟨a, 3, none⟩) (fun _ => rfl) _).setCell (p := ⟨a, 4, none⟩) (fun _ => rfl) _).setCell (p := ⟨a, 5, none⟩) (fun _ => rfl) _)
theorem end6 {w : World} {a : Nat} {t : TypeId} {x0 x1 x2 x3 x4 x5 : Value} (h : Bk w a t [x0, x1, x2, x3, x4, x5]) (y0 y1 y2 y3 y4 y5 : Value) : Bk ((((((w.setCell ⟨a, 0, none⟩ y0).setCell ⟨a, 1, none⟩ y1).setCell ⟨a, 2, none⟩ y2).setCell ⟨a, 3, none⟩ y3).setCell ⟨a, 4, none⟩ y4).setCell ⟨a, 5, none⟩ y5) a t [y0, y1, y2, y3, y4, y5] := ((((((h.set_ 0 y0).set_ 1 y1).set_ 2 y2).set_ 3 y3).set_ 4 y4).set_ 5 y5)
section
variable {gt : Nat} {Ft : Nat → Prop} {l0 : List ByteArray} {sz wb : Nat} {F F2 : Nat → Prop} {g : Nat} {s s2 : PS} {w w2 Z : World}
theorem LSt.ownC {base : Nat} {A : Option Addr} {c n : Nat} {R : List SlA} {L : List Co} {w' : World} (h : LSt gt Ft l0 sz wb w F g s) (ht : Turn F w w') (ho : OwC w base A c n R L) : OwC w' base A c n R L :=
  ho.map fun e s v n xs he ho => h.own ht ho (by rcases he with rfl | rfl <;> decide) (by rcases he with rfl | rfl <;> decide) (by rcases he with rfl | rfl <;> decide)
theorem LSt.ownR {base : Nat} {A : Option Addr} {c n : Nat} {Q : List RlA} {L : List Rl} {w' : World} (h : LSt gt Ft l0 sz wb w F g s) (ht : Turn F w w') (ho : OwRs w base A c n Q L) : OwRs w' base A c n Q L :=
  ho.map fun e s v n xs he ho => h.own ht ho (by rcases he with rfl | rfl | rfl <;> decide) (by rcases he with rfl | rfl | rfl <;> decide) (by rcases he with rfl | rfl | rfl <;> decide)
theorem ownC_box {base a : Nat} {t : TypeId} {cs : List Value} {A : Option Addr} {c n : Nat} {R : List SlA} {L : List Co} {w' : World} (ho : OwC w base A c n R L) (hb : Bk w a t cs) (h1 : t ≠ 103) (h2 : t ≠ 46) (ht : Turn (fun k => k = a) w w') : OwC w' base A c n R L :=
  ho.map fun e s v n xs he ho => ht.own ho (fun k hk e' => own_far ho hb (by rcases he with rfl | rfl <;> assumption) (by rw [hk, e']))

set_option maxRecDepth 100000 in
set_option maxHeartbeats 8000000 in
theorem cond_any (w : World) (h : LSt gt Ft l0 sz wb w F g s) :
    Calls Tryz.prog 81 #[.pointer (some ⟨g, 0, none⟩)] w fun e w' =>
      Fin gt Ft l0 sz wb F g w (condE sz s) (fun y v W => ∃ A m c, v = .agg #[.bool y.1, .bool y.2.1, .bool y.2.2.1.1, nv y.2.2.1.2, nv y.2.2.2.1, .slice A m c] ∧ OwT W w.heap.size A c m y.2.2.2.2 ∧ m ≤ 6) e w' := by
  have H := Lib.hid h
  have HWB := Lib.hid h.wlt
  clear h
  go_enter Tryz.func81, Tryz.ntmps81
  go_upto_region 1 with (fail)
  obtain ⟨U, a0, hU, hub, ha0, hb0⟩ : ∃ U a0, U = w.alloc (.cells #[.bool false, .bool false, .bool false, .int .u32 0, .int .u32 0, .slice none 0 0] 103) ∧ Below w.heap.size w U ∧ w.heap.size = a0 ∧ Bk U a0 103 [.bool false, .bool false, .bool false, .int .u32 0, .int .u32 0, .slice none 0 0] := ⟨_, _, rfl, (Below.refl _ _).alloc (Nat.le_refl _) _, rfl, Bk.new w _ _⟩
  rw [← hU, ha0]
  have HLE := Lib.hid (show w.heap.size ≤ a0 by rw [ha0]; exact Nat.le_refl _)
  have HU := Lib.hid hub
  have HA := Lib.hid hb0
  have HS := Lib.hid (H.out.later hub)
  clear hU hub ha0 hb0
  repeat (first | go_skip | go_guarded | go_step)
  refine (past_any 3 U HS.out (by omega)).mono ?_
  rintro e w1 ⟨F1, rfl, hs1, hm1⟩
  obtain ⟨bn, hbn⟩ : ∃ bn, bn = (pastE 3 s).1 := ⟨_, rfl⟩
  rw [← hbn]
  have HN := Lib.hid (show condE sz s = bindE (sayE sz (pastE 3 s).2) fun y s1 => .ok ((bn, y), s1) by rw [hbn]; rfl)
  have HA1 := Lib.hid (HS.out.keeps hm1.turn HA.out (by decide) (by decide) (by decide))
  have HM1 := Lib.hid ((Mv.ofBelow (F := F) HU.out).trans hm1)
  have HS1 := Lib.hid hs1
  clear hs1 hm1 hbn
  dsimp only
  repeat (first | go_skip | go_guarded | go_step)
  refine (say_any w1 HS1.out).mono ?_
  rintro e w2 (⟨y, s2, v, F2, hy, rfl, ⟨A, m, c, rfl, ho, hm6⟩, hs, hm⟩ | ⟨z, hy, rfl, htn⟩)
  · have HX := Lib.hid hy
    have HA2 := Lib.hid (HS1.out.keeps hm.turn HA1.out (by decide) (by decide) (by decide))
    have HM2 := Lib.hid (HM1.out.trans hm)
    have HS2 := Lib.hid hs
    have HO := Lib.hid (ownBase ho HM1.out.turn.size : OwT w2 w.heap.size A c m y.2.2.2)
    have HM6 := Lib.hid hm6
    have c0 := HA2.out.readT (Below.refl _ _) 0 rfl
    have c1 := HA2.out.readT (Below.refl _ _) 1 rfl
    have c2 := HA2.out.readT (Below.refl _ _) 2 rfl
    have c3 := HA2.out.readT (Below.refl _ _) 3 rfl
    have c4 := HA2.out.readT (Below.refl _ _) 4 rfl
    have c5 := HA2.out.readT (Below.refl _ _) 5 rfl
    have g0 := HA2.out.frozen 0
    have g1 := HA2.out.frozen 1
    have g2 := HA2.out.frozen 2
    have g3 := HA2.out.frozen 3
    have g4 := HA2.out.frozen 4
    have g5 := HA2.out.frozen 5
    clear hy hm hs ho hm6
    dsimp only
    repeat (first | go_skip | go_guarded | go_step)
    refine bodyPost_ret (v := .agg #[.bool bn, .bool y.1, .bool y.2.1.1, nv y.2.1.2, nv y.2.2.1, .slice A m c]) (results_cell_row rfl _ _ a0 _ _ _ _ rfl (end6 HA2.out _ _ _ _ _ _) Tryz.underlying103 rfl (by kernel_rfl)) rfl ?_
    have htt := turn6 w2 a0 (.bool bn) (.bool y.1) (.bool y.2.1.1) (nv y.2.1.2) (nv y.2.2.1) (.slice A m c)
    obtain ⟨q1, q2⟩ := HS2.out.box HM2.out HWB.out HA2.out HLE.out htt (by decide) (by decide) (by decide)
    exact .inl ⟨(bn, y), s2, _, F2, by rw [HN.out, HX.out]; rfl, rfl, ⟨A, m, c, rfl, htt.own HO.out (fun k hk e => own_far HO.out HA2.out (by decide) (by rw [hk, e])), HM6.out⟩, q1, q2⟩
  · exact ⟨rfl, .inr ⟨z, by rw [HN.out, hy]; rfl, rfl, HM1.out.endT htn⟩⟩

set_option maxRecDepth 100000 in
set_option maxHeartbeats 8000000 in
theorem listC_any (b0 : Nat) (w : World) (h : LSt gt Ft l0 sz wb w F g s) (hb : Bk w b0 5 ([3, 1, 2].map kv)) :
    Calls Tryz.prog 80 #[.pointer (some ⟨g, 0, none⟩), .int .i64 8, .func (.func 81) #[.pointer (some ⟨g, 0, none⟩)] #[], .slice (some ⟨b0, 0, none⟩) 3 3] w fun e w' =>
      Fin gt Ft l0 sz wb F g w (condsE sz 9 [] s) (fun L v W => ∃ A m c R, v = .slice A m c ∧ OwC W w.heap.size A c m R L ∧ m ≤ 8) e w' := by
  have H := Lib.hid h
  have HK := Lib.hid hb
  clear h hb
  go_enter Tryz.func80, Tryz.ntmps80
  repeat (first | go_skip | go_guarded | go_step)
  go_loopw [8, 9] (fun l' m' wr => ∃ (i : Nat) (A' : Option Addr) (c' : Nat) (R : List SlA) (L : List Co) (more : Bool) (s1 : PS) (F1 : Nat → Prop), m' = .bool more ∧ l' = .slice A' i c' ∧ OwC wr w.heap.size A' c' i R L ∧ LSt gt Ft l0 sz wb wr F1 g s1 ∧ Mv F F1 w wr ∧ Bk wr b0 5 ([3, 1, 2].map kv) ∧
      i ≤ 8 ∧ (more = true → condsE sz (9 - i) L s1 = condsE sz 9 [] s) ∧ (more = false → condsE sz 9 [] s = .ok (L, s1))) (fun l' m' _ => 9 - slL l')
  case atStart => exact ⟨0, none, 0, [], [], true, s, F, rfl, rfl, OwC.nil _ _, H.out, Mv.refl _ _, HK.out, by omega, (fun _ => rfl), (fun h => by cases h)⟩
  case round =>
    obtain ⟨i, A', c', R, L, more, s1, F1, rfl, rfl, ho, hs, hm, hbk, hi6, hmt, hmf⟩ := hrel
    have HO := Lib.hid ho
    have HLL := Lib.hid ho.lenL
    have HS := Lib.hid hs
    have HM := Lib.hid hm
    have HBK := Lib.hid hbk
    have HI6 := Lib.hid hi6
    clear ho hs hm hbk hi6
    cases more with
    | false =>
      have HR := Lib.hid (hmf rfl)
      clear hmt hmf
      repeat (first | go_skip | go_guarded | go_step)
      go_ret
      exact .inl ⟨L, s1, _, F1, HR.out, rfl, ⟨A', i, c', R, rfl, HO.out, HI6.out⟩, HS.out, HM.out⟩
    | true =>
      have HR := Lib.hid (show condsE sz ((8 - i) + 1) L s1 = condsE sz 9 [] s by rw [show (8 - i) + 1 = 9 - i by have := HI6.out; omega]; exact hmt rfl)
      clear hmt hmf
      repeat (first | go_skip | go_guarded | go_step)
      refine (need_any (some ⟨b0, 0, none⟩) 3 3 [3, 1, 2] wr HS.out (by have := HBK.out.rd 3 (by simp); exact this) (by omega)).mono ?_
      rintro e w1 ⟨hb1, ⟨hk, rfl⟩ | ⟨hk, rfl⟩⟩
      · have HKK := Lib.hid hk
        have HB1 := Lib.hid hb1
        obtain ⟨x, hx⟩ : ∃ x, x = hdE sz s1.1 := ⟨_, rfl⟩
        rw [← hx]
        have HPL := Lib.hid (show x.2.2 = placeE sz s1.1 by rw [hx, hdE_place])
        clear hk hb1 hx
        dsimp only
        go_upto_region 5 with (fail)
        obtain ⟨V, a1, hV, hv, ha1, hb1⟩ : ∃ V a1, V = w1.alloc (.cells #[.int .u8 (x.1 : Int), strV x.2.1, .int .i64 (x.2.2 : Int)] LW) ∧ Below w1.heap.size w1 V ∧ w1.heap.size = a1 ∧ Bk V a1 LW [.int .u8 (x.1 : Int), strV x.2.1, .int .i64 (x.2.2 : Int)] := ⟨_, _, rfl, (Below.refl _ _).alloc (Nat.le_refl _) _, rfl, Bk.new w1 _ _⟩
        rw [← hV, ha1]
        have HBV := Lib.hid (HB1.out.trans (hv.mono HB1.out.size))
        have k2 := hb1.readT (Below.refl _ _) 2 rfl
        have HSV := Lib.hid (HS.out.later HBV.out)
        have HMV := Lib.hid (HM.out.later (HBV.out.mono HM.out.turn.size))
        have HOV := Lib.hid (HO.out.later HBV.out)
        have HBKV := Lib.hid (HBK.out.later HBV.out)
        clear hV hv ha1 hb1
        by_cases h6 : i = 8
        · have hd : decide ((8 : Int) ≤ (i : Int)) = true := by simp; omega
          have HN := Lib.hid (show condsE sz 9 [] s = .error (6, x.2.2) by rw [← HR.out, conds_cond, if_pos ⟨by rw [HLL.out]; exact h6, by have := HKK.out; simpa using this⟩, HPL.out])
          clear h6
          repeat (first | go_skip | go_guarded | go_step)
          exact ⟨rfl, .inr ⟨_, HN.out, rfl, HMV.out.turn⟩⟩
        · have hd : decide ((8 : Int) ≤ (i : Int)) = false := by simp; have := HI6.out; omega
          have HN := Lib.hid (show condsE sz 9 [] s = bindE (condE sz s1) fun t s1 => if kindE s1.1 = 7 then condsE sz (8 - i) (L ++ [t]) (nextE s1) else .ok (L ++ [t], s1) by rw [← HR.out, conds_cond, if_neg (fun e => h6 (by rw [← HLL.out]; exact e.1))])
          have H6 := Lib.hid (show i < 8 by have := HI6.out; omega)
          clear h6
          repeat (first | go_skip | go_guarded | go_step)
          refine (cond_any V HSV.out).mono ?_
          rintro e w2 (⟨tm, s2, v, F2, ht, rfl, ⟨A, m, c, rfl, hot, hm6⟩, hs, hm⟩ | ⟨z, ht, rfl, htn⟩)
          · have HO2 := Lib.hid (HSV.out.ownC hm.turn HOV.out)
            have HBK2 := Lib.hid (HSV.out.keeps hm.turn HBKV.out (by decide) (by decide) (by decide))
            have HOT2 := Lib.hid (ownBase hot HMV.out.turn.size : OwT w2 w.heap.size A c m tm.2.2.2.2)
            have HM2 := Lib.hid (HMV.out.trans hm)
            have HS2 := Lib.hid hs
            have HT2 := Lib.hid ht
            have hlit := run_litC tm.1 tm.2.1 tm.2.2.1 tm.2.2.2.1 A m c w2
            have hbx : Below w2.heap.size w2 (w2.alloc (.cells #[.bool tm.1, .bool tm.2.1, .bool tm.2.2.1.1, nv tm.2.2.1.2, nv tm.2.2.2.1, .slice A m c] 103)) := (Below.refl _ _).alloc (Nat.le_refl _) _
            have HRX := Lib.hid (show Rd (w2.alloc (.cells #[.bool tm.1, .bool tm.2.1, .bool tm.2.2.1.1, nv tm.2.2.1.2, nv tm.2.2.2.1, .slice A m c] 103)) (w2.alloc (.cells #[.bool tm.1, .bool tm.2.1, .bool tm.2.2.1.1, nv tm.2.2.1.2, nv tm.2.2.2.1, .slice A m c] 103)).heap.size 6 (some ⟨w2.heap.size, 0, none⟩) 1 (coC (tm, (A, m, c))) from bk_rd6 (Bk.new w2 _ [.bool tm.1, .bool tm.2.1, .bool tm.2.2.1.1, nv tm.2.2.1.2, nv tm.2.2.2.1, .slice A m c]) rfl)
            have HOX := Lib.hid (HO2.out.later hbx)
            have HOTX := Lib.hid (ownBelow HOT2.out hbx (Nat.le_refl _))
            have HBKX := Lib.hid (HBK2.out.later hbx)
            have HMX := Lib.hid (HM2.out.later (hbx.mono HM2.out.turn.size))
            have HSX := Lib.hid (HS2.out.later hbx)
            clear hm hs ht k2 hbx hot hm6
            dsimp only
            repeat (first
              | (at_builtin; refine appC _ rfl (.tmp 25) (.tmp 28) rfl w.heap.size A' c' i R L rfl HOX.out _ _ 1 tm (A, m, c) rfl HRX.out (by have := H6.out; omega) HMX.out.turn.size HOTX.out ?_
                 intro A6 c6 V6 ho6 hg6
                 have HS6 := Lib.hid (HSX.out.grown HOX.out.top hg6 (by decide) (by decide) (by decide) (by decide))
                 have HM6 := Lib.hid (HMX.out.later ((Below.refl w.heap.size (w2.alloc (.cells #[.bool tm.1, .bool tm.2.1, .bool tm.2.2.1.1, nv tm.2.2.1.2, nv tm.2.2.2.1, .slice A m c] 103))).grown hg6 HMX.out.turn.size (fun k hk => (World.ownsRow.lt HOX.out.top k hk).1)))
                 have HBK6 := Lib.hid (show Bk V6 b0 5 ([3, 1, 2].map kv) from (Turn.ofGrown (G := fun k => (Value.slice A' i c').ownBlock = some k) hg6 (fun k hk => hk)).bk HBKX.out (own_far HOX.out.top HBKX.out (by decide)))
                 have HO6 := Lib.hid ho6
                 clear hlit hg6 ho6)
              | go_skip | go_guarded | go_step)
            by_cases hc : kindE s2.1 = 7
            · have HC := Lib.hid hc
              clear hc
              refine (past_yes 7 V6 HS6.out (by omega) HC.out).mono ?_
              rintro e w7 ⟨F7, rfl, hs7, hm7⟩
              have HO7 := Lib.hid (HS6.out.ownC hm7.turn HO6.out)
              have HBK7 := Lib.hid (HS6.out.keeps hm7.turn HBK6.out (by decide) (by decide) (by decide))
              have HM7 := Lib.hid (HM6.out.trans hm7)
              have HS7 := Lib.hid hs7
              have HN7 := Lib.hid (show condsE sz 9 [] s = condsE sz (8 - i) (L ++ [tm]) (nextE s2) by rw [HN.out, HT2.out]; show (if _ then _ else _) = _; rw [if_pos HC.out])
              have HI7 := Lib.hid (show i + 1 ≤ 8 by have := H6.out; omega)
              clear hm7 hs7
              dsimp only
              repeat (first | go_skip | go_guarded | go_step)
              go_roundw
              case rel => exact ⟨i + 1, A6, c6, R ++ [(A, m, c)], L ++ [tm], true, nextE s2, F7, rfl, rfl, HO7.out, HS7.out, HM7.out, HBK7.out, HI7.out, (fun _ => by rw [HN7.out, show 9 - (i + 1) = 8 - i by omega]), (fun h => by cases h)⟩
              case measure => have := H6.out; simp [slL] <;> omega
            · have HC := Lib.hid hc
              clear hc
              refine (past_no 7 V6 HS6.out HC.out).mono ?_
              rintro e w7 ⟨rfl, rfl⟩
              have HN7 := Lib.hid (show condsE sz 9 [] s = .ok (L ++ [tm], s2) by rw [HN.out, HT2.out]; show (if _ then _ else _) = _; rw [if_neg HC.out])
              have HI7 := Lib.hid (show i + 1 ≤ 8 by have := H6.out; omega)
              dsimp only
              repeat (first | go_skip | go_guarded | go_step)
              go_roundw
              case rel => exact ⟨i + 1, A6, c6, R ++ [(A, m, c)], L ++ [tm], false, s2, F2, rfl, rfl, HO6.out, HS6.out, HM6.out, HBK6.out, HI7.out, (fun h => by cases h), fun _ => HN7.out⟩
              case measure => have := H6.out; simp [slL] <;> omega
          · exact ⟨rfl, .inr ⟨z, by rw [HN.out, ht]; rfl, rfl, HMV.out.endT htn⟩⟩
      · exact ⟨rfl, .inr ⟨_, by
          have hk' : ¬ (kindE s1.1 = 3 ∨ kindE s1.1 = 1 ∨ kindE s1.1 = 2) := by simpa using hk
          rw [← HR.out, conds_cond, if_neg (fun e => hk' e.2)]
          have hp : pastE 3 s1 = (false, s1) := by unfold pastE; rw [if_neg (fun e => hk' (Or.inl e))]
          unfold condE
          rw [hp, say_eq, term_eq, takeE, if_neg (fun e => hk' (by simp at e; exact Or.inr e))]
          rfl, rfl, (HM.out.later (hb1.mono HM.out.turn.size)).turn⟩⟩

set_option maxRecDepth 100000 in
set_option maxHeartbeats 8000000 in
theorem rule_any (w : World) (h : LSt gt Ft l0 sz wb w F g s) :
    Calls Tryz.prog 52 #[.pointer (some ⟨g, 0, none⟩)] w fun e w' =>
      Fin gt Ft l0 sz wb F g w (ruleE sz s) (fun r v W => ∃ A m c A1 m1 c1 R, v = .agg #[.bool r.1.1, .bool r.1.2.1.1, nv r.1.2.1.2, nv r.1.2.2.1, .slice A m c, .slice A1 m1 c1] ∧ OwT W w.heap.size A c m r.1.2.2.2 ∧ OwC W w.heap.size A1 c1 m1 R r.2) e w' := by
  have H := Lib.hid h
  have HWB := Lib.hid h.wlt
  clear h
  go_enter Tryz.func52, Tryz.ntmps52
  go_upto_region 1 with (fail)
  obtain ⟨U, a0, hU, hub, ha0, hb0⟩ : ∃ U a0, U = w.alloc (.cells #[.bool false, .bool false, .int .u32 0, .int .u32 0, .slice none 0 0, .slice none 0 0] 54) ∧ Below w.heap.size w U ∧ w.heap.size = a0 ∧ Bk U a0 54 [.bool false, .bool false, .int .u32 0, .int .u32 0, .slice none 0 0, .slice none 0 0] := ⟨_, _, rfl, (Below.refl _ _).alloc (Nat.le_refl _) _, rfl, Bk.new w _ _⟩
  rw [← hU, ha0]
  have HLE := Lib.hid (show w.heap.size ≤ a0 by rw [ha0]; exact Nat.le_refl _)
  have HU := Lib.hid hub
  have HA := Lib.hid hb0
  have HS := Lib.hid (H.out.later hub)
  obtain ⟨hcl, hcf, F0, hcs, hcm⟩ := HS.out.clear
  obtain ⟨old, ho3⟩ := Option.ne_none_iff_exists'.1 hcl
  clear hU hub ha0 hb0 hcl
  go_upto_region 2 with (fail)
  obtain ⟨U1, hU1⟩ : ∃ U1, U1 = U.setCell ⟨g, 3, none⟩ (.slice none 0 0) := ⟨_, rfl⟩
  rw [← hU1] at hcs hcm ⊢
  have HS0 := Lib.hid hcs
  have HM0 := Lib.hid ((Mv.ofBelow (F := F) HU.out).trans hcm)
  have HAA := Lib.hid (HS.out.keeps hcm.turn HA.out (by decide) (by decide) (by decide))
  clear hU1 hcs hcm hcf ho3
  repeat (first | go_skip | go_guarded | go_step)
  refine (say_any U1 HS0.out).mono ?_
  rintro e w1 (⟨y, s1, v, F1, hy, rfl, ⟨A, m, c, rfl, ho, hm6⟩, hs, hm⟩ | ⟨z, hy, rfl, htn⟩)
  · have HY := Lib.hid hy
    have HA1 := Lib.hid (HS0.out.keeps hm.turn HAA.out (by decide) (by decide) (by decide))
    have HM1 := Lib.hid (HM0.out.trans hm)
    have HS1 := Lib.hid hs
    have HO1 := Lib.hid (ownBase ho HM0.out.turn.size : OwT w1 w.heap.size A c m y.2.2.2)
    have HN1 := Lib.hid (show ruleE sz s = bindE (bodyE sz s1) fun b s2 => bindE (wordE sz 8 s2) fun _ s3 => .ok ((y, b), s3) by unfold ruleE; rw [HY.out, bindE_okv])
    clear hy hs hm ho hm6
    dsimp only
    go_upto_region 3 with (fail)
    obtain ⟨V, a1, hV, hv, ha1, hb1⟩ : ∃ V a1, V = w1.alloc (.cells #[.bool y.1, .bool y.2.1.1, nv y.2.1.2, nv y.2.2.1, .slice A m c, .slice none 0 0] 54) ∧ Below w1.heap.size w1 V ∧ w1.heap.size = a1 ∧ Bk V a1 54 [.bool y.1, .bool y.2.1.1, nv y.2.1.2, nv y.2.2.1, .slice A m c, .slice none 0 0] := ⟨_, _, rfl, (Below.refl _ _).alloc (Nat.le_refl _) _, rfl, Bk.new w1 _ _⟩
    rw [← hV, ha1]
    have HSV := Lib.hid (HS1.out.later hv)
    have HMV := Lib.hid (HM1.out.later (hv.mono HM1.out.turn.size))
    have HAV := Lib.hid (HA1.out.later hv)
    have HOV := Lib.hid (ownBelow HO1.out hv (Nat.le_refl _))
    have HBV := Lib.hid hb1
    have HLE1 := Lib.hid (show w.heap.size ≤ a1 by rw [← ha1]; exact HM1.out.turn.size)
    have HNE := Lib.hid (show a0 ≠ a1 by have := HA1.out.lt; omega)
    clear hV hv ha1 hb1
    repeat (first | go_skip | go_guarded | go_step)
    by_cases hk : kindE s1.1 = 9
    · have HK := Lib.hid hk
      clear hk
      have HN2 := Lib.hid (show ruleE sz s = bindE (condsE sz 9 [] (nextE s1)) fun b s2 => bindE (takeE sz [8] s2) fun _ s3 => .ok ((y, b), s3) by
        rw [HN1.out, bodyE, if_pos HK.out]
        cases condsE sz 9 [] (nextE s1) with
        | error z => rfl
        | ok z =>
          obtain ⟨b, s2⟩ := z
          rw [bindE_okv, bindE_okv, takeE_word]
          cases takeE sz [8] s2 <;> rfl)
      refine (past_yes 9 V HSV.out (by omega) HK.out).mono ?_
      rintro e w2 ⟨F2, rfl, hs2, hm2⟩
      have HA2 := Lib.hid (HSV.out.keeps hm2.turn HAV.out (by decide) (by decide) (by decide))
      have HB2 := Lib.hid (HSV.out.keeps hm2.turn HBV.out (by decide) (by decide) (by decide))
      have HO2 := Lib.hid (HSV.out.own hm2.turn HOV.out (by decide) (by decide) (by decide))
      have HM2 := Lib.hid (HMV.out.trans hm2)
      have HS2 := Lib.hid hs2
      clear hs2 hm2
      dsimp only
      go_upto_region 4 with (fail)
      have hl : (Instr.buildSlice 91 3 #[(0, .int .u8 3), (1, .int .u8 1), (2, .int .u8 2)]).run Tryz.prog w2 = _ := run_litK3 3 1 2 w2
      have hmf : ∀ (fn : Fn) (first cap : Array Value) (w : World), (Instr.makeFunc fn first cap).run Tryz.prog w = .ok (.func fn first cap) w := fun _ _ _ _ => rfl
      have hb := (Below.refl w2.heap.size w2).alloc (Nat.le_refl _) (.cells ([3, 1, 2].map kv).toArray 5)
      have HBB := Lib.hid (Bk.new w2 5 ([3, 1, 2].map kv))
      have HSL := Lib.hid (HS2.out.later hb)
      have HAL := Lib.hid (HA2.out.later hb)
      have HBL := Lib.hid (HB2.out.later hb)
      have HML := Lib.hid (HM2.out.later (hb.mono HM2.out.turn.size))
      have HOL := Lib.hid (ownBelow HO2.out hb (Nat.le_refl _))
      clear hb
      repeat (first | go_skip | go_guarded | go_step)
      refine (listC_any _ _ HSL.out HBB.out).mono ?_
      rintro e w3 (⟨l, s3, v, F3, ht, rfl, ⟨A1, m1, c1, R, rfl, hoc, hm8⟩, hs, hm⟩ | ⟨z, ht, rfl, htn⟩)
      · have HT := Lib.hid ht
        have HC3 := Lib.hid (hoc.lower HML.out.turn.size : OwC w3 w.heap.size A1 c1 m1 R l)
        have HA3 := Lib.hid (HSL.out.keeps hm.turn HAL.out (by decide) (by decide) (by decide))
        have HB3 := Lib.hid (HSL.out.keeps hm.turn HBL.out (by decide) (by decide) (by decide))
        have HO3 := Lib.hid (HSL.out.own hm.turn HOL.out (by decide) (by decide) (by decide))
        have HM3 := Lib.hid (HML.out.trans hm)
        have HS3 := Lib.hid hs
        have d5 := HB3.out.readT (Below.refl _ _) 5 rfl
        have f5 := HB3.out.frozen 5
        have HN5 := Lib.hid (show ruleE sz s = bindE (takeE sz [8] s3) fun _ s3 => .ok ((y, l), s3) by rw [HN2.out, HT.out, bindE_okv])
        clear ht hoc hm8 hs hm hl
        dsimp only
        go_upto_region 5 with (fail)
        obtain ⟨X5, hX, hxt, hxb⟩ : ∃ X, X = w3.setCell ⟨a1, 5, none⟩ (.slice A1 m1 c1) ∧ Turn (fun k => k = a1) w3 X ∧ Bk X a1 54 [.bool y.1, .bool y.2.1.1, nv y.2.1.2, nv y.2.2.1, .slice A m c, .slice A1 m1 c1] := ⟨_, rfl, (Turn.refl (fun k => k = a1) w3).setCell (p := ⟨a1, 5, none⟩) (fun _ => rfl) _, HB3.out.set_ 5 _⟩
        rw [← hX]
        obtain ⟨q1, q2⟩ := HS3.out.box HM3.out HWB.out HB3.out HLE1.out hxt (by decide) (by decide) (by decide)
        have HS5 := Lib.hid q1
        have HM5 := Lib.hid q2
        have HA5 := Lib.hid (hxt.bk HA3.out HNE.out)
        have HB5 := Lib.hid hxb
        have HO5 := Lib.hid (hxt.own HO3.out (fun k hk e => own_far HO3.out HB3.out (by decide) (by rw [hk, e])))
        have HC5 := Lib.hid (ownC_box HC3.out HB3.out (by decide) (by decide) hxt)
        clear hX hxt hxb q1 q2 d5 f5
        have hl : (Instr.buildSlice 91 1 #[(0, .int .u8 8)]).run Tryz.prog X5 = _ := run_litK1 8 X5
        have HL := Lib.hid (litK_rd X5 [8] 1 rfl)
        have hb := (Below.refl X5.heap.size X5).alloc (Nat.le_refl _) (.cells ([8].map kv).toArray 5)
        have HSL := Lib.hid (HS5.out.later hb)
        have HAL := Lib.hid (HA5.out.later hb)
        have HBL := Lib.hid (HB5.out.later hb)
        have HML := Lib.hid (HM5.out.later (hb.mono HM5.out.turn.size))
        have HOL := Lib.hid (ownBelow HO5.out hb (Nat.le_refl _))
        have HCL := Lib.hid (HC5.out.later hb)
        clear hb
        repeat (first | go_skip | go_guarded | go_step)
        refine (take_any _ 1 1 [8] _ HSL.out HL.out (by omega) (by simp)).mono ?_
        rintro e w4 (⟨x, s4, v, F4, hx, rfl, rfl, hs, hm⟩ | ⟨z, hx, rfl, htn⟩)
        · have HX4 := Lib.hid hx
          have HA9 := Lib.hid (HSL.out.keeps hm.turn HAL.out (by decide) (by decide) (by decide))
          have HB9 := Lib.hid (HSL.out.keeps hm.turn HBL.out (by decide) (by decide) (by decide))
          have HO9 := Lib.hid (HSL.out.own hm.turn HOL.out (by decide) (by decide) (by decide))
          have HC9 := Lib.hid (HSL.out.ownC hm.turn HCL.out)
          have HM9 := Lib.hid (HML.out.trans hm)
          have HS9 := Lib.hid hs
          have d0 := HB9.out.readT (Below.refl _ _) 0 rfl
          have d1 := HB9.out.readT (Below.refl _ _) 1 rfl
          have d2 := HB9.out.readT (Below.refl _ _) 2 rfl
          have d3 := HB9.out.readT (Below.refl _ _) 3 rfl
          have d4 := HB9.out.readT (Below.refl _ _) 4 rfl
          have d5 := HB9.out.readT (Below.refl _ _) 5 rfl
          have p90 := HA9.out.readT (Below.refl _ _) 0 rfl
          have p91 := HA9.out.readT (Below.refl _ _) 1 rfl
          have p92 := HA9.out.readT (Below.refl _ _) 2 rfl
          have p93 := HA9.out.readT (Below.refl _ _) 3 rfl
          have p94 := HA9.out.readT (Below.refl _ _) 4 rfl
          have p95 := HA9.out.readT (Below.refl _ _) 5 rfl
          have g90 := HA9.out.frozen 0
          have g91 := HA9.out.frozen 1
          have g92 := HA9.out.frozen 2
          have g93 := HA9.out.frozen 3
          have g94 := HA9.out.frozen 4
          have g95 := HA9.out.frozen 5
          clear hx hm hs hl
          dsimp only
          repeat (first | go_skip | go_guarded | go_step)
          refine bodyPost_ret (v := .agg #[.bool y.1, .bool y.2.1.1, nv y.2.1.2, nv y.2.2.1, .slice A m c, .slice A1 m1 c1]) (results_cell_row rfl _ _ a0 _ _ _ _ rfl (end6 HA9.out _ _ _ _ _ _) Tryz.underlying54 rfl (by kernel_rfl)) rfl ?_
          have htt := turn6 w4 a0 (.bool y.1) (.bool y.2.1.1) (nv y.2.1.2) (nv y.2.2.1) (.slice A m c) (.slice A1 m1 c1)
          obtain ⟨q1, q2⟩ := HS9.out.box HM9.out HWB.out HA9.out HLE.out htt (by decide) (by decide) (by decide)
          exact .inl ⟨(y, l), s4, _, F4, by rw [HN5.out, HX4.out]; rfl, rfl, ⟨A, m, c, A1, m1, c1, R, rfl, htt.own HO9.out (fun k hk e => own_far HO9.out HA9.out (by decide) (by rw [hk, e])), ownC_box HC9.out HA9.out (by decide) (by decide) htt⟩, q1, q2⟩
        · exact ⟨rfl, .inr ⟨z, by rw [HN5.out, hx]; rfl, rfl, HML.out.endT htn⟩⟩
      · exact ⟨rfl, .inr ⟨z, by rw [HN2.out, ht]; rfl, rfl, HML.out.endT htn⟩⟩
    · have HK := Lib.hid hk
      clear hk
      have HN5 := Lib.hid (show ruleE sz s = bindE (takeE sz [8] s1) fun _ s3 => .ok ((y, []), s3) by
        rw [HN1.out, bodyE, if_neg HK.out, bindE_okv, takeE_word]
        cases takeE sz [8] s1 <;> rfl)
      refine (past_no 9 V HSV.out HK.out).mono ?_
      rintro e X5 ⟨rfl, rfl⟩
      have HS5 := HSV
      have HM5 := HMV
      have HA5 := HAV
      have HB5 := HBV
      have HO5 := HOV
      have HC5 := Lib.hid (OwC.nil V w.heap.size)
      clear HSV HMV HAV HBV HOV
      dsimp only
      go_upto_region 5 with (fail)
      have hl : (Instr.buildSlice 91 1 #[(0, .int .u8 8)]).run Tryz.prog V = _ := run_litK1 8 V
      have HL := Lib.hid (litK_rd V [8] 1 rfl)
      have hb := (Below.refl V.heap.size V).alloc (Nat.le_refl _) (.cells ([8].map kv).toArray 5)
      have HSL := Lib.hid (HS5.out.later hb)
      have HAL := Lib.hid (HA5.out.later hb)
      have HBL := Lib.hid (HB5.out.later hb)
      have HML := Lib.hid (HM5.out.later (hb.mono HM5.out.turn.size))
      have HOL := Lib.hid (ownBelow HO5.out hb (Nat.le_refl _))
      have HCL := Lib.hid (HC5.out.later hb)
      clear hb
      repeat (first | go_skip | go_guarded | go_step)
      refine (take_any _ 1 1 [8] _ HSL.out HL.out (by omega) (by simp)).mono ?_
      rintro e w4 (⟨x, s4, v, F4, hx, rfl, rfl, hs, hm⟩ | ⟨z, hx, rfl, htn⟩)
      · have HX4 := Lib.hid hx
        have HA9 := Lib.hid (HSL.out.keeps hm.turn HAL.out (by decide) (by decide) (by decide))
        have HB9 := Lib.hid (HSL.out.keeps hm.turn HBL.out (by decide) (by decide) (by decide))
        have HO9 := Lib.hid (HSL.out.own hm.turn HOL.out (by decide) (by decide) (by decide))
        have HC9 := Lib.hid (HSL.out.ownC hm.turn HCL.out)
        have HM9 := Lib.hid (HML.out.trans hm)
        have HS9 := Lib.hid hs
        have d0 := HB9.out.readT (Below.refl _ _) 0 rfl
        have d1 := HB9.out.readT (Below.refl _ _) 1 rfl
        have d2 := HB9.out.readT (Below.refl _ _) 2 rfl
        have d3 := HB9.out.readT (Below.refl _ _) 3 rfl
        have d4 := HB9.out.readT (Below.refl _ _) 4 rfl
        have d5 := HB9.out.readT (Below.refl _ _) 5 rfl
        have p90 := HA9.out.readT (Below.refl _ _) 0 rfl
        have p91 := HA9.out.readT (Below.refl _ _) 1 rfl
        have p92 := HA9.out.readT (Below.refl _ _) 2 rfl
        have p93 := HA9.out.readT (Below.refl _ _) 3 rfl
        have p94 := HA9.out.readT (Below.refl _ _) 4 rfl
        have p95 := HA9.out.readT (Below.refl _ _) 5 rfl
        have g90 := HA9.out.frozen 0
        have g91 := HA9.out.frozen 1
        have g92 := HA9.out.frozen 2
        have g93 := HA9.out.frozen 3
        have g94 := HA9.out.frozen 4
        have g95 := HA9.out.frozen 5
        clear hx hm hs hl
        dsimp only
        repeat (first | go_skip | go_guarded | go_step)
        refine bodyPost_ret (v := .agg #[.bool y.1, .bool y.2.1.1, nv y.2.1.2, nv y.2.2.1, .slice A m c, .slice none 0 0]) (results_cell_row rfl _ _ a0 _ _ _ _ rfl (end6 HA9.out _ _ _ _ _ _) Tryz.underlying54 rfl (by kernel_rfl)) rfl ?_
        have htt := turn6 w4 a0 (.bool y.1) (.bool y.2.1.1) (nv y.2.1.2) (nv y.2.2.1) (.slice A m c) (.slice none 0 0)
        obtain ⟨q1, q2⟩ := HS9.out.box HM9.out HWB.out HA9.out HLE.out htt (by decide) (by decide) (by decide)
        exact .inl ⟨(y, []), s4, _, F4, by rw [HN5.out, HX4.out]; rfl, rfl, ⟨A, m, c, none, 0, 0, [], rfl, htt.own HO9.out (fun k hk e => own_far HO9.out HA9.out (by decide) (by rw [hk, e])), ownC_box HC9.out HA9.out (by decide) (by decide) htt⟩, q1, q2⟩
      · exact ⟨rfl, .inr ⟨z, by rw [HN5.out, hx]; rfl, rfl, HML.out.endT htn⟩⟩
  · exact ⟨rfl, .inr ⟨z, by unfold ruleE; rw [hy]; rfl, rfl, HM0.out.endT htn⟩⟩
end
end Go.Proofs.YtoigpbajefkpoaaGreatDoor

set_option linter.unusedVariables false
set_option linter.unusedSimpArgs false
namespace Go.Proofs.YtoigpbajefkpoaaGreatDoor
open Go Go.RowKit

theorem putNew8 {l : List ByteArray} {x : ByteArray} {r : List ByteArray} (h : Good 4096 (l ++ x :: r)) : putL l x = (l ++ [x], l.length, 0) := by
  have hm : mayB x = true := h.may x (by simp)
  have hn : findO l x = none := by
    refine findO_none fun j y hj e => ?_
    subst e
    have := h.nodup
    rw [List.nodup_append] at this
    exact this.2.2 y (List.mem_of_getElem? hj) y (by simp) rfl
  have hl := h.len
  simp only [List.length_append, List.length_cons] at hl
  unfold putL
  rw [hm, if_neg (by decide), hn]
  dsimp only
  rw [if_neg (by omega)]
section
variable {gt : Nat} {Ft : Nat → Prop} {l0 : List ByteArray} {sz wb : Nat} {F F2 : Nat → Prop} {g : Nat} {s s2 : PS} {w w2 Z : World}
/-- What turns with a table's blocks leaves rows of rules. -/
theorem tabRules {G : Nat → Prop} {q : Nat} {ls : List ByteArray} {base : Nat} {A : Option Addr} {c n : Nat} {Q : List RlA} {L : List Rl} {w' : World} (ht : Tb w q G ls) (hv : Turn G w w') (ho : OwRs w base A c n Q L) : OwRs w' base A c n Q L :=
  ho.map fun e s v n xs he ho => hv.own ho (fun k hk hG => by
    obtain ⟨cs, t, fr, hh, rfl⟩ := own_type ho hk
    rcases ht.types hG hh with e1 | e1 <;> rcases he with e2 | e2 | e2 <;> rw [e1] at e2 <;> exact absurd e2 (by decide))
set_option maxRecDepth 100000 in
set_option maxHeartbeats 8000000 in
theorem policy_any (w : World) (h : LSt gt Ft l0 sz wb w F g s) :
    Calls Tryz.prog 31 #[.pointer (some ⟨g, 0, none⟩)] w fun e w' =>
      (∃ rs s' A n c Q Ft', rulesE sz s.1.length [] s = .ok (rs, s') ∧ e = .returned (.slice A n c) ∧ OwRs w' w.heap.size A c n Q rs ∧ n ≤ 70000 ∧ Tb w' gt Ft' s'.2.1 ∧ Turn (fun k => F k ∨ Ft k) w w' ∧ (∀ k, Ft' k → Ft k ∨ w.heap.size ≤ k)) ∨
      (∃ z, rulesE sz s.1.length [] s = .error z ∧ e = pnc z ∧ Turn F w w') := by
  have H := Lib.hid h
  have HLN := Lib.hid (show s.1.length ≤ 70000 by
    obtain ⟨o, c0, r0, f0, hc0, e0, e1, e2, hbl, hln⟩ := h.head
    exact hln)
  clear h
  go_enter Tryz.func31, Tryz.ntmps31
  repeat (first | go_skip | go_guarded | go_step)
  go_loopw [2] (fun l' wr => ∃ (i : Nat) (A' : Option Addr) (c' : Nat) (Q : List RlA) (L : List Rl) (s1 : PS) (F1 : Nat → Prop) (m : Nat), l' = .slice A' i c' ∧ OwRs wr w.heap.size A' c' i Q L ∧ LSt gt Ft l0 sz wb wr F1 g s1 ∧ Mv F F1 w wr ∧ i + s1.1.length ≤ s.1.length ∧ s1.1.length ≤ m ∧
      rulesE sz m L s1 = rulesE sz s.1.length [] s) (fun _ wr => slN (wr.cell? ⟨g, 0, none⟩))
  case atStart => exact ⟨0, none, 0, [], [], s, F, s.1.length, rfl, OwRs.nil _ _, H.out, Mv.refl _ _, by omega, Nat.le_refl _, rfl⟩
  case round =>
    obtain ⟨i, A', c', Q, L, s1, F1, m, rfl, ho, hs, hm, hil, hml, hru⟩ := hrel
    have HO := Lib.hid ho
    have HS := Lib.hid hs
    have HM := Lib.hid hm
    have HIL := Lib.hid hil
    have HML := Lib.hid hml
    have HRU := Lib.hid hru
    obtain ⟨o, c0, r0, f0, hc0, _, _, _, _, _⟩ := hs.head
    have R0 := Lib.hid r0
    clear ho hs hm hil hml hru f0 hc0
    by_cases hnil : s1.1 = []
    · obtain ⟨ln, hln⟩ : ∃ ln, ln = s1.1.length + 1 := ⟨_, rfl⟩
      rw [← hln] at r0
      have hd : decide ((1 : Int) < (ln : Int)) = false := by rw [hln, hnil]; rfl
      have HR := Lib.hid (show rulesE sz s.1.length [] s = .ok (L, s1) by rw [← HRU.out, rules_end hnil])
      clear hln hnil
      have HI := Lib.hid (show i ≤ 70000 by have := HIL.out; have := HLN.out; omega)
      clear HRU HIL HML R0
      obtain ⟨gf, Ff, ns, r1, r2, hf, hsn, htu, hput⟩ := HS.out.open_
      have HF := Lib.hid hf
      have HSN := Lib.hid hsn
      have HTB := Lib.hid HS.out.tab
      have HGS := Lib.hid HS.out.gs
      have HNS := Lib.hid (show ns.length ≤ 4096 by have := HS.out.gs.good.len; rw [hsn] at this; simp at this; omega)
      clear hf hsn htu hput
      repeat (first | go_skip | go_guarded | go_step)
      refine (tList gf Ff ns wr HF.out (by have := HNS.out; omega)).mono ?_
      rintro e w1 ⟨A1, c1, rfl, ho1, hb1⟩
      have HNR := Lib.hid ho1
      have HO1 := Lib.hid (HO.out.later hb1)
      have HT1 := Lib.hid (HTB.out.later hb1)
      obtain ⟨cs, hcs⟩ := HS.out.bk
      have HBG := Lib.hid (hcs.later hb1)
      have HCG := Lib.hid ((hcs.later hb1).cell 1)
      have hcg : cs[1]? = some (.pointer (some ⟨gt, 0, none⟩)) := by rw [← hcs.cell 1]; exact r1
      have HC1 := Lib.hid hcg
      have HM1 := Lib.hid ((HM.out.later (hb1.mono HM.out.turn.size)).turn)
      have HW1 := Lib.hid (show w.heap.size ≤ w1.heap.size from Nat.le_trans HM.out.turn.size hb1.size)
      have HDJ := Lib.hid (show ∀ k, (Value.slice A1 ns.length c1).ownBlock = some k → ¬ Ft k from fun k hk hf => by
        have h1 := (World.ownsRow.lt ho1 k hk).1
        have h2 := HTB.out.lt k hf
        omega)
      obtain ⟨n, hn⟩ : ∃ n, n = ns.length := ⟨_, rfl⟩
      have HN := Lib.hid hn
      rw [← hn] at HNR HDJ ⊢
      have hn4 : n ≤ 4096 := by have := HNS.out; omega
      clear ho1 hb1 hcs hcg r0 r1 r2 hd hn
      dsimp only
      repeat (first | go_skip | go_guarded | go_step)
      rename World => wq
      go_loopw [22] (fun p wr2 => ∃ (j : Nat) (Ft' : Nat → Prop), j ≤ n ∧ p = .int .i64 (j : Int) ∧ Tb wr2 gt Ft' (l0 ++ ns.take j) ∧ OwRs wr2 w.heap.size A' c' i Q L ∧ OwS wr2 0 A1 c1 n ns ∧ (∀ k, (Value.slice A1 n c1).ownBlock = some k → ¬ Ft' k) ∧ Bk wr2 g LT cs ∧ Turn (fun k => F k ∨ Ft k) w wr2 ∧ (∀ k, Ft' k → Ft k ∨ w.heap.size ≤ k)) (fun p _ => n - (intOf p).toNat)
      case atStart => exact ⟨0, Ft, by omega, rfl, by simpa using HT1.out, HO1.out, ownBase HNR.out (Nat.zero_le _), HDJ.out, HBG.out, HM1.out.mono (fun k _ h => .inl h), fun k h => .inl h⟩
      case round =>
        obtain ⟨j, Ft', hj, rfl, ht, ho, hr, hdj, hbk, htu, hgr⟩ := hrel
        have HT2 := Lib.hid ht
        have HO2 := Lib.hid ho
        have HR2 := Lib.hid hr
        have HD2 := Lib.hid hdj
        have HB2 := Lib.hid hbk
        have HTU := Lib.hid htu
        have HGR := Lib.hid hgr
        have cg := (hbk.cell 1).trans HC1.out
        clear ht ho hr hdj hbk htu hgr
        by_cases hlt : j < n
        · have hci : (j : Int) < (n : Int) := by omega
          obtain ⟨b, o2, u, hA, hbb, hu, hc⟩ := (Rd.ofOwn HR2.out).at1 hlt
          subst hA
          obtain ⟨x, hx⟩ : ∃ x, ns[j]? = some x := ⟨_, List.getElem?_eq_getElem (by rw [← HN.out]; exact hlt)⟩
          rw [List.getElem?_map, hx] at hu
          simp only [Option.map_some, Option.some.injEq] at hu
          subst hu
          have HX := Lib.hid hx
          have HTK := Lib.hid (show ns.take (j + 1) = ns.take j ++ [x] by rw [List.take_add_one, hx]; rfl)
          have hgd := HGS.out.good
          rw [HSN.out] at hgd
          have HPN := Lib.hid (putNew8 (l := l0 ++ ns.take j) (x := x) (r := ns.drop (j + 1)) (by
            rw [List.append_assoc]
            have h1 : ns.take j ++ x :: ns.drop (j + 1) = ns := by
              rw [show x :: ns.drop (j + 1) = ns.drop j by rw [List.drop_eq_getElem_cons (i := j) (l := ns) (by rw [← HN.out]; exact hlt)]; congr 1; exact ((List.getElem?_eq_some_iff.1 hx).2).symm, List.take_append_drop]
            rw [h1]
            exact hgd))
          have HSZ := Lib.hid (show x.size ≤ 32 by
            have h1 := hgd.may x (by simp [List.mem_of_getElem? hx])
            unfold mayB at h1
            simp only [Bool.and_eq_true, decide_eq_true_eq] at h1
            omega)
          have HLL := Lib.hid (show (l0 ++ ns.take j).length ≤ 1000000 by have := hgd.len; simp at this ⊢; omega)
          clear hx hgd
          repeat (first | go_skip | go_guarded | go_step)
          rename World => wz
          refine (tPut gt Ft' (l0 ++ ns.take j) x _ HT2.out HLL.out (by have := HSZ.out; omega) (fun W => may_ok8 x W (by have := HSZ.out; omega))).mono ?_
          rintro e V ⟨rfl, F2, hT2, hV2, hF2⟩
          rw [HPN.out] at hT2 ⊢
          have HT3 := Lib.hid (show Tb V gt F2 (l0 ++ ns.take (j + 1)) by rw [HTK.out, ← List.append_assoc]; exact hT2)
          have HV2 := Lib.hid hV2
          have HF2 := Lib.hid hF2
          clear hT2 hV2 hF2 cg hc
          dsimp only
          repeat (first | go_skip | go_guarded | go_step)
          go_roundw
          case rel => exact ⟨j + 1, F2, by omega, by go_num, HT3.out, tabRules HT2.out HV2.out HO2.out, HV2.out.own HR2.out HD2.out, fun k hk hf => by
            rcases HF2.out k hf with h | h
            · exact HD2.out k hk h
            · have := (World.ownsRow.lt HR2.out k hk).2
              omega, HV2.out.bk HB2.out (fun hf => by rcases HT2.out.types hf HB2.out with e | e <;> exact absurd e (by decide)), HTU.out.then_ HV2.out (fun k hk hf => by
            rcases HGR.out k hf with h | h
            · exact .inr h
            · omega), fun k hf => by
            rcases HF2.out k hf with h | h
            · exact HGR.out k h
            · right
              have := HTU.out.size
              omega⟩
          case measure => simp [intOf] <;> omega
        · obtain rfl : j = n := by omega
          repeat (first | go_skip | go_guarded | go_step)
          go_ret
          refine .inl ⟨L, s1, A', i, c', Q, Ft', HR.out, rfl, HO2.out, HI.out, ?_, HTU.out, HGR.out⟩
          have := HT2.out
          rw [HN.out, List.take_length, ← HSN.out] at this
          exact this
    · obtain ⟨ln, hln⟩ : ∃ ln, ln = s1.1.length + 1 := ⟨_, rfl⟩
      rw [← hln] at r0
      have hln2 : 2 ≤ ln := by have := List.length_pos_iff.2 hnil; omega
      have hd : decide ((1 : Int) < (ln : Int)) = true := by simp; omega
      have HNIL := Lib.hid hnil
      obtain ⟨m2, hm2⟩ : ∃ m2, m = m2 + 1 := ⟨m - 1, by have := List.length_pos_iff.2 hnil; have := HML.out; omega⟩
      have HN := Lib.hid (show rulesE sz s.1.length [] s = bindE (ruleE sz s1) fun r s2 => rulesE sz m2 (L ++ [r]) s2 by rw [← HRU.out, hm2, rules_go HNIL.out])
      have HMM := Lib.hid hm2
      clear hnil hln hln2 hm2
      repeat (first | go_skip | go_guarded | go_step)
      rename World => wz
      refine (rule_any _ HS.out).mono ?_
      rintro e w2 (⟨r, s2, v, F2, hr, rfl, ⟨Ar, mr, cr, A1, m1, c1, R, rfl, hot, hoc⟩, hs, hm⟩ | ⟨z, hr, rfl, htn⟩)
      · have HLT := Lib.hid (rules_len hr)
        have HO2 := Lib.hid (HS.out.ownR hm.turn HO.out)
        have HOT2 := Lib.hid (ownBase hot HM.out.turn.size : OwT w2 w.heap.size Ar cr mr r.1.2.2.2)
        have HOC2 := Lib.hid (hoc.lower HM.out.turn.size : OwC w2 w.heap.size A1 c1 m1 R r.2)
        have HM2 := Lib.hid (HM.out.trans hm)
        have HS2 := Lib.hid hs
        have HN2 := Lib.hid (show rulesE sz s.1.length [] s = rulesE sz m2 (L ++ [r]) s2 by rw [HN.out, hr, bindE_okv])
        have hlit := run_litR r.1.1 r.1.2.1.1 r.1.2.1.2 r.1.2.2.1 Ar mr cr A1 m1 c1 w2
        have hbx : Below w2.heap.size w2 (w2.alloc (.cells #[.bool r.1.1, .bool r.1.2.1.1, nv r.1.2.1.2, nv r.1.2.2.1, .slice Ar mr cr, .slice A1 m1 c1] 54)) := (Below.refl _ _).alloc (Nat.le_refl _) _
        have HRX := Lib.hid (show Rd (w2.alloc (.cells #[.bool r.1.1, .bool r.1.2.1.1, nv r.1.2.1.2, nv r.1.2.2.1, .slice Ar mr cr, .slice A1 m1 c1] 54)) (w2.alloc (.cells #[.bool r.1.1, .bool r.1.2.1.1, nv r.1.2.1.2, nv r.1.2.2.1, .slice Ar mr cr, .slice A1 m1 c1] 54)).heap.size 6 (some ⟨w2.heap.size, 0, none⟩) 1 (ruC (r, ((Ar, mr, cr), (A1, m1, c1), R))) from bk_rd6 (Bk.new w2 _ [.bool r.1.1, .bool r.1.2.1.1, nv r.1.2.1.2, nv r.1.2.2.1, .slice Ar mr cr, .slice A1 m1 c1]) rfl)
        have HOX := Lib.hid (HO2.out.later hbx)
        have HOTX := Lib.hid (ownBelow HOT2.out hbx (Nat.le_refl _))
        have HOCX := Lib.hid (HOC2.out.later hbx)
        have HMX := Lib.hid (HM2.out.later (hbx.mono HM2.out.turn.size))
        have HSX := Lib.hid (HS2.out.later hbx)
        have HIB := Lib.hid (show i + 1 ≤ 1000000 by have := HIL.out; have := HLN.out; omega)
        clear hm hs hr hbx hot hoc r0 hd
        dsimp only
        repeat (first
          | (at_builtin; refine appRl _ rfl (.tmp 11) (.tmp 14) rfl w.heap.size A' c' i Q L rfl HOX.out _ _ 1 r ((Ar, mr, cr), (A1, m1, c1), R) rfl HRX.out (by have := HIB.out; omega) HMX.out.turn.size HOTX.out HOCX.out ?_
             intro A6 c6 V6 ho6 hg6
             have HS6 := Lib.hid (HSX.out.grown HOX.out.top hg6 (by decide) (by decide) (by decide) (by decide))
             have HM6 := Lib.hid (HMX.out.later ((Below.refl w.heap.size (w2.alloc (.cells #[.bool r.1.1, .bool r.1.2.1.1, nv r.1.2.1.2, nv r.1.2.2.1, .slice Ar mr cr, .slice A1 m1 c1] 54))).grown hg6 HMX.out.turn.size (fun k hk => (World.ownsRow.lt HOX.out.top k hk).1)))
             have HO6 := Lib.hid ho6
             clear hlit hg6 ho6)
          | go_skip | go_guarded | go_step)
        go_roundw
        case rel => exact ⟨i + 1, A6, c6, Q ++ [((Ar, mr, cr), (A1, m1, c1), R)], L ++ [r], s2, F2, m2, rfl, HO6.out, HS6.out, HM6.out, by have := HIL.out; have := HLT.out; omega, by have := HLT.out; have := HML.out; have := HMM.out; omega, HN2.out.symm⟩
        case measure =>
          obtain ⟨o6, c06, r06, _, _, _, _, _, _, _⟩ := HS6.out.head
          rw [r06, R0.out]
          have := HLT.out
          show s2.1.length + 1 < s1.1.length + 1
          omega
      · exact ⟨rfl, .inr ⟨z, by rw [HN.out, hr]; rfl, rfl, HM.out.endT htn⟩⟩
end
end Go.Proofs.YtoigpbajefkpoaaGreatDoor

set_option linter.unusedVariables false
set_option linter.unusedSimpArgs false
namespace Go.Proofs.YtoigpbajefkpoaaGreatDoor
open Go Go.RowKit Go.Extern.Stop Go.Stop Go.Extern

abbrev WT : TypeId := 144
abbrev WP : TypeId := 146
abbrev ER : TypeId := 120
abbrev RY : TypeId := 180
abbrev RV : TypeId := 164
/-- The handle of a type: behind the package-level variables. -/
abbrev hdl (t : TypeId) : Value := .pointer (some ⟨5, t, none⟩)
/-- What errors.errorType holds. -/
abbrev errT : Value := .iface RY (.agg #[hdl ER])
/-- The world in which it holds that. -/
def Laid (w : World) : Prop := w.cell? ⟨0, 0, none⟩ = some errT
theorem Laid.pos {w : World} (h : Laid w) : 0 < w.heap.size := by
 rcases Nat.eq_zero_or_pos w.heap.size with h0 | h1
 ·
  simp [Laid, World.cell?, h0] at h
 ·
  exact h1
theorem Laid.later {w w' : World} (h : Laid w) (hb : Below w.heap.size w w') : Laid w' := (hb.cell (p := ⟨0, 0, none⟩) h.pos).trans h
theorem Laid.turn {G : Nat → Prop} {w w' : World} (h : Laid w) (ht : Turn G w w') (hn : ¬ G 0) : Laid w' := (ht.cell (p := ⟨0, 0, none⟩) h.pos hn).trans h
theorem valueOfP (t : Addr) (w : World) : (ReflectliteValue.unpack (.iface WP (.pointer (some t)))).run Tryz.prog w = .ok (.agg #[hdl WP, .pointer (some ⟨w.heap.size, 0, none⟩), .int .u64 150]) (w.alloc (.cells #[.pointer (some t)] WP)) := by kernel_rfl
theorem typeP (a : Addr) (w : World) : (ReflectliteValue.methodAny (ReflectliteValue.valueError "reflectlite.Value.Type" 0) (fun t _ _ _ => ReflectliteType.toType t) #[.agg #[hdl WP, .pointer (some a), .int .u64 150]]).run Tryz.prog w = .ok (.iface RY (.agg #[hdl WP])) w := by kernel_rfl
theorem methodKind (h : Value) (w : World) : (Go.method 350 RY (.agg #[h]) "Kind").run Tryz.prog w = .ok (158, h) w := by kernel_rfl
theorem kindP (w : World) : ((ReflectliteType.abiMethod fun t => (fun a : Nat => Value.int IntKind.u8 (a : Int)) <$> Rtype.kind t) #[hdl WP]).run Tryz.prog w = .ok (.int .u8 22) w := by kernel_rfl
theorem kindW (w : World) : ((ReflectliteType.abiMethod fun t => (fun a : Nat => Value.int IntKind.u8 (a : Int)) <$> Rtype.kind t) #[hdl WT]).run Tryz.prog w = .ok (.int .u8 25) w := by kernel_rfl
theorem rlmW (z : Sem Value) (f : TypeId → Addr → Nat → Nat → Sem Value) (v : Value) :
  ReflectliteValue.method z f #[v] = (do match ← ReflectliteValue.parts v with | none => z | some (t, a, fl) => f t a fl (fl % 32)) := rfl
theorem partsP (a : Addr) (w : World) : (ReflectliteValue.parts (.agg #[hdl WP, .pointer (some a), .int .u64 150])).run Tryz.prog w = .ok (some (WP, a, 150)) w := by kernel_rfl
theorem isNilP (a p : Addr) (W : World) (ha : W.cell? a = some (.pointer (some p))) :
  (ReflectliteValue.method (ReflectliteValue.valueError "reflectlite.Value.IsNil" 0) ReflectliteValue.isNil #[.agg #[hdl WP, .pointer (some a), .int .u64 150]]).run Tryz.prog W = .ok (.bool false) W := by
 rw [rlmW]
 simp only [Sem.run_bind, partsP, Result.andThen]
 simp [ReflectliteValue.isNil, loadVar, isAgg, underlying, Tryz.underlying146, ha, Result.andThen]
theorem methodElem (h : Value) (w : World) : (Go.method 350 RY (.agg #[h]) "Elem").run Tryz.prog w = .ok (170, .agg #[h]) w := by kernel_rfl
theorem methodImplements (h : Value) (w : World) : (Go.method 350 RY (.agg #[h]) "Implements").run Tryz.prog w = .ok (171, .agg #[h]) w := by kernel_rfl
theorem methodAssignableTo (h : Value) (w : World) : (Go.method 350 RY (.agg #[h]) "AssignableTo").run Tryz.prog w = .ok (168, .agg #[h]) w := by kernel_rfl
theorem elemP (w : World) : (ReflectliteType.method ReflectliteType.elem #[.agg #[hdl WP]]).run Tryz.prog w = .ok (.iface RY (.agg #[hdl WT])) w := by kernel_rfl
theorem implementsW (w : World) : (ReflectliteType.relation "Implements" ReflectliteType.implements_ #[.agg #[hdl WT], errT]).run Tryz.prog w = .ok (.bool true) w := by kernel_rfl
theorem typeOfW (v : Value) (w : World) : (ReflectliteType.typeOf #[.iface WT v]).run Tryz.prog w = .ok (.iface RY (.agg #[hdl WT])) w := by kernel_rfl
theorem assignableW (w : World) : (ReflectliteType.relation "AssignableTo" ReflectliteType.assignableTo #[.agg #[hdl WT], .iface RY (.agg #[hdl WT])]).run Tryz.prog w = .ok (.bool true) w := by kernel_rfl
theorem valueOfW (x y : Int) (w : World) : (ReflectliteValue.unpack (.iface WT (.agg #[.int .i64 x, .int .i64 y]))).run Tryz.prog w = .ok (.agg #[hdl WT, .pointer (some ⟨w.heap.size, 0, none⟩), .int .u64 153]) (w.alloc (.cells #[.int .i64 x, .int .i64 y] WT)) := by kernel_rfl
theorem elemOfP (w : World) : (Rtype.elem? WP).run Tryz.prog w = .ok (some WT) w := by kernel_rfl
theorem mkW (p : Addr) (w : World) : (ReflectliteValue.mk WT p ReflectliteValue.flagAddr).run Tryz.prog w = .ok (.agg #[hdl WT, .pointer (some p), .int .u64 409]) w := by kernel_rfl
theorem elemVP (a p : Addr) (W : World) (ha : W.cell? a = some (.pointer (some p))) :
  (ReflectliteValue.method (ReflectliteValue.valueError "reflectlite.Value.Elem" 0) ReflectliteValue.elem #[.agg #[hdl WP, .pointer (some a), .int .u64 150]]).run Tryz.prog W
   = .ok (.agg #[hdl WT, .pointer (some p), .int .u64 409]) W := by
 rw [rlmW]
 simp only [Sem.run_bind, partsP, Result.andThen]
 simp [ReflectliteValue.elem, loadVar, isAgg, underlying, Tryz.underlying146, ha, Result.andThen, elemOfP, mkW]
theorem rlsW (v x : Value) : ReflectliteValue.set #[v, x] = (do
  let (some (dst, a, fl), some (src, b, _)) := (← ReflectliteValue.parts v, ← ReflectliteValue.parts x)
   | unsupported (.noEntry "extern/(internal/reflectlite.Value).Set.zeroValue")
  if fl / ReflectliteValue.flagAddr % 2 == 0 then unsupported (.noEntry "extern/(internal/reflectlite.Value).Set.unaddressable")
  let val ← loadVar src b
  if ← Rtype.directlyAssignable dst src then storeVar dst a val
  else if ← Rtype.implements dst src then
   if (← Rtype.kind src) == 20 then
    match val with
    | .nilIface => unsupported (.noEntry "extern/reflectlite: a nil value of one interface type handed on as a value of another")
    | _ => storeVar dst a val
   else storeVar dst a (.iface src val)
  else panicString ("reflectlite.Set: value of type " ++ (← Rtype.spelt src) ++ " is not assignable to type " ++ (← Rtype.spelt dst))
  pure (.tuple #[])) := rfl
theorem partsWa (a : Addr) (w : World) : (ReflectliteValue.parts (.agg #[hdl WT, .pointer (some a), .int .u64 409])).run Tryz.prog w = .ok (some (WT, a, 409)) w := by kernel_rfl
theorem partsWb (a : Addr) (w : World) : (ReflectliteValue.parts (.agg #[hdl WT, .pointer (some a), .int .u64 153])).run Tryz.prog w = .ok (some (WT, a, 153)) w := by kernel_rfl
theorem directW (w : World) : (Rtype.directlyAssignable WT WT).run Tryz.prog w = .ok true w := by kernel_rfl
theorem setW (ta b : Nat) (x y : Int) (old0 old1 : Value) (W : World) (hb : Bk W b WT [.int .i64 x, .int .i64 y]) (ht : Bk W ta WT [old0, old1]) :
  (ReflectliteValue.set #[.agg #[hdl WT, .pointer (some ⟨ta, 0, none⟩), .int .u64 409], .agg #[hdl WT, .pointer (some ⟨b, 0, none⟩), .int .u64 153]]).run Tryz.prog W
   = .ok (.tuple #[]) ((W.setCell ⟨ta, 0, none⟩ (.int .i64 x)).setCell ⟨ta, 1, none⟩ (.int .i64 y)) := by
 have hl := run_loadVar_row W b WT WT #[.int .i64 x, .int .i64 y] (0, 0) _ hb Tryz.underlying144 rfl (by kernel_rfl)
 rw [rlsW]
 simp only [Sem.run_bind, partsWa, partsWb, Result.andThen]
 simp [ReflectliteValue.flagAddr, hl, Result.andThen, directW, storeVar, Value.cells, storeCells, Addr.add]
 have t0 := ht.readT (Below.refl _ _) 0 rfl
 have f0 := ht.frozen 0
 have ht2 := ht.set_ 0 (.int .i64 x)
 have t1 := ht2.readT (Below.refl _ _) 1 rfl
 have f1 := ht2.frozen 1
 rw [run_store Tryz.prog W ⟨ta, 0, none⟩ _ _ (by rfl), t0, f0]
 dsimp only [Bool.false_eq_true, if_false]
 rw [if_neg (by decide)]
 dsimp only
 rw [run_store Tryz.prog _ ⟨ta, 1, none⟩ _ _ (by rfl), t1, f1]
 dsimp only
 rw [if_neg (by decide)]

set_option maxRecDepth 100000 in
set_option maxHeartbeats 4000000 in
theorem asW_any (x y : Int) (t a : Nat) (old0 old1 : Value) (w : World) (ht : Bk w t WT [old0, old1]) (ha : Bk w a WP [.pointer (some ⟨t, 0, none⟩)]) :
  Calls Tryz.prog 99 #[.iface WT (.agg #[.int .i64 x, .int .i64 y]), .iface WP (.pointer (some ⟨t, 0, none⟩)), .agg #[hdl WP, .pointer (some ⟨a, 0, none⟩), .int .u64 150], .iface RY (.agg #[hdl WT])] w fun e w' => e = .returned (.bool true) ∧ Bk w' t WT [.int .i64 x, .int .i64 y] ∧ Turn (fun k => k = t) w w' := by
 have h96 := @run_callFunc_extern Tryz.prog 96 _ (fun args => ReflectliteValue.unpack (args.getD 0 (.tuple #[]))) Tryz.func96 (by kernel_rfl) (by kernel_rfl) (by kernel_rfl) (by kernel_rfl)
 have h112 := @run_callFunc_extern Tryz.prog 112 _ ReflectliteType.typeOf Tryz.func112 (by kernel_rfl) (by kernel_rfl) (by kernel_rfl) (by kernel_rfl)
 have h168 := @run_callFunc_extern Tryz.prog 168 _ (ReflectliteType.relation "AssignableTo" ReflectliteType.assignableTo) Tryz.func168 (by kernel_rfl) (by kernel_rfl) (by kernel_rfl) (by kernel_rfl)
 have h113 := @run_callFunc_extern Tryz.prog 113 _ (ReflectliteValue.method (ReflectliteValue.valueError "reflectlite.Value.Elem" 0) ReflectliteValue.elem) Tryz.func113 (by kernel_rfl) (by kernel_rfl) (by kernel_rfl) (by kernel_rfl)
 have h114 := @run_callFunc_extern Tryz.prog 114 _ ReflectliteValue.set Tryz.func114 (by kernel_rfl) (by kernel_rfl) (by kernel_rfl) (by kernel_rfl)
 have tO := typeOfW
 have mA := methodAssignableTo
 have aW := assignableW
 have vW := valueOfW
 have HT := Lib.hid ht
 have HA := Lib.hid ha
 clear ht ha
 go_enter Tryz.func99, Tryz.ntmps99
 go_upto_region 1 with (fail)
 obtain ⟨U, r, hU, hub, hr, hbr⟩ : ∃ U r, U = w.alloc (.cells #[hdl WP, .pointer (some ⟨a, 0, none⟩), .int .u64 150] RV) ∧ Below w.heap.size w U ∧ w.heap.size = r ∧ Bk U r RV [hdl WP, .pointer (some ⟨a, 0, none⟩), .int .u64 150] := ⟨_, _, rfl, (Below.refl _ _).alloc (Nat.le_refl _) _, rfl, Bk.new w _ _⟩
 rw [← hU, hr]
 have k0 := hbr.readT (Below.refl _ _) 0 rfl
 have k1 := hbr.readT (Below.refl _ _) 1 rfl
 have k2 := hbr.readT (Below.refl _ _) 2 rfl
 have el := elemVP ⟨a, 0, none⟩ ⟨t, 0, none⟩ U ((HA.out.later hub).readT (Below.refl _ _) 0 rfl)
 have hbx : Below U.heap.size U (U.alloc (.cells #[.int .i64 x, .int .i64 y] WT)) := (Below.refl _ _).alloc (Nat.le_refl _) _
 have HTX := Lib.hid ((HT.out.later hub).later hbx)
 have st := setW t U.heap.size x y old0 old1 (U.alloc (.cells #[.int .i64 x, .int .i64 y] WT)) (Bk.new U _ _) HTX.out
 have HBX := Lib.hid (hub.trans (hbx.mono hub.size))
 clear hU hub hr hbr hbx
 refine wp_loop_rounds 1 ?_
 rw [rounds_succ]
 repeat (first | go_skip | go_guarded | go_step)
 go_ret
 refine ⟨rfl, (HTX.out.set_ 0 _).set_ 1 _, ?_⟩
 exact ((Turn.ofBelow (G := fun k => k = t) HBX.out).setCell (p := ⟨t, 0, none⟩) (fun _ => rfl) _).setCell (p := ⟨t, 1, none⟩) (fun _ => rfl) _
end Go.Proofs.YtoigpbajefkpoaaGreatDoor

