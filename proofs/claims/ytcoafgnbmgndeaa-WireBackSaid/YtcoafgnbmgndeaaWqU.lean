/- Layer 6 (wire), the program's TakeFact, TakeClause, TakeRule. -/
import Derived.Test.YtcoafgnbmgndeaaWqT
import Derived.Test.YtcoafgnbmgndeaaWrP
set_option linter.unusedVariables false
set_option linter.unusedSimpArgs false
namespace Go.Proofs.Ytcoafgnbmgndeaa
open Go Go.RowKit

set_option maxRecDepth 100000 in
set_option maxHeartbeats 8000000 in
theorem takeFactO_any (A : Option Addr) (n c : Nat) (t : Int) (bs : List UInt8) (w : World) (hr : Rd w w.heap.size 1 A n (bs.map bv)) (hc : n ≤ c) (hm : n ≤ 1000000) :
    Calls Try.prog 15 #[.slice A n c, .int .i64 t] w fun e w' => ∃ (p : UInt32) (A1 : Option Addr) (m1 c1 : Nat) (l : List UInt32) (y z : Nat), e = .returned (.tuple #[.agg #[nv p, .slice A1 m1 c1], .int .i64 (y : Int), .int .i64 (z : Int)]) ∧ OwU w' w.heap.size A1 c1 m1 l ∧ m1 ≤ c1 ∧ m1 ≤ 6 ∧ Below w.heap.size w w' ∧ ((p, l), y, z) = takeAns rFact zF bs t := by
  obtain ⟨U, hU, hh, hb⟩ : ∃ U, U = w.alloc (.cells #[.int .u32 0, .slice none 0 0] 26) ∧ Bk U w.heap.size 26 [.int .u32 0, .slice none 0 0] ∧ Below w.heap.size w U := ⟨_, rfl, Bk.new w _ _, (Below.refl _ _).alloc (Nat.le_refl _) _⟩
  have HU := Lib.hid hU
  have HH := Lib.hid hh
  have HB := Lib.hid hb
  have HR := Lib.hid ((hr.below hb).more hb.size)
  have HL := Lib.hid hh.lt
  clear hU hh hb hr
  go_enter Try.func15, Try.ntmps15
  go_upto_region 1 with (fail)
  rw [← HU.out]
  clear HU
  generalize hhh : w.heap.size = h at HH HL ⊢
  repeat (first | go_skip | go_guarded | go_step)
  refine (takeFactG_any A n c t bs U HR.out hc hm).mono ?_
  rintro e w2 ⟨p, A1, m1, c1, l, y, z, rfl, ho1, hc1, hs1, hb2, hans⟩
  have HH2 := Lib.hid (HH.out.later hb2)
  have HB2 := Lib.hid (HB.out.trans (hb2.mono HB.out.size))
  have HA := Lib.hid hans
  have HO1 := Lib.hid ho1

  have r0 := HH2.out.readT (Below.refl _ _) 0 rfl
  have f0 := HH2.out.frozen 0
  have r1 := HH2.out.readT (Below.refl _ _) 1 rfl
  have f1 := HH2.out.frozen 1
  clear hb2 hans ho1
  dsimp only
  repeat (first | go_skip | go_guarded | go_step)
  refine bodyPost_ret (v := .tuple #[.agg #[nv p, .slice A1 m1 c1], .int .i64 (y : Int), .int .i64 (z : Int)]) ?_ rfl ⟨p, A1, m1, c1, l, y, z, rfl, ownLower ((((Turn.refl (fun k => k = h) w2).setCell (p := ⟨h, 0, none⟩) (fun _ => rfl) _).setCell (p := ⟨h, 1, none⟩) (fun _ => rfl) _).own HO1.out (fun k hk e => by have := (World.ownsRow.lt HO1.out k hk).1; have := HL.out; omega)) HB.out.size, hc1, hs1, (Below.setCell (Below.setCell HB2.out (p := ⟨h, 0, none⟩) (by show w.heap.size ≤ h; omega) _) (p := ⟨h, 1, none⟩) (by show w.heap.size ≤ h; omega) _), HA.out⟩
  · have hq := ((HH2.out.set_ 0 (nv p)).set_ 1 (.slice A1 m1 c1))
    have q0 := hq.readT (Below.refl _ _) 0 rfl
    have q1 := hq.readT (Below.refl _ _) 1 rfl
    simp [results, Try.results15, go_sem, q0, q1]
theorem takeFact_any : TakeFactOk := by
  intro A n c t bs w hr hc hm _ _
  refine (takeFactO_any A n c t bs w hr hc hm).mono ?_
  rintro e w' ⟨p, A1, m1, c1, l, y, z, rfl, ho1, hc1, hs1, hb, ha⟩
  exact ⟨p, A1, m1, c1, l, y, z, rfl, OwU.rd ho1, hc1, hs1, hb, ha⟩

set_option maxRecDepth 100000 in
set_option maxHeartbeats 8000000 in
theorem takeClauseO_any (A : Option Addr) (n c : Nat) (t : Int) (bs : List UInt8) (w : World) (hr : Rd w w.heap.size 1 A n (bs.map bv)) (hc : n ≤ c) (hm : n ≤ 1000000) :
    Calls Try.prog 22 #[.slice A n c, .int .i64 t] w fun e w' => ∃ (p : UInt32) (A1 : Option Addr) (m1 c1 : Nat) (l : List Tm) (A2 : Option Addr) (m2 c2 : Nat) (R2 : List SlA) (L2 : List Li) (y z : Nat), e = .returned (.tuple #[.agg #[nv p, .slice A1 m1 c1, .slice A2 m2 c2], .int .i64 (y : Int), .int .i64 (z : Int)]) ∧ OwT w' w.heap.size A1 c1 m1 l ∧ OwL w' w.heap.size A2 c2 m2 R2 L2 ∧ m1 ≤ c1 ∧ m2 ≤ c2 ∧ m1 ≤ 6 ∧ m2 ≤ 8 ∧ (∀ x ∈ L2, x.2.2.length ≤ 6) ∧ Below w.heap.size w w' ∧ (((p, l), L2), y, z) = takeAns rClause zC bs t := by
  obtain ⟨U, hU, hh, hb⟩ : ∃ U, U = w.alloc (.cells #[.int .u32 0, .slice none 0 0, .slice none 0 0] 45) ∧ Bk U w.heap.size 45 [.int .u32 0, .slice none 0 0, .slice none 0 0] ∧ Below w.heap.size w U := ⟨_, rfl, Bk.new w _ _, (Below.refl _ _).alloc (Nat.le_refl _) _⟩
  have HU := Lib.hid hU
  have HH := Lib.hid hh
  have HB := Lib.hid hb
  have HR := Lib.hid ((hr.below hb).more hb.size)
  have HL := Lib.hid hh.lt
  clear hU hh hb hr
  go_enter Try.func22, Try.ntmps22
  go_upto_region 1 with (fail)
  rw [← HU.out]
  clear HU
  generalize hhh : w.heap.size = h at HH HL ⊢
  repeat (first | go_skip | go_guarded | go_step)
  refine (takeClauseG_any A n c t bs U HR.out hc hm).mono ?_
  rintro e w2 ⟨p, A1, m1, c1, l, A2, m2, c2, R2, L2, y, z, rfl, ho1, ho2, hc1, hc2, hs1, hs2, hs3, hb2, hans⟩
  have HH2 := Lib.hid (HH.out.later hb2)
  have HB2 := Lib.hid (HB.out.trans (hb2.mono HB.out.size))
  have HA := Lib.hid hans
  have HO1 := Lib.hid ho1
  have HO2 := Lib.hid ho2
  have r0 := HH2.out.readT (Below.refl _ _) 0 rfl
  have f0 := HH2.out.frozen 0
  have r1 := HH2.out.readT (Below.refl _ _) 1 rfl
  have f1 := HH2.out.frozen 1
  have r2 := HH2.out.readT (Below.refl _ _) 2 rfl
  have f2 := HH2.out.frozen 2
  clear hb2 hans ho1 ho2
  dsimp only
  repeat (first | go_skip | go_guarded | go_step)
  refine bodyPost_ret (v := .tuple #[.agg #[nv p, .slice A1 m1 c1, .slice A2 m2 c2], .int .i64 (y : Int), .int .i64 (z : Int)]) ?_ rfl ⟨p, A1, m1, c1, l, A2, m2, c2, R2, L2, y, z, rfl, ownLower (((((Turn.refl (fun k => k = h) w2).setCell (p := ⟨h, 0, none⟩) (fun _ => rfl) _).setCell (p := ⟨h, 1, none⟩) (fun _ => rfl) _).setCell (p := ⟨h, 2, none⟩) (fun _ => rfl) _).own HO1.out (fun k hk e => by have := (World.ownsRow.lt HO1.out k hk).1; have := HL.out; omega)) HB.out.size, OwG.lower (HO2.out.turn ((((Turn.refl (fun k => k = h) w2).setCell (p := ⟨h, 0, none⟩) (fun _ => rfl) _).setCell (p := ⟨h, 1, none⟩) (fun _ => rfl) _).setCell (p := ⟨h, 2, none⟩) (fun _ => rfl) _) (fun k hk e => by have := HL.out; omega)) HB.out.size, hc1, hc2, hs1, hs2, hs3, (Below.setCell (Below.setCell (Below.setCell HB2.out (p := ⟨h, 0, none⟩) (by show w.heap.size ≤ h; omega) _) (p := ⟨h, 1, none⟩) (by show w.heap.size ≤ h; omega) _) (p := ⟨h, 2, none⟩) (by show w.heap.size ≤ h; omega) _), HA.out⟩
  · have hq := (((HH2.out.set_ 0 (nv p)).set_ 1 (.slice A1 m1 c1)).set_ 2 (.slice A2 m2 c2))
    have q0 := hq.readT (Below.refl _ _) 0 rfl
    have q1 := hq.readT (Below.refl _ _) 1 rfl
    have q2 := hq.readT (Below.refl _ _) 2 rfl
    simp [results, Try.results22, go_sem, q0, q1, q2]
theorem takeClause_any : TakeClauseOk := by
  intro A n c t bs w hr hc hm _ _
  refine (takeClauseO_any A n c t bs w hr hc hm).mono ?_
  rintro e w' ⟨p, A1, m1, c1, l, A2, m2, c2, R2, L2, y, z, rfl, ho1, ho2, u1, u2, u3, u4, u5, hb, ha⟩
  exact ⟨p, A1, m1, c1, l, A2, m2, c2, R2, L2, y, z, rfl, OwT.rd ho1, OwL.rd ho2, u1, u2, u3, u4, u5, hb, ha⟩

set_option maxRecDepth 100000 in
set_option maxHeartbeats 8000000 in
theorem takeRuleO_any (A : Option Addr) (n c : Nat) (t : Int) (bs : List UInt8) (w : World) (hr : Rd w w.heap.size 1 A n (bs.map bv)) (hc : n ≤ c) (hm : n ≤ 1000000) :
    Calls Try.prog 30 #[.slice A n c, .int .i64 t] w fun e w' => ∃ (s0 : Bool) (x0 : Tm) (p : UInt32) (A1 : Option Addr) (m1 c1 : Nat) (l : List Tm) (A2 : Option Addr) (m2 c2 : Nat) (R2 : List SlA) (L2 : List Co) (y z : Nat), e = .returned (.tuple #[.agg #[.bool s0, .bool x0.1, nv x0.2, nv p, .slice A1 m1 c1, .slice A2 m2 c2], .int .i64 (y : Int), .int .i64 (z : Int)]) ∧ OwT w' w.heap.size A1 c1 m1 l ∧ OwK w' w.heap.size A2 c2 m2 R2 L2 ∧ m1 ≤ c1 ∧ m2 ≤ c2 ∧ m1 ≤ 6 ∧ m2 ≤ 8 ∧ (∀ x ∈ L2, x.2.2.2.2.length ≤ 6) ∧ Below w.heap.size w w' ∧ (((s0, x0, (p, l)), L2), y, z) = takeAns rRule zR bs t := by
  obtain ⟨U, hU, hh, hb⟩ : ∃ U, U = w.alloc (.cells #[.bool false, .bool false, .int .u32 0, .int .u32 0, .slice none 0 0, .slice none 0 0] 59) ∧ Bk U w.heap.size 59 [.bool false, .bool false, .int .u32 0, .int .u32 0, .slice none 0 0, .slice none 0 0] ∧ Below w.heap.size w U := ⟨_, rfl, Bk.new w _ _, (Below.refl _ _).alloc (Nat.le_refl _) _⟩
  have HU := Lib.hid hU
  have HH := Lib.hid hh
  have HB := Lib.hid hb
  have HR := Lib.hid ((hr.below hb).more hb.size)
  have HL := Lib.hid hh.lt
  clear hU hh hb hr
  go_enter Try.func30, Try.ntmps30
  go_upto_region 1 with (fail)
  rw [← HU.out]
  clear HU
  generalize hhh : w.heap.size = h at HH HL ⊢
  repeat (first | go_skip | go_guarded | go_step)
  refine (takeRuleG_any A n c t bs U HR.out hc hm).mono ?_
  rintro e w2 ⟨s0, x0, x1, p, A1, m1, c1, l, A2, m2, c2, R2, L2, y, z, rfl, ho1, ho2, hc1, hc2, hs1, hs2, hs3, hb2, hans⟩
  have HH2 := Lib.hid (HH.out.later hb2)
  have HB2 := Lib.hid (HB.out.trans (hb2.mono HB.out.size))
  have HA := Lib.hid hans
  have HO1 := Lib.hid ho1
  have HO2 := Lib.hid ho2
  have r0 := HH2.out.readT (Below.refl _ _) 0 rfl
  have f0 := HH2.out.frozen 0
  have r1 := HH2.out.readT (Below.refl _ _) 1 rfl
  have f1 := HH2.out.frozen 1
  have r2 := HH2.out.readT (Below.refl _ _) 2 rfl
  have f2 := HH2.out.frozen 2
  have r3 := HH2.out.readT (Below.refl _ _) 3 rfl
  have f3 := HH2.out.frozen 3
  have r4 := HH2.out.readT (Below.refl _ _) 4 rfl
  have f4 := HH2.out.frozen 4
  have r5 := HH2.out.readT (Below.refl _ _) 5 rfl
  have f5 := HH2.out.frozen 5
  clear hb2 hans ho1 ho2
  dsimp only
  repeat (first | go_skip | go_guarded | go_step)
  refine bodyPost_ret (v := .tuple #[.agg #[.bool s0, .bool x0, nv x1, nv p, .slice A1 m1 c1, .slice A2 m2 c2], .int .i64 (y : Int), .int .i64 (z : Int)]) ?_ rfl ⟨s0, (x0, x1), p, A1, m1, c1, l, A2, m2, c2, R2, L2, y, z, rfl, ownLower ((((((((Turn.refl (fun k => k = h) w2).setCell (p := ⟨h, 0, none⟩) (fun _ => rfl) _).setCell (p := ⟨h, 1, none⟩) (fun _ => rfl) _).setCell (p := ⟨h, 2, none⟩) (fun _ => rfl) _).setCell (p := ⟨h, 3, none⟩) (fun _ => rfl) _).setCell (p := ⟨h, 4, none⟩) (fun _ => rfl) _).setCell (p := ⟨h, 5, none⟩) (fun _ => rfl) _).own HO1.out (fun k hk e => by have := (World.ownsRow.lt HO1.out k hk).1; have := HL.out; omega)) HB.out.size, OwG.lower (HO2.out.turn (((((((Turn.refl (fun k => k = h) w2).setCell (p := ⟨h, 0, none⟩) (fun _ => rfl) _).setCell (p := ⟨h, 1, none⟩) (fun _ => rfl) _).setCell (p := ⟨h, 2, none⟩) (fun _ => rfl) _).setCell (p := ⟨h, 3, none⟩) (fun _ => rfl) _).setCell (p := ⟨h, 4, none⟩) (fun _ => rfl) _).setCell (p := ⟨h, 5, none⟩) (fun _ => rfl) _) (fun k hk e => by have := HL.out; omega)) HB.out.size, hc1, hc2, hs1, hs2, hs3, (Below.setCell (Below.setCell (Below.setCell (Below.setCell (Below.setCell (Below.setCell HB2.out (p := ⟨h, 0, none⟩) (by show w.heap.size ≤ h; omega) _) (p := ⟨h, 1, none⟩) (by show w.heap.size ≤ h; omega) _) (p := ⟨h, 2, none⟩) (by show w.heap.size ≤ h; omega) _) (p := ⟨h, 3, none⟩) (by show w.heap.size ≤ h; omega) _) (p := ⟨h, 4, none⟩) (by show w.heap.size ≤ h; omega) _) (p := ⟨h, 5, none⟩) (by show w.heap.size ≤ h; omega) _), HA.out⟩
  · have hq := ((((((HH2.out.set_ 0 (.bool s0)).set_ 1 (.bool x0)).set_ 2 (nv x1)).set_ 3 (nv p)).set_ 4 (.slice A1 m1 c1)).set_ 5 (.slice A2 m2 c2))
    have q0 := hq.readT (Below.refl _ _) 0 rfl
    have q1 := hq.readT (Below.refl _ _) 1 rfl
    have q2 := hq.readT (Below.refl _ _) 2 rfl
    have q3 := hq.readT (Below.refl _ _) 3 rfl
    have q4 := hq.readT (Below.refl _ _) 4 rfl
    have q5 := hq.readT (Below.refl _ _) 5 rfl
    simp [results, Try.results30, go_sem, q0, q1, q2, q3, q4, q5]
theorem takeRule_any : TakeRuleOk := by
  intro A n c t bs w hr hc hm _ _
  refine (takeRuleO_any A n c t bs w hr hc hm).mono ?_
  rintro e w' ⟨s0, ⟨x0, x1⟩, p, A1, m1, c1, l, A2, m2, c2, R2, L2, y, z, rfl, ho1, ho2, u1, u2, u3, u4, u5, hb, ha⟩
  exact ⟨s0, (x0, x1), p, A1, m1, c1, l, A2, m2, c2, R2, L2, y, z, rfl, OwT.rd ho1, OwK.rd ho2, u1, u2, u3, u4, u5, hb, ha⟩
end Go.Proofs.Ytcoafgnbmgndeaa
