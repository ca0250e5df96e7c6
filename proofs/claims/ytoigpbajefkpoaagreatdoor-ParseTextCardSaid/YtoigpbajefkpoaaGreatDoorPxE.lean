/- Texts, packed: PaB PaC -/
import Derived.Test.YtoigpbajefkpoaaGreatDoorPxC
import Derived.Test.YtoigpbajefkpoaaGreatDoorPxD
import Derived.Lib.OthersKept
set_option linter.unusedVariables false
set_option linter.unusedSimpArgs false
namespace Go.Proofs.YtoigpbajefkpoaaGreatDoor
open Go Go.RowKit

/-- The parser's fields as they lie in memory. -/
abbrev pzC (AW : Option Addr) (nW cW k sz : Nat) (AN : Option Addr) (nN cN : Nat) (AV : Option Addr) (nV cV e a : Nat) : List Value :=
  [.slice AW nW cW, .int .i64 (k : Int), .int .i64 (sz : Int), .slice AN nN cN, .slice AV nV cV, .int .i64 (e : Int), .int .i64 (a : Int)]
abbrev PT : TypeId := 83
theorem drop_at {ws : List Wd} {i : Nat} {x : Wd} (h : ws[i]? = some x) : ws.drop i = x :: ws.drop (i + 1) := by
  obtain ⟨hi, h2⟩ := List.getElem?_eq_some_iff.1 h
  rw [List.drop_eq_getElem_cons hi, h2]

section
variable {AW : Option Addr} {nW cW k sz : Nat} {AN : Option Addr} {nN cN : Nat} {AV : Option Addr} {nV cV e0 a0 : Nat} {g : Nat}
set_option maxRecDepth 100000 in
set_option maxHeartbeats 4000000 in
theorem pKind_any (h : Nat) (ws : List Wd) (w : World) (hb : Bk w g PT (pzC AW nW cW k sz AN nN cN AV nV cV e0 a0)) (hr : RdV w w.heap.size AW nW ws) (hk : k ≤ nW) (hn : nW ≤ 1000000) (hh : h ≤ 1) :
    Calls Tryz.prog 58 #[.pointer (some ⟨g, 0, none⟩), .int .i64 (h : Int)] w fun e w' => e = .returned (.int .u8 (kindE (ws.drop (k + h)) : Int)) ∧ ∃ q, w' = w.drewN q := by
  have c0 : ∀ q, (w.drewN q).cell? ⟨g, 0, none⟩ = some (.slice AW nW cW) := fun _ => hb.cell 0
  have c1 : ∀ q, (w.drewN q).cell? ⟨g, 1, none⟩ = some (.int .i64 (k : Int)) := fun _ => hb.cell 1
  have hwr : wrap64 ((k : Int) + (h : Int)) = (k : Int) + (h : Int) := by simp [wrap64]; omega
  have HLW := Lib.hid (rdV_len hr)
  by_cases hlt : k + h < nW
  · have d0 : decide ((nW : Int) ≤ (k : Int) + (h : Int)) = false := by simp; omega
    obtain ⟨b, o, ⟨kk, t, a⟩, hA, hbb, hx, hc0, hc1, hc2⟩ := rdV_at hr hlt
    subst hA
    dsimp only at hc0
    have hci : ((k : Int) + (h : Int)) < (nW : Int) := by omega
    have r0 : ∀ q, (w.drewN q).cell? ⟨b, o + (k + h) * 3, none⟩ = some (.int .u8 (kk : Int)) := fun _ => hc0
    have HK := Lib.hid (show kindE (ws.drop (k + h)) = kk by rw [drop_at hx]; rfl)
    have htn : ((k : Int) + (h : Int)).toNat = k + h := by omega
    clear hc0 hc1 hc2 hx hr hb
    go_enter Tryz.func58, Tryz.ntmps58
    repeat (first | go_skip | go_guarded | go_step)
    change Code.wp _ _ _ _ (w.drewN 0)
    go_quiet (fail)
    repeat (first | go_skip | go_guarded | go_step)
    go_quiet (fail)
    repeat (first | go_skip | go_guarded | go_step)
    go_ret
    exact ⟨by rw [HK.out]; rfl, _, by first | rfl | (repeat rw [World.drewN_drewN])⟩
  · have d0 : decide ((nW : Int) ≤ (k : Int) + (h : Int)) = true := by simp; omega
    have HK := Lib.hid (show kindE (ws.drop (k + h)) = 0 by rw [List.drop_of_length_le (by have := HLW.out; omega)]; rfl)
    clear hr hb
    go_enter Tryz.func58, Tryz.ntmps58
    repeat (first | go_skip | go_guarded | go_step)
    change Code.wp _ _ _ _ (w.drewN 0)
    go_quiet (fail)
    repeat (first | go_skip | go_guarded | go_step)
    go_ret
    exact ⟨by rw [HK.out]; rfl, _, by first | rfl | (repeat rw [World.drewN_drewN])⟩

set_option maxRecDepth 100000 in
set_option maxHeartbeats 4000000 in
theorem pPlace_any (ws : List Wd) (w : World) (hb : Bk w g PT (pzC AW nW cW k sz AN nN cN AV nV cV e0 a0)) (hr : RdV w w.heap.size AW nW ws) (hk : k ≤ nW) (hn : nW ≤ 1000000) :
    Calls Tryz.prog 86 #[.pointer (some ⟨g, 0, none⟩)] w fun e w' => e = .returned (.int .i64 (placeE sz (ws.drop k) : Int)) ∧ ∃ q, w' = w.drewN q := by
  have c0 : ∀ q, (w.drewN q).cell? ⟨g, 0, none⟩ = some (.slice AW nW cW) := fun _ => hb.cell 0
  have c1 : ∀ q, (w.drewN q).cell? ⟨g, 1, none⟩ = some (.int .i64 (k : Int)) := fun _ => hb.cell 1
  have c2 : ∀ q, (w.drewN q).cell? ⟨g, 2, none⟩ = some (.int .i64 (sz : Int)) := fun _ => hb.cell 2
  have HLW := Lib.hid (rdV_len hr)
  by_cases hlt : k < nW
  · have d0 : decide ((nW : Int) ≤ (k : Int)) = false := by simp; omega
    have d1 : decide (nW ≤ k) = false := by simp; omega
    obtain ⟨b, o, ⟨kk, t, a⟩, hA, hbb, hx, hc0, hc1, hc2⟩ := rdV_at hr hlt
    subst hA
    dsimp only at hc2
    have hci : (k : Int) < (nW : Int) := by omega
    have r0 : ∀ q, (w.drewN q).cell? ⟨b, o + k * 3 + 2, none⟩ = some (.int .i64 (a : Int)) := fun _ => hc2
    have HK := Lib.hid (show placeE sz (ws.drop k) = a by rw [drop_at hx]; rfl)
    clear hc0 hc1 hc2 hx hr hb
    go_enter Tryz.func86, Tryz.ntmps86
    repeat (first | go_skip | go_guarded | go_step)
    change Code.wp _ _ _ _ (w.drewN 0)
    go_quiet (fail)
    repeat (first | go_skip | go_guarded | go_step)
    go_quiet (fail)
    repeat (first | go_skip | go_guarded | go_step)
    go_ret
    exact ⟨by rw [HK.out]; rfl, _, by first | rfl | (repeat rw [World.drewN_drewN])⟩
  · have d0 : decide ((nW : Int) ≤ (k : Int)) = true := by simp; omega
    have d1 : decide (nW ≤ k) = true := by simp; omega
    have HK := Lib.hid (show placeE sz (ws.drop k) = sz by rw [List.drop_of_length_le (by have := HLW.out; omega)]; rfl)
    clear hr hb
    go_enter Tryz.func86, Tryz.ntmps86
    repeat (first | go_skip | go_guarded | go_step)
    change Code.wp _ _ _ _ (w.drewN 0)
    go_quiet (fail)
    repeat (first | go_skip | go_guarded | go_step)
    go_ret
    exact ⟨by rw [HK.out]; rfl, _, by first | rfl | (repeat rw [World.drewN_drewN])⟩

theorem own_far {w : World} {base : Nat} {e T : TypeId} {s n : Nat} {v : Value} {xs cs : List Value} (h : w.ownsRow base e s v n xs) (hb : Bk w g T cs) (hT : T ≠ e) : v.ownBlock ≠ some g := by
  rcases h.2 with ⟨rfl, _⟩ | ⟨g', cap, cur, rfl, _, hg, _⟩
  · simp [Value.ownBlock]
  · intro h
    simp only [Value.ownBlock, Option.some.injEq] at h
    subst h
    unfold Bk at hb
    rw [hg] at hb
    simp only [Option.some.injEq, Obj.cells.injEq] at hb
    exact hT hb.2.1.symm
/-- The parser's own block alone turns. -/
abbrev Only (g : Nat) (w w' : World) : Prop := Turn (fun j => j = g) w w'
theorem own_only {w w' : World} {base : Nat} {e T : TypeId} {s n : Nat} {v : Value} {xs cs : List Value} (h : w.ownsRow base e s v n xs) (hb : Bk w g T cs) (hT : T ≠ e) (ht : Only g w w') : w'.ownsRow base e s v n xs :=
  ht.own h fun k hk e => own_far h hb hT (hk.trans (by rw [e]))

set_option maxRecDepth 100000 in
set_option maxHeartbeats 4000000 in
theorem pWrong_any (x base : Nat) (ws : List Wd) (w : World) (hb : Bk w g PT (pzC AW nW cW k sz AN nN cN AV nV cV e0 a0)) (hw : OwV 127 w base AW cW nW ws) (hk : k ≤ nW) (hn : nW ≤ 1000000) :
    Calls Tryz.prog 60 #[.pointer (some ⟨g, 0, none⟩), .int .i64 (x : Int)] w fun e w' => e = .returned (.tuple #[]) ∧ Bk w' g PT (pzC AW nW cW k sz AN nN cN AV nV cV (if e0 = 0 then x else e0) (if e0 = 0 then placeE sz (ws.drop k) else a0)) ∧ Only g w w' := by
  have c5 := hb.cell 5
  dsimp only [pzC, List.getElem?_cons_succ, List.getElem?_cons_zero] at c5
  have f5 := hb.frozen 5
  have hgl := hb.lt
  by_cases h0 : e0 = 0
  · subst h0
    rw [if_pos rfl, if_pos rfl]
    obtain ⟨w1, hw1⟩ : ∃ w1, w1 = w.setCell ⟨g, 5, none⟩ (.int .i64 (x : Int)) := ⟨_, rfl⟩
    have hb1 : Bk w1 g PT (pzC AW nW cW k sz AN nN cN AV nV cV x a0) := by rw [hw1]; exact hb.set_ 5 _
    have ht1 : Only g w w1 := by rw [hw1]; exact Turn.setCell (G := fun j => j = g) (Turn.refl _ w) (fun _ => rfl) _
    have hr1 : RdV w1 w1.heap.size AW nW ws := OwV.rd (own_only hw hb (by decide) ht1)
    have HP := Lib.hid (pPlace_any ws w1 hb1 hr1 hk hn)
    have HB1 := Lib.hid hb1
    have HT1 := Lib.hid ht1
    have f6 : w1.frozen? ⟨g, 6, none⟩ = false := hb1.frozen 6
    have c6 : w1.cell? ⟨g, 6, none⟩ = some (.int .i64 (a0 : Int)) := hb1.cell 6
    have HW1 := Lib.hid hw1
    clear hb hw hb1 ht1 hr1 hw1
    go_enter Tryz.func60, Tryz.ntmps60
    repeat (first | go_skip | go_guarded | go_step)
    rw [← HW1.out]
    refine HP.out.mono ?_
    rintro e w2 ⟨rfl, q, rfl⟩
    dsimp only
    repeat (first | go_skip | go_guarded | go_step)
    go_end0
    refine ⟨rfl, Bk.set_ (w := w1.drewN q) HB1.out 6 _, ?_⟩
    exact Turn.setCell (G := fun j => j = g) (w' := w1.drewN q) ⟨HT1.out.os, HT1.out.tape, HT1.out.output, HT1.out.size, HT1.out.block⟩ (fun _ => rfl) _
  · rw [if_neg h0, if_neg h0]
    have dz : ((e0 : Int) == 0) = false := by rw [beq_eq_false_iff_ne]; omega
    have HB := Lib.hid hb
    clear hb hw
    go_enter Tryz.func60, Tryz.ntmps60
    repeat (first | go_skip | go_guarded | go_step)
    go_end0
    exact ⟨rfl, HB.out, Turn.refl _ _⟩

set_option maxRecDepth 100000 in
set_option maxHeartbeats 4000000 in
theorem pWord_any (x base : Nat) (ws : List Wd) (w : World) (hb : Bk w g PT (pzC AW nW cW k sz AN nN cN AV nV cV e0 a0)) (hw : OwV 127 w base AW cW nW ws) (hk : k ≤ nW) (hn : nW ≤ 1000000) (hx : 1 ≤ x) :
    Calls Tryz.prog 61 #[.pointer (some ⟨g, 0, none⟩), .int .u8 (x : Int)] w fun e w' => Only g w w' ∧
      ((e0 = 0 ∧ kindE (ws.drop k) = x ∧ e = .returned (sv (txE (ws.drop k))) ∧ k + 1 ≤ nW ∧ Bk w' g PT (pzC AW nW cW (k + 1) sz AN nN cN AV nV cV 0 a0)) ∨
       (e0 = 0 ∧ kindE (ws.drop k) ≠ x ∧ e = .returned (sv ⟨#[]⟩) ∧ Bk w' g PT (pzC AW nW cW k sz AN nN cN AV nV cV 5 (placeE sz (ws.drop k)))) ∨
       (e0 ≠ 0 ∧ e = .returned (sv ⟨#[]⟩) ∧ Bk w' g PT (pzC AW nW cW k sz AN nN cN AV nV cV e0 a0))) := by
  have c5 := hb.cell 5
  dsimp only [pzC, List.getElem?_cons_succ, List.getElem?_cons_zero] at c5
  have hr := OwV.rd hw
  by_cases h0 : e0 = 0
  · subst h0
    have hkd := pKind_any 0 ws w hb hr hk hn (by omega)
    simp only [Nat.add_zero] at hkd
    have HKD := Lib.hid hkd
    clear hkd
    by_cases hkx : kindE (ws.drop k) = x
    · have hlt : k < nW := by
        by_cases h : k < nW
        · exact h
        · exfalso
          rw [List.drop_of_length_le (by rw [rdV_len hr]; omega)] at hkx
          simp only [kindE] at hkx
          omega
      obtain ⟨b, o, ⟨kk, t, a⟩, hA, hbb, hx2, hc0, hc1, hc2⟩ := rdV_at hr hlt
      have HKX := Lib.hid hkx
      have HTX := Lib.hid (show txE (ws.drop k) = ⟨t.toArray⟩ by rw [drop_at hx2]; rfl)
      obtain ⟨w1, hw1⟩ : ∃ w1 : Nat → World, w1 = fun q => (w.drewN q).setCell ⟨g, 1, none⟩ (.int .i64 ((k : Int) + 1)) := ⟨_, rfl⟩
      have hb1 : ∀ q, Bk (w1 q) g PT (pzC AW nW cW (k + 1) sz AN nN cN AV nV cV 0 a0) := fun q => by
        rw [hw1]
        have := Bk.set_ (w := w.drewN q) hb 1 (.int .i64 ((k : Int) + 1))
        exact this
      have ht1 : ∀ q, Only g w (w1 q) := fun q => by
        rw [hw1]
        exact Turn.setCell (G := fun j => j = g) (w' := w.drewN q) (Turn.ofBelow (belowDrews (Below.refl _ w) q)) (fun _ => rfl) _
      have hr1 : ∀ q, RdV (w1 q) (w1 q).heap.size AW nW ws := fun q => OwV.rd (own_only hw hb (by decide) (ht1 q))
      have r1 : ∀ q m, ((w1 q).drewN m).cell? ⟨b, o + k * 3 + 1, none⟩ = some (sv ⟨t.toArray⟩) := fun q m => by
        obtain ⟨b', o', ⟨kk', t', a'⟩, hA', _, hx2', _, hc1', _⟩ := rdV_at (hr1 q) hlt
        rw [hx2] at hx2'
        obtain ⟨rfl, rfl, rfl⟩ := Prod.mk.injEq _ _ _ _ ▸ (Option.some.inj hx2')
        rw [hA] at hA'
        simp only [Option.some.injEq, Addr.mk.injEq] at hA'
        obtain ⟨rfl, rfl, _⟩ := hA'
        exact hc1'
      have d0 : ∀ q m, ((w1 q).drewN m).cell? ⟨g, 0, none⟩ = some (.slice AW nW cW) := fun q _ => (hb1 q).cell 0
      have d1 : ∀ q m, ((w1 q).drewN m).cell? ⟨g, 1, none⟩ = some (.int .i64 ((k : Int) + 1)) := fun q _ => (hb1 q).cell 1
      have c1 : ∀ q, (w.drewN q).cell? ⟨g, 1, none⟩ = some (.int .i64 (k : Int)) := fun _ => hb.cell 1
      have f1 : w.frozen? ⟨g, 1, none⟩ = false := hb.frozen 1
      have c1' : w.cell? ⟨g, 1, none⟩ = some (.int .i64 (k : Int)) := hb.cell 1
      have HB1 := Lib.hid hb1
      have HT1 := Lib.hid ht1
      have hci : (k : Int) < (nW : Int) := by omega
      subst hA
      have HW1 := Lib.hid hw1
      clear hb hw hr hc0 hc1 hc2 hkx hx2 hb1 ht1 hr1 hw1
      go_enter Tryz.func61, Tryz.ntmps61
      repeat (first | go_skip | go_guarded | go_step)
      refine HKD.out.mono ?_
      rintro e wv ⟨rfl, q, rfl⟩
      rw [HKX.out]
      dsimp only
      repeat (first | go_skip | go_guarded | go_step)
      have e1 : (w.drewN q).setCell ⟨g, 1, none⟩ (.int .i64 ((k : Int) + 1)) = (w1 q).drewN 0 := by rw [HW1.out]; rfl
      rw [e1]
      clear e1
      go_quiet (fail)
      repeat (first | go_skip | go_guarded | go_step)
      go_ret
      exact ⟨⟨(HT1.out q).os, (HT1.out q).tape, (HT1.out q).output, (HT1.out q).size, (HT1.out q).block⟩, Or.inl ⟨by trivial, HKX.out, by rw [HTX.out]; rfl, by omega, HB1.out q⟩⟩
    · have HNX := Lib.hid hkx
      have dx : ((kindE (ws.drop k) : Int) != (x : Int)) = true := by rw [bne_iff_ne]; omega
      have HWR := Lib.hid (fun q => pWrong_any (AW := AW) (nW := nW) (cW := cW) (k := k) (sz := sz) (AN := AN) (nN := nN) (cN := cN) (AV := AV) (nV := nV) (cV := cV) (e0 := 0) (a0 := a0) (g := g) 5 base ws (w.drewN q) hb hw hk hn)
      have HPL := Lib.hid (rfl : placeE sz (ws.drop k) = placeE sz (ws.drop k))
      clear hb hw hr hkx
      go_enter Tryz.func61, Tryz.ntmps61
      repeat (first | go_skip | go_guarded | go_step)
      refine HKD.out.mono ?_
      rintro e wv ⟨rfl, q, rfl⟩
      dsimp only
      repeat (first | go_skip | go_guarded | go_step)
      refine (HWR.out q).mono ?_
      rintro e wv ⟨rfl, hb2, ht2⟩
      have HB2 := Lib.hid hb2
      have HT2 := Lib.hid (Turn.trans (Turn.ofBelow (G := fun j => j = g) (belowDrews (Below.refl _ w) q)) ht2)
      clear hb2 ht2
      dsimp only
      repeat (first | go_skip | go_guarded | go_step)
      go_ret
      refine ⟨HT2.out, Or.inr (Or.inl ⟨by trivial, HNX.out, rfl, ?_⟩)⟩
      have := HB2.out
      rw [if_pos rfl, if_pos rfl] at this
      exact this
  · have dz : ((e0 : Int) != 0) = true := by rw [bne_iff_ne]; omega
    have HWR := Lib.hid (pWrong_any 5 base ws w hb hw hk hn)
    have HE := Lib.hid h0
    clear hb hw hr h0
    go_enter Tryz.func61, Tryz.ntmps61
    repeat (first | go_skip | go_guarded | go_step)
    refine HWR.out.mono ?_
    rintro e wv ⟨rfl, hb2, ht2⟩
    have HB2 := Lib.hid hb2
    have HT2 := Lib.hid ht2
    clear hb2 ht2
    dsimp only
    repeat (first | go_skip | go_guarded | go_step)
    go_ret
    refine ⟨HT2.out, Or.inr (Or.inr ⟨HE.out, rfl, ?_⟩)⟩
    have := HB2.out
    rw [if_neg HE.out, if_neg HE.out] at this
    exact this
end
end Go.Proofs.YtoigpbajefkpoaaGreatDoor

set_option linter.unusedVariables false
set_option linter.unusedSimpArgs false
namespace Go.Proofs.YtoigpbajefkpoaaGreatDoor
open Go Go.RowKit

set_option maxRecDepth 100000 in
set_option maxHeartbeats 4000000 in
theorem pIndex_any (A : Option Addr) (n c : Nat) (l : List ByteArray) (s : ByteArray) (w : World) (hr : Rd w w.heap.size 1 A n (l.map sv)) (hn : n ≤ 1000000) :
  Calls Tryz.prog 106 #[.slice A n c, sv s] w fun e w' => e = .returned (.int .i64 (findZ l s)) ∧ w = w' := by
 have HL := Lib.hid (show l.length = n by simpa using hr.len1)
 have HR := Lib.hid hr
 clear hr
 go_enter Tryz.func106, Tryz.ntmps106
 repeat (first | go_skip | go_guarded | go_step)
 go_loop [5] (fun p => ∃ i : Nat, i ≤ n ∧ p = .int .i64 (i : Int) ∧ ∀ (j : Nat) (x : ByteArray), j < i → l[j]? = some x → x ≠ s) (fun p => n - (intOf p).toNat)
 case atStart => exact ⟨0, by omega, rfl, fun j x hj => absurd hj (by omega)⟩
 case round =>
  obtain ⟨i, hi, rfl, hne⟩ := hrel
  have HNE := Lib.hid hne
  clear hne
  by_cases hlt : i < n
  ·
   have hci : (i : Int) < (n : Int) := by omega
   obtain ⟨b, o, u, hA, hbb, hu, hc⟩ := HR.out.at1 hlt
   subst hA
   obtain ⟨x, hx⟩ : ∃ x, l[i]? = some x := ⟨_, List.getElem?_eq_getElem (by rw [HL.out]; exact hlt)⟩
   rw [List.getElem?_map, hx] at hu
   simp only [Option.map_some, Option.some.injEq] at hu
   subst hu
   have HX := Lib.hid hx
   clear hx
   by_cases he : x = s
   ·
    subst he
    have HZ := Lib.hid (show findZ l x = (i : Int) by unfold findZ; rw [findO_some HX.out HNE.out])
    repeat (first | go_skip | go_guarded | go_step)
    go_ret
    exact ⟨by rw [HZ.out]; rfl, rfl⟩
   ·
    have hq := neS he
    have HE := Lib.hid he
    clear he
    repeat (first | go_skip | go_guarded | go_step)
    go_round
    case rel => exact ⟨i + 1, by omega, by go_num, fun j y hj hy => by
     rcases Nat.lt_succ_iff_lt_or_eq.1 hj with h1 | rfl
     ·
      exact HNE.out j y h1 hy
     ·
      rw [HX.out] at hy
      cases hy
      exact HE.out⟩
    case measure => simp [intOf] <;> omega
  ·
   obtain rfl : i = n := by omega
   have HZ := Lib.hid (show findZ l s = -1 by
    unfold findZ
    rw [findO_none fun j x hj e => HNE.out j x (by have := (List.getElem?_eq_some_iff.1 hj).1; rw [HL.out] at this; exact this) hj e])
   repeat (first | go_skip | go_guarded | go_step)
   go_ret
   exact ⟨by rw [HZ.out]; rfl, rfl⟩

/-! ### the parser's state -/
abbrev KeptS (g : Nat) (w w' : World) : Prop := Lib.OthersKept 9 (some g) w w'
def stOk (ws : List Wd) (x : Except PE PS) (e a k : Nat) (names vars : List ByteArray) : Prop :=
 match x with
 | .ok s => e = 0 ∧ s = (ws.drop k, names, vars)
 | .error z => e = z.1 ∧ a = z.2 ∧ e ≠ 0
/-- The parser at block g, over the words ws of a text of so many bytes, is in the state x. -/
def PSt (w : World) (base g : Nat) (ws : List Wd) (sz : Nat) (x : Except PE PS) : Prop :=
 ∃ (AW : Option Addr) (nW cW k : Nat) (AN : Option Addr) (nN cN : Nat) (AV : Option Addr) (nV cV e a : Nat) (names vars : List ByteArray),
  base ≤ g ∧ Bk w g PT (pzC AW nW cW k sz AN nN cN AV nV cV e a) ∧ OwV 127 w base AW cW nW ws ∧ OwS w base AN cN nN names ∧ OwS w base AV cV nV vars ∧
   (∀ b, (Value.slice AN nN cN).ownBlock = some b → (Value.slice AV nV cV).ownBlock ≠ some b) ∧ k ≤ nW ∧ nW ≤ 70000 ∧ nN ≤ 5000 ∧ nV ≤ 20 ∧ stOk ws x e a k names vars
/-- The state behind a step; what the step answers, if nothing is wrong. -/
def goE {α : Type} (x : Except PE PS) (f : PS → Except PE (α × PS)) : Except PE PS :=
 match x with
 | .ok s => (match f s with | .ok z => .ok z.2 | .error z => .error z)
 | .error z => .error z
def ansE {α : Type} (x : Except PE PS) (f : PS → Except PE (α × PS)) (v : α) : Prop := ∀ s u s', x = .ok s → f s = .ok (u, s') → v = u
theorem only_below {w w' : World} {base g : Nat} (h : Only g w w') (hg : base ≤ g) (hl : g < w.heap.size) : Below base w w' := h.below (fun k _ e => by omega) (by omega)
theorem only_kept {w w' : World} {g : Nat} (h : Only g w w') : KeptS g w w' := fun k o hk hb _ => (h.block k (Array.getElem?_eq_some_iff.1 hk).1 (fun e => hb (by rw [e]))).trans hk
/-- What turns in a step of the parser: nothing below base; else the parser's own block, and rows of strings. -/
structure Kp (base g : Nat) (w w' : World) : Prop where
 below : Below base w w'
 kept : KeptS g w w'
theorem Kp.refl (base g : Nat) (w : World) : Kp base g w w := ⟨Below.refl _ _, Lib.OthersKept.refl _ _ _⟩
theorem Kp.trans {base g : Nat} {a b c : World} (h : Kp base g a b) (k : Kp base g b c) : Kp base g a c := ⟨h.below.trans k.below, h.kept.trans k.kept⟩
theorem Kp.drews {base g : Nat} {a b : World} (h : Kp base g a b) (q : Nat) : Kp base g a (b.drewN q) := ⟨belowDrews h.below q, h.kept⟩
theorem Kp.only {base g : Nat} {w w' : World} (h : Only g w w') (hg : base ≤ g) (hl : g < w.heap.size) : Kp base g w w' := ⟨only_below h hg hl, only_kept h⟩
theorem Kp.alloc {base g : Nat} {a b : World} (h : Kp base g a b) (hB : base ≤ b.heap.size) (o : Obj) : Kp base g a (b.alloc o) := ⟨h.below.alloc hB o, h.kept.alloc o⟩
/-- A row of another type that is one's own stays so. -/
theorem Kp.own {base g base' : Nat} {w w' : World} {e : TypeId} {s n : Nat} {v : Value} {xs cs : List Value} (h : Kp base g w w') (ho : w.ownsRow base' e s v n xs) (hb : Bk w g PT cs) (h1 : e ≠ 9) (h2 : e ≠ PT) : w'.ownsRow base' e s v n xs := by
 have hf := own_far ho hb h2.symm
 rcases ho.2 with ⟨rfl, h0⟩ | ⟨g', cap, cur, rfl, hg, hc, h3, h4, h5, h6⟩
 ·
  exact ⟨ho.1, Or.inl ⟨rfl, h0⟩⟩
 ·
  refine ⟨ho.1, Or.inr ⟨g', cap, cur, rfl, hg, ?_, h3, h4, h5, h6⟩⟩
  refine h.kept _ _ hc (fun e => hf (by simpa [Value.ownBlock] using e)) (fun c fz e => ?_)
  simp only [Obj.cells.injEq] at e
  exact h1 e.2.1
section
variable {base g : Nat} {ws : List Wd} {sz : Nat}
theorem PSt.at_ {w : World} {x : Except PE PS} (h : PSt w base g ws sz x) : base ≤ g ∧ g < w.heap.size := by
 obtain ⟨AW, nW, cW, k, AN, nN, cN, AV, nV, cV, e, a, names, vars, hg, hb, _⟩ := h
 exact ⟨hg, hb.lt⟩
theorem PSt.bk {w : World} {x : Except PE PS} (h : PSt w base g ws sz x) : ∃ cs, Bk w g PT cs := by
 obtain ⟨AW, nW, cW, k, AN, nN, cN, AV, nV, cV, e, a, names, vars, hg, hb, _⟩ := h
 exact ⟨_, hb⟩
theorem PSt.drews {w : World} {x : Except PE PS} (h : PSt w base g ws sz x) (q : Nat) : PSt (w.drewN q) base g ws sz x := h
/-- Behind what turns the parser's own block alone. -/
theorem mkSt {w w' : World} {x : Except PE PS} {AW : Option Addr} {nW cW k : Nat} {AN : Option Addr} {nN cN : Nat} {AV : Option Addr} {nV cV e a : Nat} {names vars : List ByteArray} {cs : List Value}
  (hg : base ≤ g) (hb0 : Bk w g PT cs) (hb : Bk w' g PT (pzC AW nW cW k sz AN nN cN AV nV cV e a)) (hw : OwV 127 w base AW cW nW ws) (hn : OwS w base AN cN nN names) (hv : OwS w base AV cV nV vars)
  (hne : ∀ b, (Value.slice AN nN cN).ownBlock = some b → (Value.slice AV nV cV).ownBlock ≠ some b) (hk : k ≤ nW) (hW : nW ≤ 70000) (hN : nN ≤ 5000) (hV : nV ≤ 20) (ht : Only g w w') (hs : stOk ws x e a k names vars) : PSt w' base g ws sz x :=
 ⟨AW, nW, cW, k, AN, nN, cN, AV, nV, cV, e, a, names, vars, hg, hb, own_only hw hb0 (by decide) ht, own_only hn hb0 (by decide) ht, own_only hv hb0 (by decide) ht, hne, hk, hW, hN, hV, hs⟩
end
theorem sInfo : (Tryz.prog.info? 9).map (fun i => (i.zero, i.size, i.bytes)) = some (some (.string ⟨#[]⟩), 1, 16) := by kernel_rfl
theorem run_litS (s : ByteArray) (w : World) : (Instr.buildSlice 22 1 #[(0, sv s)]).run Tryz.prog w = .ok (.slice (some ⟨w.heap.size, 0, none⟩) 1 1) (w.alloc (.cells #[sv s] 9)) := by
 obtain ⟨i0, hi, hz0, hz1, hz2⟩ := info_parts sInfo
 simp [Instr.buildSlice, run_underlying Tryz.underlying22, sizeOf, typeInfo, zeroValue, hi, hz0, hz1, newRow, Instr.fill]
 kernel_rfl
/-- 'l = append(l, s)', over strings, in a region of any order. -/
theorem anyd_appS {ops : Array Oper} {E : Prop} {o : Oper} {a : Act} {K : Act → World → Prop} {Q : Exit → Act → World → Prop} {w : World} (hwant : Region.wanted o (yielded ops a.tmps) = true) (p x : Operand)
  (ho : o.op = .call { callee := .builtin .append, args := #[p, x], argTypes := #[22, 22] })
  (base : Nat) (A0 : Option Addr) (c0 n : Nat) (l : List ByteArray) (hv : a.eval p = .slice A0 n c0) (hown : OwS w base A0 c0 n l)
  (B : Nat) (A : Option Addr) (c : Nat) (s : ByteArray) (hx : a.eval x = .slice A 1 c) (hr : Rd w B 1 A 1 [sv s]) (hb : n ≤ 1000000) (hbase : base ≤ w.heap.size)
  (h : ∀ A' c' w', OwS w' base A' c' (n + 1) (l ++ [s]) → w.grownBy w' (Value.slice A0 n c0).ownBlock → ((Value.slice A' (n + 1) c').ownBlock = (Value.slice A0 n c0).ownBlock ∨ (Value.slice A' (n + 1) c').ownBlock = some w.heap.size) → K (a.put o.dst (.slice A' (n + 1) c')) w') : if Region.wanted o (yielded ops a.tmps) = true then Oper.wp Tryz.prog o a w K Q else E := by
 rw [if_pos hwant]
 obtain ⟨i0, hi, hz0, hz1, hz2⟩ := info_parts sInfo
 refine wp_app w p x 22 ho base 9 i0 _ 1 16 Tryz.underlying22 hi hz0 hz1 hz2 rfl (by decide) _ n _ hv hown B A 1 c _ hx hr (by simp [Value.oneCell']) (by simp only [maxLen]; omega) (by omega) hbase ?_
 intro A' c' w' h1 h2 h3
 exact h A' c' w' (by show World.ownsRow _ _ _ _ _ _ _; rw [List.map_append]; exact h1) h2 h3
end Go.Proofs.YtoigpbajefkpoaaGreatDoor

