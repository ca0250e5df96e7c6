/- Layer 6 (wire), the program's take: TakeFact, TakeClause, TakeRule. -/
import Derived.Test.YtcoafgnbmgndeaaWqH
import Derived.Test.YtcoafgnbmgndeaaWqI
import Derived.Test.YtcoafgnbmgndeaaWqN
set_option linter.unusedVariables false
set_option linter.unusedSimpArgs false
namespace Go.Proofs.Ytcoafgnbmgndeaa
open Go Go.RowKit

section
variable {α β : Type} {p : Rdr α} {q : Rdr β} {l s : List UInt8} {x : α} {y : β}
theorem rSeq_inv (h : rSeq p q l = some ((x, y), s)) : ∃ r, p l = some (x, r) ∧ q r = some (y, s) := by
  cases h1 : p l with
  | none => rw [rSeq_n h1] at h; cases h
  | some z =>
    obtain ⟨x', r⟩ := z
    cases h2 : q r with
    | none => rw [rSeq_sn h1 h2] at h; cases h
    | some z2 =>
      obtain ⟨y', s'⟩ := z2
      rw [rSeq_ss h1 h2] at h
      simp only [Option.some.injEq, Prod.mk.injEq] at h
      obtain ⟨⟨rfl, rfl⟩, rfl⟩ := h
      exact ⟨r, rfl, h2⟩
theorem rMany_allP {P : α → Prop} (hp : ∀ l x r, p l = some (x, r) → P x) : ∀ (n : Nat) (l : List UInt8) (xs : List α) (r : List UInt8), rMany p n l = some (xs, r) → ∀ x ∈ xs, P x
  | 0, l, xs, r, h => by
    simp only [rMany, Option.some.injEq, Prod.mk.injEq] at h
    rw [← h.1]
    intro x hx
    cases hx
  | n + 1, l, xs, r, h => by
    cases h1 : p l with
    | none => rw [rMany_n n h1] at h; cases h
    | some z =>
      obtain ⟨x, r1⟩ := z
      cases h2 : rMany p n r1 with
      | none => rw [rMany_sn h1 h2] at h; cases h
      | some z2 =>
        obtain ⟨ys, s⟩ := z2
        rw [rMany_ss h1 h2] at h
        simp only [Option.some.injEq, Prod.mk.injEq] at h
        rw [← h.1]
        intro y hy
        rcases List.mem_cons.1 hy with rfl | hy
        · exact hp _ _ _ h1
        · exact rMany_allP hp n r1 ys s h2 y hy
theorem rRow_inv {xs : List α} (h : rRow 255 p l = some (xs, s)) : ∃ n r, n ≤ 255 ∧ rMany p n r = some (xs, s) := by
  cases l with
  | nil => rw [rRow_n rfl] at h; cases h
  | cons c r =>
    have h8 := u8_lt c
    have hb : rByte 255 (c :: r) = some (c.toNat, r) := by unfold rByte; dsimp only; rw [if_pos (by omega)]
    rw [rRow_s hb] at h
    exact ⟨c.toNat, r, by omega, h⟩
theorem rRow_len {xs : List α} (h : rRow 255 p l = some (xs, s)) : xs.length ≤ 255 := by
  obtain ⟨n, r, hn, h⟩ := rRow_inv h
  rw [rMany_len _ _ _ _ h]
  exact hn
theorem rRow_allP {P : α → Prop} (hp : ∀ l x r, p l = some (x, r) → P x) {xs : List α} (h : rRow 255 p l = some (xs, s)) : ∀ x ∈ xs, P x := by
  obtain ⟨n, r, hn, h⟩ := rRow_inv h
  exact rMany_allP hp _ _ _ _ h
end
theorem uAtom_len (l : List UInt8) (a : AtL) (r : List UInt8) (h : uAtom l = some (a, r)) : a.2.length ≤ 255 := by
  obtain ⟨p, xs⟩ := a
  obtain ⟨r1, _, h2⟩ := rSeq_inv (show rSeq rU32 (rRow 255 rTerm) l = some ((p, xs), r) from h)
  exact rRow_len h2
theorem uLit_len (l : List UInt8) (x : Li) (r : List UInt8) (h : uLit l = some (x, r)) : x.2.2.length ≤ 255 := by
  obtain ⟨b, a⟩ := x
  obtain ⟨r1, _, h2⟩ := rSeq_inv (show rSeq rBit uAtom l = some ((b, a), r) from h)
  exact uAtom_len _ _ _ h2
theorem uSay_len (l : List UInt8) (x : Sy) (r : List UInt8) (h : uSay l = some (x, r)) : x.2.2.2.length ≤ 255 := by
  obtain ⟨b, t, a⟩ := x
  unfold uSay rBind at h
  cases h1 : rBit l with
  | none => rw [h1] at h; cases h
  | some z =>
    obtain ⟨b', r1⟩ := z
    rw [h1] at h
    dsimp only at h
    cases h2 : rSeq (rWho b') uAtom r1 with
    | none => rw [h2] at h; cases h
    | some z2 =>
      obtain ⟨⟨t', a'⟩, r2⟩ := z2
      rw [h2] at h
      simp only [Option.some.injEq, Prod.mk.injEq] at h
      obtain ⟨⟨rfl, rfl, rfl⟩, rfl⟩ := h
      obtain ⟨r3, _, h4⟩ := rSeq_inv h2
      exact uAtom_len _ _ _ h4
theorem uCond_len (l : List UInt8) (x : Co) (r : List UInt8) (h : uCond l = some (x, r)) : x.2.2.2.2.length ≤ 255 := by
  obtain ⟨b, a⟩ := x
  obtain ⟨r1, _, h2⟩ := rSeq_inv (show rSeq rBit uSay l = some ((b, a), r) from h)
  exact uSay_len _ _ _ h2
theorem uClause_len (l : List UInt8) (a : AtL) (L : List Li) (r : List UInt8) (h : uClause l = some ((a, L), r)) : a.2.length ≤ 1000000 ∧ L.length ≤ 1000000 ∧ ∀ x ∈ L, x.2.2.length ≤ 1000000 := by
  obtain ⟨r1, h1, h2⟩ := rSeq_inv (show rSeq uAtom (rRow 255 uLit) l = some ((a, L), r) from h)
  exact ⟨Nat.le_trans (uAtom_len _ _ _ h1) (by omega), Nat.le_trans (rRow_len h2) (by omega), fun x hx => Nat.le_trans (rRow_allP uLit_len h2 x hx) (by omega)⟩
theorem uRule_len (l : List UInt8) (a : Sy) (L : List Co) (r : List UInt8) (h : uRule l = some ((a, L), r)) : a.2.2.2.length ≤ 1000000 ∧ L.length ≤ 1000000 ∧ ∀ x ∈ L, x.2.2.2.2.length ≤ 1000000 := by
  obtain ⟨r1, h1, h2⟩ := rSeq_inv (show rSeq uSay (rRow 255 uCond) l = some ((a, L), r) from h)
  exact ⟨Nat.le_trans (uSay_len _ _ _ h1) (by omega), Nat.le_trans (rRow_len h2) (by omega), fun x hx => Nat.le_trans (rRow_allP uCond_len h2 x hx) (by omega)⟩
theorem mayC_lens {a : AtL} {L : List Li} (hm : mayC (a, L) = true) : a.2.length ≤ 6 ∧ L.length ≤ 8 ∧ ∀ x ∈ L, x.2.2.length ≤ 6 := by
  unfold mayC at hm
  simp only [Bool.and_eq_true, List.all_eq_true, decide_eq_true_eq] at hm
  exact ⟨mayA_len hm.1.2, hm.2, fun y hy => mayA_len (hm.1.1 y hy)⟩
theorem mayR_lens {a : Sy} {L : List Co} (hm : mayR (a, L) = true) : a.2.2.2.length ≤ 6 ∧ L.length ≤ 8 ∧ ∀ x ∈ L, x.2.2.2.2.length ≤ 6 := by
  unfold mayR at hm
  simp only [Bool.and_eq_true, List.all_eq_true, decide_eq_true_eq] at hm
  exact ⟨mayS_len hm.1.2, hm.2, fun y hy => mayS_len (hm.1.1 y hy)⟩

set_option maxRecDepth 100000 in
set_option maxHeartbeats 8000000 in
theorem takeFactG_any (A : Option Addr) (n c : Nat) (t : Int) (bs : List UInt8) (w : World) (hr : Rd w w.heap.size 1 A n (bs.map bv)) (hc : n ≤ c) (hm : n ≤ 1000000) :
    Calls Try.prog 37 #[.slice A n c, .int .i64 t, .func (.func 38) #[] #[], .func (.func 34) #[] #[]] w fun e w' => ∃ (p : UInt32) (A1 : Option Addr) (m1 c1 : Nat) (l : List UInt32) (y z : Nat), e = .returned (.tuple #[.agg #[nv p, .slice A1 m1 c1], .int .i64 (y : Int), .int .i64 (z : Int)]) ∧ OwU w' w.heap.size A1 c1 m1 l ∧ m1 ≤ c1 ∧ m1 ≤ 6 ∧ Below w.heap.size w w' ∧ ((p, l), y, z) = takeAns rFact zF bs t := by
  have hmf : ∀ (fn : Fn) (first cap : Array Value) (w : World), (Instr.makeFunc fn first cap).run Try.prog w = .ok (.func fn first cap) w := fun _ _ _ _ => rfl
  obtain ⟨W0, h0, h1, g, hW, hh, he, hg, hlt, hb⟩ : ∃ W0 h0 h1 g, W0 = ((w.alloc (.cells #[.int .u32 0, .slice none 0 0] 26)).alloc (.cells #[.int .i64 0] 30)).alloc (.cells #[.slice A n c, .int .i64 t, .int .i64 0] 113) ∧ Bk W0 h0 26 [.int .u32 0, .slice none 0 0] ∧ Bk W0 h1 30 [.int .i64 0] ∧ Rg W0 g A n c t 0 ∧ (h0 = w.heap.size ∧ h1 = w.heap.size + 1 ∧ g = w.heap.size + 2 ∧ W0.heap.size = w.heap.size + 3) ∧ Below w.heap.size w W0 := by
    refine ⟨_, w.heap.size, w.heap.size + 1, w.heap.size + 2, rfl, ((Bk.new w _ _).alloc _).alloc _, ?_, ?_, ⟨rfl, rfl, rfl, by simp⟩, (((Below.refl _ _).alloc (Nat.le_refl _) _).alloc (by simp) _).alloc (by simp; omega) _⟩
    · have h := (Bk.new (w.alloc (.cells #[.int .u32 0, .slice none 0 0] 26)) 30 [.int .i64 0]).alloc (.cells #[.slice A n c, .int .i64 t, .int .i64 0] 113)
      simpa using h
    · have h := Bk.new ((w.alloc (.cells #[.int .u32 0, .slice none 0 0] 26)).alloc (.cells #[.int .i64 0] 30)) 113 [.slice A n c, .int .i64 t, .int .i64 0]
      rw [World.size_alloc, World.size_alloc] at h
      exact h
  have HR := Lib.hid ((hr.below hb).more (show w.heap.size ≤ g by omega))
  have HW := Lib.hid hW
  have HH := Lib.hid hh
  have HE := Lib.hid he
  have HG := Lib.hid hg
  have HLT := Lib.hid hlt
  have HB := Lib.hid hb
  clear hr hW hh he hg hb
  go_enter_defers Try.func37, Try.ntmps37
  go_upto_region 3 with (fail)
  rw [← HW.out]
  have e2 : w.heap.size + 1 + 1 = g := by omega
  have e1 : w.heap.size + 1 = h1 := by omega
  have e0 : w.heap.size = h0 := by omega
  rw [e2, e1, e0]
  clear e0 e1 e2 HW hlt
  repeat (first | go_skip | go_guarded | go_step)
  refine (fact_any g A n c t bs W0 HG.out HR.out hc (by omega)).mono ?_
  rintro e w1 ⟨ht, ⟨⟨p, l⟩, k, _, rfl, ⟨A1, m1, c1, rfl, ho1⟩, hgot, hg⟩ | ⟨z, t', rfl, hno, hg⟩⟩
  · have HE1 := Lib.hid (ht.bk HE.out (fun e => by have := HLT.out; omega))
    have HH1 := Lib.hid (ht.bk HH.out (fun e => by have := HLT.out; omega))
    have HB1 := Lib.hid (HB.out.trans (ht.below (B := w.heap.size) (fun k _ e => by have := HLT.out; omega) (by have := HLT.out; omega)))
    have HG1 := Lib.hid hg
    have HGOT := Lib.hid hgot
    have HO1 := Lib.hid ho1

    have HS1 := Lib.hid ht.size

    clear ht hg hgot ho1
    dsimp only
    go_upto_region 4 with (fail)
    obtain ⟨Z, a, hZ, hza, hzb, hsa⟩ : ∃ Z a, Z = w1.alloc (.cells #[nv p, .slice A1 m1 c1] 26) ∧ Bk Z a 26 [nv p, .slice A1 m1 c1] ∧ Below w1.heap.size w1 Z ∧ w1.heap.size = a := ⟨_, _, rfl, Bk.new w1 _ _, (Below.refl _ _).alloc (Nat.le_refl _) _, rfl⟩
    rw [← hZ, hsa]
    clear hZ
    have HEZ := Lib.hid (HE1.out.later hzb)
    have HHZ := Lib.hid (HH1.out.later hzb)
    have HBZ := Lib.hid (HB1.out.trans (hzb.mono HB1.out.size))
    have HGZ := Lib.hid (Bk.later HG1.out hzb)
    have HO1Z := Lib.hid (ownBelow HO1.out hzb (Nat.le_refl _))

    have r0 := hza.readT (Below.refl _ _) 0 rfl
    have r1 := hza.readT (Below.refl _ _) 1 rfl
    have HAZ := Lib.hid hza
    have HSA := Lib.hid (show W0.heap.size ≤ a by have := HS1.out; omega)
    clear hza hzb hsa HE1 HH1 HG1
    repeat (first | go_skip | go_guarded | go_step)
    refine (factMay_any p A1 m1 c1 l Z (rdU_len (OwU.rd HO1Z.out))).mono ?_
    rintro e w2 ⟨rfl, hb2⟩
    have HE2 := Lib.hid (HEZ.out.later hb2)
    have HH2 := Lib.hid (HHZ.out.later hb2)
    have HA2 := Lib.hid (HAZ.out.later hb2)
    have HG2 := Lib.hid (Bk.later HGZ.out hb2)
    have HB2 := Lib.hid (HBZ.out.trans (hb2.mono HBZ.out.size))
    have HO12 := Lib.hid (ownBelow HO1Z.out hb2 (Nat.le_refl _))

    clear hb2 HEZ HHZ HAZ HGZ r0 r1
    generalize hmv : mayF (p, l) = mv
    cases mv with
    | false =>
      dsimp only
      repeat (first | go_skip | go_guarded | go_step)
      refine (end_any g A n c 0 5 k w2 HG2.out).mono ?_
      rintro e w3 ⟨rfl, hg3, ht3⟩
      have HE3 := Lib.hid (ht3.bk HE2.out (fun e => by have := HLT.out; omega))
      have HH3 := Lib.hid (ht3.bk HH2.out (fun e => by have := HLT.out; omega))
      have HB3 := Lib.hid (HB2.out.trans (ht3.below (B := w.heap.size) (fun k _ e => by have := HLT.out; omega) HB2.out.size))
      have HG3 := Lib.hid hg3
      have HNO := Lib.hid (show takeAns rFact zF bs t = (zF, 0, 5) by rw [rFact_u, HGOT.out.ans _ _, hmv]; rfl)
      clear hg3 ht3 hmv
      refine leaves_cons (f := 66) (args := #[.pointer (some ⟨h1, 0, none⟩)]) (by simp) (by simp [go_sem]) ?_
      refine (catchFact_panic g h1 A n c _ _ w3 HG3.out HE3.out).mono ?_
      rintro e u' w'' ⟨rfl, rfl, rfl⟩
      have hh2 := Bk.far HH3.out (p := ⟨h1, 0, none⟩) (show h0 ≠ h1 by have := HLT.out; omega) (.int .i64 (5 : Int))
      have q0 := hh2.readT (Below.refl _ _) 0 rfl
      have q1 := hh2.readT (Below.refl _ _) 1 rfl
      have qe := (HE3.out.set_ 0 (.int .i64 (5 : Int))).readT (Below.refl _ _) 0 rfl
      have hbe := Below.setCell HB3.out (p := ⟨h1, 0, none⟩) (by show w.heap.size ≤ h1; have := HLT.out; omega) (.int .i64 (5 : Int))
      have HANS := Lib.hid HNO.out
      have HBE := Lib.hid hbe
      clear hh2 hbe
      refine ⟨.tuple #[.agg #[.int .u32 0, .slice none 0 0], .int .i64 0, .int .i64 (5 : Int)], ?_, 0, none, 0, 0, [], 0, 5, rfl, World.ownsRow_nil _ _ _ _, by omega, by omega, HBE.out, HANS.out.symm⟩
      simp [results, Try.results37, go_sem, q0, q1, qe]
    | true =>
      have HNO := Lib.hid (show takeAns rFact zF bs t = ((p, l), k, 0) by rw [rFact_u, HGOT.out.ans _ _, hmv]; rfl)
      have HMAY := Lib.hid (show m1 ≤ 6 by have h : l.length = m1 := rdU_len (OwU.rd HO12.out); unfold mayF at hmv; have := of_decide_eq_true hmv; dsimp only at this; omega)
      clear hmv
      have hh2 := HH2.out
      have ha2 := HA2.out
      have hg2 : Bk w2 g 113 _ := HG2.out
      have r0 := ha2.readT (Below.refl _ _) 0 rfl
      have r1 := ha2.readT (Below.refl _ _) 1 rfl
      have sh0 := hh2.readT (Below.refl _ _) 0 rfl
      have f0 := hh2.frozen 0
      have sh1 := hh2.readT (Below.refl _ _) 1 rfl
      have f1 := hh2.frozen 1
      have y1 := hg2.readT (Below.refl _ _) 1 rfl
      have sh9 := HE2.out.readT (Below.refl _ _) 0 rfl
      have f9 := HE2.out.frozen 0
      have xn0 : ¬ h0 = g := by have := HLT.out; omega
      have xn1 : ¬ h0 = h1 := by have := HLT.out; omega
      have xn2 : ¬ h1 = g := by have := HLT.out; omega
      clear hh2 ha2 hg2
      dsimp only
      repeat (first | go_skip | go_guarded | go_step)
      go_region
      obtain ⟨V, hV, hvh, hve, hvt⟩ : ∃ V, V = (((w2.setCell ⟨h0, 0, none⟩ (nv p)).setCell ⟨h0, 1, none⟩ (.slice A1 m1 c1)).setCell ⟨h1, 0, none⟩ (.int .i64 0)).drew ∧ Bk V h0 26 [nv p, .slice A1 m1 c1] ∧ Bk V h1 30 [.int .i64 0] ∧ Turn (fun k => k = h0 ∨ k = h1) w2 V :=
        ⟨_, rfl, Bk.drew (Bk.far ((HH2.out.set_ 0 (nv p)).set_ 1 (.slice A1 m1 c1)) (show h0 ≠ h1 from xn1) _), Bk.drew ((Bk.far (Bk.far HE2.out (show h1 ≠ h0 from fun e => xn1 e.symm) _) (show h1 ≠ h0 from fun e => xn1 e.symm) _).set_ 0 (.int .i64 0)), ((((Turn.refl (fun k => k = h0 ∨ k = h1) w2).setCell (p := ⟨h0, 0, none⟩) (fun _ => .inl rfl) _).setCell (p := ⟨h0, 1, none⟩) (fun _ => .inl rfl) _).setCell (p := ⟨h1, 0, none⟩) (fun _ => .inr rfl) _).drew⟩
      rw [← hV]
      clear hV sh9 f9 y1 r0 sh0 f0 r1 sh1 f1
      have q0 := hvh.readT (Below.refl _ _) 0 rfl
      have q1 := hvh.readT (Below.refl _ _) 1 rfl
      have qe := hve.readT (Below.refl _ _) 0 rfl
      have HBV := Lib.hid (HB2.out.trans (hvt.below (B := w.heap.size) (fun k _ e => by have := HLT.out; omega) HB2.out.size))
      have ho1V := hvt.own HO12.out (fun k hk e => by have := (World.ownsRow.lt HO12.out k hk).1; have := HLT.out; omega)
      obtain ⟨_, _, hf1, hle1⟩ := ownForm ho1V
      have hc1 : m1 ≤ c1 := by simp only [Value.slice.injEq] at hf1; omega
      have HO1V := Lib.hid ho1V

      clear hvh hve hvt hf1 hle1 ho1V
      repeat (first | go_skip | go_guarded | go_step)
      refine leaves_cons (f := 66) (args := #[.pointer (some ⟨h1, 0, none⟩)]) (by simp) (by simp [go_sem]) ?_
      refine (catchFact_idle h1 V).mono ?_
      rintro e u' w'' ⟨rfl, rfl, rfl⟩
      refine ⟨.tuple #[.agg #[nv p, .slice A1 m1 c1], .int .i64 (k : Int), .int .i64 0], ?_, p, A1, m1, c1, l, k, 0, rfl, ownLower HO1V.out (by have := HLT.out; omega), hc1, HMAY.out, HBV.out, HNO.out.symm⟩
      simp [results, Try.results37, go_sem, q0, q1, qe]
  · have HE1 := Lib.hid (ht.bk HE.out (fun e => by have := HLT.out; omega))
    have HH1 := Lib.hid (ht.bk HH.out (fun e => by have := HLT.out; omega))
    have HB1 := Lib.hid (HB.out.trans (ht.below (B := w.heap.size) (fun k _ e => by have := HLT.out; omega) (by have := HLT.out; omega)))
    have HG1 := Lib.hid hg
    have HNO := Lib.hid hno
    clear ht hg hno
    refine leaves_cons (f := 66) (args := #[.pointer (some ⟨h1, 0, none⟩)]) (by simp) (by simp [go_sem]) ?_
    refine (catchFact_panic g h1 A n c _ _ w1 HG1.out HE1.out).mono ?_
    rintro e u' w'' ⟨rfl, rfl, rfl⟩
    have hh2 := Bk.far HH1.out (p := ⟨h1, 0, none⟩) (show h0 ≠ h1 by have := HLT.out; omega) (.int .i64 (z : Int))
    have q0 := hh2.readT (Below.refl _ _) 0 rfl
    have q1 := hh2.readT (Below.refl _ _) 1 rfl
    have qe := (HE1.out.set_ 0 (.int .i64 (z : Int))).readT (Below.refl _ _) 0 rfl
    have hbe := Below.setCell HB1.out (p := ⟨h1, 0, none⟩) (by show w.heap.size ≤ h1; have := HLT.out; omega) (.int .i64 (z : Int))
    have HANS := Lib.hid (show takeAns rFact zF bs t = (zF, 0, z) by rw [rFact_u]; exact HNO.out.ans _ _)
    have HBE := Lib.hid hbe
    clear hh2 hbe
    refine ⟨.tuple #[.agg #[.int .u32 0, .slice none 0 0], .int .i64 0, .int .i64 (z : Int)], ?_, 0, none, 0, 0, [], 0, z, rfl, World.ownsRow_nil _ _ _ _, by omega, by omega, HBE.out, HANS.out.symm⟩
    simp [results, Try.results37, go_sem, q0, q1, qe]

set_option maxRecDepth 100000 in
set_option maxHeartbeats 8000000 in
theorem takeClauseG_any (A : Option Addr) (n c : Nat) (t : Int) (bs : List UInt8) (w : World) (hr : Rd w w.heap.size 1 A n (bs.map bv)) (hc : n ≤ c) (hm : n ≤ 1000000) :
    Calls Try.prog 50 #[.slice A n c, .int .i64 t, .func (.func 51) #[] #[], .func (.func 45) #[] #[]] w fun e w' => ∃ (p : UInt32) (A1 : Option Addr) (m1 c1 : Nat) (l : List Tm) (A2 : Option Addr) (m2 c2 : Nat) (R2 : List SlA) (L2 : List Li) (y z : Nat), e = .returned (.tuple #[.agg #[nv p, .slice A1 m1 c1, .slice A2 m2 c2], .int .i64 (y : Int), .int .i64 (z : Int)]) ∧ OwT w' w.heap.size A1 c1 m1 l ∧ OwL w' w.heap.size A2 c2 m2 R2 L2 ∧ m1 ≤ c1 ∧ m2 ≤ c2 ∧ m1 ≤ 6 ∧ m2 ≤ 8 ∧ (∀ x ∈ L2, x.2.2.length ≤ 6) ∧ Below w.heap.size w w' ∧ (((p, l), L2), y, z) = takeAns rClause zC bs t := by
  have hmf : ∀ (fn : Fn) (first cap : Array Value) (w : World), (Instr.makeFunc fn first cap).run Try.prog w = .ok (.func fn first cap) w := fun _ _ _ _ => rfl
  obtain ⟨W0, h0, h1, g, hW, hh, he, hg, hlt, hb⟩ : ∃ W0 h0 h1 g, W0 = ((w.alloc (.cells #[.int .u32 0, .slice none 0 0, .slice none 0 0] 45)).alloc (.cells #[.int .i64 0] 30)).alloc (.cells #[.slice A n c, .int .i64 t, .int .i64 0] 113) ∧ Bk W0 h0 45 [.int .u32 0, .slice none 0 0, .slice none 0 0] ∧ Bk W0 h1 30 [.int .i64 0] ∧ Rg W0 g A n c t 0 ∧ (h0 = w.heap.size ∧ h1 = w.heap.size + 1 ∧ g = w.heap.size + 2 ∧ W0.heap.size = w.heap.size + 3) ∧ Below w.heap.size w W0 := by
    refine ⟨_, w.heap.size, w.heap.size + 1, w.heap.size + 2, rfl, ((Bk.new w _ _).alloc _).alloc _, ?_, ?_, ⟨rfl, rfl, rfl, by simp⟩, (((Below.refl _ _).alloc (Nat.le_refl _) _).alloc (by simp) _).alloc (by simp; omega) _⟩
    · have h := (Bk.new (w.alloc (.cells #[.int .u32 0, .slice none 0 0, .slice none 0 0] 45)) 30 [.int .i64 0]).alloc (.cells #[.slice A n c, .int .i64 t, .int .i64 0] 113)
      simpa using h
    · have h := Bk.new ((w.alloc (.cells #[.int .u32 0, .slice none 0 0, .slice none 0 0] 45)).alloc (.cells #[.int .i64 0] 30)) 113 [.slice A n c, .int .i64 t, .int .i64 0]
      rw [World.size_alloc, World.size_alloc] at h
      exact h
  have HR := Lib.hid ((hr.below hb).more (show w.heap.size ≤ g by omega))
  have HW := Lib.hid hW
  have HH := Lib.hid hh
  have HE := Lib.hid he
  have HG := Lib.hid hg
  have HLT := Lib.hid hlt
  have HB := Lib.hid hb
  clear hr hW hh he hg hb
  go_enter_defers Try.func50, Try.ntmps50
  go_upto_region 3 with (fail)
  rw [← HW.out]
  have e2 : w.heap.size + 1 + 1 = g := by omega
  have e1 : w.heap.size + 1 = h1 := by omega
  have e0 : w.heap.size = h0 := by omega
  rw [e2, e1, e0]
  clear e0 e1 e2 HW hlt
  repeat (first | go_skip | go_guarded | go_step)
  refine (clause_any g A n c t bs W0 HG.out HR.out hc (by omega)).mono ?_
  rintro e w1 ⟨ht, ⟨⟨⟨p, l⟩, L2⟩, k, _, rfl, ⟨A1, m1, c1, A2, m2, c2, R2, rfl, ho1, ho2⟩, hgot, hg⟩ | ⟨z, t', rfl, hno, hg⟩⟩
  · have HE1 := Lib.hid (ht.bk HE.out (fun e => by have := HLT.out; omega))
    have HH1 := Lib.hid (ht.bk HH.out (fun e => by have := HLT.out; omega))
    have HB1 := Lib.hid (HB.out.trans (ht.below (B := w.heap.size) (fun k _ e => by have := HLT.out; omega) (by have := HLT.out; omega)))
    have HG1 := Lib.hid hg
    have HGOT := Lib.hid hgot
    have HO1 := Lib.hid ho1
    have HO2 := Lib.hid ho2
    have HS1 := Lib.hid ht.size
    have HLEN := Lib.hid (show m1 ≤ 1000000 ∧ m2 ≤ 1000000 ∧ _ from by
      have h1 : l.length = m1 := rdT_len (OwT.rd ho1)
      have h2 : L2.length = m2 := ho2.lenL
      have h3 := uClause_len _ _ _ _ hgot.2.2.2
      rw [h2] at h3
      dsimp only at h3
      rw [h1] at h3
      exact h3)
    clear ht hg hgot ho1 ho2
    dsimp only
    go_upto_region 4 with (fail)
    obtain ⟨Z, a, hZ, hza, hzb, hsa⟩ : ∃ Z a, Z = w1.alloc (.cells #[nv p, .slice A1 m1 c1, .slice A2 m2 c2] 45) ∧ Bk Z a 45 [nv p, .slice A1 m1 c1, .slice A2 m2 c2] ∧ Below w1.heap.size w1 Z ∧ w1.heap.size = a := ⟨_, _, rfl, Bk.new w1 _ _, (Below.refl _ _).alloc (Nat.le_refl _) _, rfl⟩
    rw [← hZ, hsa]
    clear hZ
    have HEZ := Lib.hid (HE1.out.later hzb)
    have HHZ := Lib.hid (HH1.out.later hzb)
    have HBZ := Lib.hid (HB1.out.trans (hzb.mono HB1.out.size))
    have HGZ := Lib.hid (Bk.later HG1.out hzb)
    have HO1Z := Lib.hid (ownBelow HO1.out hzb (Nat.le_refl _))
    have HO2Z := Lib.hid (HO2.out.later hzb)
    have r0 := hza.readT (Below.refl _ _) 0 rfl
    have r1 := hza.readT (Below.refl _ _) 1 rfl
    have r2 := hza.readT (Below.refl _ _) 2 rfl
    have HAZ := Lib.hid hza
    have HSA := Lib.hid (show W0.heap.size ≤ a by have := HS1.out; omega)
    clear hza hzb hsa HE1 HH1 HG1
    repeat (first | go_skip | go_guarded | go_step)
    refine (cMay_any p A1 m1 c1 l A2 m2 c2 R2 L2 Z (OwT.rd HO1Z.out) (OwL.rd HO2Z.out) HLEN.out.1 HLEN.out.2.1 HLEN.out.2.2).mono ?_
    rintro e w2 ⟨rfl, hb2⟩
    have HE2 := Lib.hid (HEZ.out.later hb2)
    have HH2 := Lib.hid (HHZ.out.later hb2)
    have HA2 := Lib.hid (HAZ.out.later hb2)
    have HG2 := Lib.hid (Bk.later HGZ.out hb2)
    have HB2 := Lib.hid (HBZ.out.trans (hb2.mono HBZ.out.size))
    have HO12 := Lib.hid (ownBelow HO1Z.out hb2 (Nat.le_refl _))
    have HO22 := Lib.hid (HO2Z.out.later hb2)
    clear hb2 HEZ HHZ HAZ HGZ r0 r1 r2
    generalize hmv : mayC ((p, l), L2) = mv
    cases mv with
    | false =>
      dsimp only
      repeat (first | go_skip | go_guarded | go_step)
      refine (end_any g A n c 0 5 k w2 HG2.out).mono ?_
      rintro e w3 ⟨rfl, hg3, ht3⟩
      have HE3 := Lib.hid (ht3.bk HE2.out (fun e => by have := HLT.out; omega))
      have HH3 := Lib.hid (ht3.bk HH2.out (fun e => by have := HLT.out; omega))
      have HB3 := Lib.hid (HB2.out.trans (ht3.below (B := w.heap.size) (fun k _ e => by have := HLT.out; omega) HB2.out.size))
      have HG3 := Lib.hid hg3
      have HNO := Lib.hid (show takeAns rClause zC bs t = (zC, 0, 5) by rw [rClause_u, HGOT.out.ans _ _, hmv]; rfl)
      clear hg3 ht3 hmv
      refine leaves_cons (f := 76) (args := #[.pointer (some ⟨h1, 0, none⟩)]) (by simp) (by simp [go_sem]) ?_
      refine (catchClause_panic g h1 A n c _ _ w3 HG3.out HE3.out).mono ?_
      rintro e u' w'' ⟨rfl, rfl, rfl⟩
      have hh2 := Bk.far HH3.out (p := ⟨h1, 0, none⟩) (show h0 ≠ h1 by have := HLT.out; omega) (.int .i64 (5 : Int))
      have q0 := hh2.readT (Below.refl _ _) 0 rfl
      have q1 := hh2.readT (Below.refl _ _) 1 rfl
      have q2 := hh2.readT (Below.refl _ _) 2 rfl
      have qe := (HE3.out.set_ 0 (.int .i64 (5 : Int))).readT (Below.refl _ _) 0 rfl
      have hbe := Below.setCell HB3.out (p := ⟨h1, 0, none⟩) (by show w.heap.size ≤ h1; have := HLT.out; omega) (.int .i64 (5 : Int))
      have HANS := Lib.hid HNO.out
      have HBE := Lib.hid hbe
      clear hh2 hbe
      refine ⟨.tuple #[.agg #[.int .u32 0, .slice none 0 0, .slice none 0 0], .int .i64 0, .int .i64 (5 : Int)], ?_, 0, none, 0, 0, [], none, 0, 0, [], [], 0, 5, rfl, World.ownsRow_nil _ _ _ _, OwG.nil _ _, by omega, by omega, by omega, by omega, by simp, HBE.out, HANS.out.symm⟩
      simp [results, Try.results50, go_sem, q0, q1, q2, qe]
    | true =>
      have HNO := Lib.hid (show takeAns rClause zC bs t = (((p, l), L2), k, 0) by rw [rClause_u, HGOT.out.ans _ _, hmv]; rfl)
      have HMAY := Lib.hid (show m1 ≤ 6 ∧ m2 ≤ 8 ∧ ∀ x ∈ L2, x.2.2.length ≤ 6 by have h1 : l.length = m1 := rdT_len (OwT.rd HO12.out); have h2 : L2.length = m2 := HO22.out.lenL; have h3 := mayC_lens hmv; rw [h2] at h3; dsimp only at h3; rw [h1] at h3; exact h3)
      clear hmv
      have hh2 := HH2.out
      have ha2 := HA2.out
      have hg2 : Bk w2 g 113 _ := HG2.out
      have r0 := ha2.readT (Below.refl _ _) 0 rfl
      have r1 := ha2.readT (Below.refl _ _) 1 rfl
      have r2 := ha2.readT (Below.refl _ _) 2 rfl
      have sh0 := hh2.readT (Below.refl _ _) 0 rfl
      have f0 := hh2.frozen 0
      have sh1 := hh2.readT (Below.refl _ _) 1 rfl
      have f1 := hh2.frozen 1
      have sh2 := hh2.readT (Below.refl _ _) 2 rfl
      have f2 := hh2.frozen 2
      have y1 := hg2.readT (Below.refl _ _) 1 rfl
      have sh9 := HE2.out.readT (Below.refl _ _) 0 rfl
      have f9 := HE2.out.frozen 0
      have xn0 : ¬ h0 = g := by have := HLT.out; omega
      have xn1 : ¬ h0 = h1 := by have := HLT.out; omega
      have xn2 : ¬ h1 = g := by have := HLT.out; omega
      clear hh2 ha2 hg2
      dsimp only
      repeat (first | go_skip | go_guarded | go_step)
      go_region
      obtain ⟨V, hV, hvh, hve, hvt⟩ : ∃ V, V = ((((w2.setCell ⟨h0, 0, none⟩ (nv p)).setCell ⟨h0, 1, none⟩ (.slice A1 m1 c1)).setCell ⟨h0, 2, none⟩ (.slice A2 m2 c2)).setCell ⟨h1, 0, none⟩ (.int .i64 0)).drew ∧ Bk V h0 45 [nv p, .slice A1 m1 c1, .slice A2 m2 c2] ∧ Bk V h1 30 [.int .i64 0] ∧ Turn (fun k => k = h0 ∨ k = h1) w2 V :=
        ⟨_, rfl, Bk.drew (Bk.far (((HH2.out.set_ 0 (nv p)).set_ 1 (.slice A1 m1 c1)).set_ 2 (.slice A2 m2 c2)) (show h0 ≠ h1 from xn1) _), Bk.drew ((Bk.far (Bk.far (Bk.far HE2.out (show h1 ≠ h0 from fun e => xn1 e.symm) _) (show h1 ≠ h0 from fun e => xn1 e.symm) _) (show h1 ≠ h0 from fun e => xn1 e.symm) _).set_ 0 (.int .i64 0)), (((((Turn.refl (fun k => k = h0 ∨ k = h1) w2).setCell (p := ⟨h0, 0, none⟩) (fun _ => .inl rfl) _).setCell (p := ⟨h0, 1, none⟩) (fun _ => .inl rfl) _).setCell (p := ⟨h0, 2, none⟩) (fun _ => .inl rfl) _).setCell (p := ⟨h1, 0, none⟩) (fun _ => .inr rfl) _).drew⟩
      rw [← hV]
      clear hV sh9 f9 y1 r0 sh0 f0 r1 sh1 f1 r2 sh2 f2
      have q0 := hvh.readT (Below.refl _ _) 0 rfl
      have q1 := hvh.readT (Below.refl _ _) 1 rfl
      have q2 := hvh.readT (Below.refl _ _) 2 rfl
      have qe := hve.readT (Below.refl _ _) 0 rfl
      have HBV := Lib.hid (HB2.out.trans (hvt.below (B := w.heap.size) (fun k _ e => by have := HLT.out; omega) HB2.out.size))
      have ho1V := hvt.own HO12.out (fun k hk e => by have := (World.ownsRow.lt HO12.out k hk).1; have := HLT.out; omega)
      obtain ⟨_, _, hf1, hle1⟩ := ownForm ho1V
      have hc1 : m1 ≤ c1 := by simp only [Value.slice.injEq] at hf1; omega
      have HO1V := Lib.hid ho1V
      have ho2V := HO22.out.turn hvt (fun k hk e => by have := HS1.out; have := HLT.out; omega)
      have hc2 : m2 ≤ c2 := ho2V.cap
      have HO2V := Lib.hid ho2V
      clear ho2V
      clear hvh hve hvt hf1 hle1 ho1V
      repeat (first | go_skip | go_guarded | go_step)
      refine leaves_cons (f := 76) (args := #[.pointer (some ⟨h1, 0, none⟩)]) (by simp) (by simp [go_sem]) ?_
      refine (catchClause_idle h1 V).mono ?_
      rintro e u' w'' ⟨rfl, rfl, rfl⟩
      refine ⟨.tuple #[.agg #[nv p, .slice A1 m1 c1, .slice A2 m2 c2], .int .i64 (k : Int), .int .i64 0], ?_, p, A1, m1, c1, l, A2, m2, c2, R2, L2, k, 0, rfl, ownLower HO1V.out (by have := HLT.out; omega), OwG.lower HO2V.out (by have := HLT.out; omega), hc1, hc2, HMAY.out.1, HMAY.out.2.1, HMAY.out.2.2, HBV.out, HNO.out.symm⟩
      simp [results, Try.results50, go_sem, q0, q1, q2, qe]
  · have HE1 := Lib.hid (ht.bk HE.out (fun e => by have := HLT.out; omega))
    have HH1 := Lib.hid (ht.bk HH.out (fun e => by have := HLT.out; omega))
    have HB1 := Lib.hid (HB.out.trans (ht.below (B := w.heap.size) (fun k _ e => by have := HLT.out; omega) (by have := HLT.out; omega)))
    have HG1 := Lib.hid hg
    have HNO := Lib.hid hno
    clear ht hg hno
    refine leaves_cons (f := 76) (args := #[.pointer (some ⟨h1, 0, none⟩)]) (by simp) (by simp [go_sem]) ?_
    refine (catchClause_panic g h1 A n c _ _ w1 HG1.out HE1.out).mono ?_
    rintro e u' w'' ⟨rfl, rfl, rfl⟩
    have hh2 := Bk.far HH1.out (p := ⟨h1, 0, none⟩) (show h0 ≠ h1 by have := HLT.out; omega) (.int .i64 (z : Int))
    have q0 := hh2.readT (Below.refl _ _) 0 rfl
    have q1 := hh2.readT (Below.refl _ _) 1 rfl
    have q2 := hh2.readT (Below.refl _ _) 2 rfl
    have qe := (HE1.out.set_ 0 (.int .i64 (z : Int))).readT (Below.refl _ _) 0 rfl
    have hbe := Below.setCell HB1.out (p := ⟨h1, 0, none⟩) (by show w.heap.size ≤ h1; have := HLT.out; omega) (.int .i64 (z : Int))
    have HANS := Lib.hid (show takeAns rClause zC bs t = (zC, 0, z) by rw [rClause_u]; exact HNO.out.ans _ _)
    have HBE := Lib.hid hbe
    clear hh2 hbe
    refine ⟨.tuple #[.agg #[.int .u32 0, .slice none 0 0, .slice none 0 0], .int .i64 0, .int .i64 (z : Int)], ?_, 0, none, 0, 0, [], none, 0, 0, [], [], 0, z, rfl, World.ownsRow_nil _ _ _ _, OwG.nil _ _, by omega, by omega, by omega, by omega, by simp, HBE.out, HANS.out.symm⟩
    simp [results, Try.results50, go_sem, q0, q1, q2, qe]

set_option maxRecDepth 100000 in
set_option maxHeartbeats 8000000 in
theorem takeRuleG_any (A : Option Addr) (n c : Nat) (t : Int) (bs : List UInt8) (w : World) (hr : Rd w w.heap.size 1 A n (bs.map bv)) (hc : n ≤ c) (hm : n ≤ 1000000) :
    Calls Try.prog 59 #[.slice A n c, .int .i64 t, .func (.func 60) #[] #[], .func (.func 27) #[] #[]] w fun e w' => ∃ (s0 : Bool) (x0 : Bool) (x1 : UInt32) (p : UInt32) (A1 : Option Addr) (m1 c1 : Nat) (l : List Tm) (A2 : Option Addr) (m2 c2 : Nat) (R2 : List SlA) (L2 : List Co) (y z : Nat), e = .returned (.tuple #[.agg #[.bool s0, .bool x0, nv x1, nv p, .slice A1 m1 c1, .slice A2 m2 c2], .int .i64 (y : Int), .int .i64 (z : Int)]) ∧ OwT w' w.heap.size A1 c1 m1 l ∧ OwK w' w.heap.size A2 c2 m2 R2 L2 ∧ m1 ≤ c1 ∧ m2 ≤ c2 ∧ m1 ≤ 6 ∧ m2 ≤ 8 ∧ (∀ x ∈ L2, x.2.2.2.2.length ≤ 6) ∧ Below w.heap.size w w' ∧ (((s0, (x0, x1), (p, l)), L2), y, z) = takeAns rRule zR bs t := by
  have hmf : ∀ (fn : Fn) (first cap : Array Value) (w : World), (Instr.makeFunc fn first cap).run Try.prog w = .ok (.func fn first cap) w := fun _ _ _ _ => rfl
  obtain ⟨W0, h0, h1, g, hW, hh, he, hg, hlt, hb⟩ : ∃ W0 h0 h1 g, W0 = ((w.alloc (.cells #[.bool false, .bool false, .int .u32 0, .int .u32 0, .slice none 0 0, .slice none 0 0] 59)).alloc (.cells #[.int .i64 0] 30)).alloc (.cells #[.slice A n c, .int .i64 t, .int .i64 0] 113) ∧ Bk W0 h0 59 [.bool false, .bool false, .int .u32 0, .int .u32 0, .slice none 0 0, .slice none 0 0] ∧ Bk W0 h1 30 [.int .i64 0] ∧ Rg W0 g A n c t 0 ∧ (h0 = w.heap.size ∧ h1 = w.heap.size + 1 ∧ g = w.heap.size + 2 ∧ W0.heap.size = w.heap.size + 3) ∧ Below w.heap.size w W0 := by
    refine ⟨_, w.heap.size, w.heap.size + 1, w.heap.size + 2, rfl, ((Bk.new w _ _).alloc _).alloc _, ?_, ?_, ⟨rfl, rfl, rfl, by simp⟩, (((Below.refl _ _).alloc (Nat.le_refl _) _).alloc (by simp) _).alloc (by simp; omega) _⟩
    · have h := (Bk.new (w.alloc (.cells #[.bool false, .bool false, .int .u32 0, .int .u32 0, .slice none 0 0, .slice none 0 0] 59)) 30 [.int .i64 0]).alloc (.cells #[.slice A n c, .int .i64 t, .int .i64 0] 113)
      simpa using h
    · have h := Bk.new ((w.alloc (.cells #[.bool false, .bool false, .int .u32 0, .int .u32 0, .slice none 0 0, .slice none 0 0] 59)).alloc (.cells #[.int .i64 0] 30)) 113 [.slice A n c, .int .i64 t, .int .i64 0]
      rw [World.size_alloc, World.size_alloc] at h
      exact h
  have HR := Lib.hid ((hr.below hb).more (show w.heap.size ≤ g by omega))
  have HW := Lib.hid hW
  have HH := Lib.hid hh
  have HE := Lib.hid he
  have HG := Lib.hid hg
  have HLT := Lib.hid hlt
  have HB := Lib.hid hb
  clear hr hW hh he hg hb
  go_enter_defers Try.func59, Try.ntmps59
  go_upto_region 3 with (fail)
  rw [← HW.out]
  have e2 : w.heap.size + 1 + 1 = g := by omega
  have e1 : w.heap.size + 1 = h1 := by omega
  have e0 : w.heap.size = h0 := by omega
  rw [e2, e1, e0]
  clear e0 e1 e2 HW hlt
  repeat (first | go_skip | go_guarded | go_step)
  refine (rule_any g A n c t bs W0 HG.out HR.out hc (by omega)).mono ?_
  rintro e w1 ⟨ht, ⟨⟨⟨s0, ⟨x0, x1⟩, p, l⟩, L2⟩, k, _, rfl, ⟨A1, m1, c1, A2, m2, c2, R2, rfl, ho1, ho2⟩, hgot, hg⟩ | ⟨z, t', rfl, hno, hg⟩⟩
  · have HE1 := Lib.hid (ht.bk HE.out (fun e => by have := HLT.out; omega))
    have HH1 := Lib.hid (ht.bk HH.out (fun e => by have := HLT.out; omega))
    have HB1 := Lib.hid (HB.out.trans (ht.below (B := w.heap.size) (fun k _ e => by have := HLT.out; omega) (by have := HLT.out; omega)))
    have HG1 := Lib.hid hg
    have HGOT := Lib.hid hgot
    have HO1 := Lib.hid ho1
    have HO2 := Lib.hid ho2
    have HS1 := Lib.hid ht.size
    have HLEN := Lib.hid (show m1 ≤ 1000000 ∧ m2 ≤ 1000000 ∧ _ from by
      have h1 : l.length = m1 := rdT_len (OwT.rd ho1)
      have h2 : L2.length = m2 := ho2.lenL
      have h3 := uRule_len _ _ _ _ hgot.2.2.2
      rw [h2] at h3
      dsimp only at h3
      rw [h1] at h3
      exact h3)
    clear ht hg hgot ho1 ho2
    dsimp only
    go_upto_region 4 with (fail)
    obtain ⟨Z, a, hZ, hza, hzb, hsa⟩ : ∃ Z a, Z = w1.alloc (.cells #[.bool s0, .bool x0, nv x1, nv p, .slice A1 m1 c1, .slice A2 m2 c2] 59) ∧ Bk Z a 59 [.bool s0, .bool x0, nv x1, nv p, .slice A1 m1 c1, .slice A2 m2 c2] ∧ Below w1.heap.size w1 Z ∧ w1.heap.size = a := ⟨_, _, rfl, Bk.new w1 _ _, (Below.refl _ _).alloc (Nat.le_refl _) _, rfl⟩
    rw [← hZ, hsa]
    clear hZ
    have HEZ := Lib.hid (HE1.out.later hzb)
    have HHZ := Lib.hid (HH1.out.later hzb)
    have HBZ := Lib.hid (HB1.out.trans (hzb.mono HB1.out.size))
    have HGZ := Lib.hid (Bk.later HG1.out hzb)
    have HO1Z := Lib.hid (ownBelow HO1.out hzb (Nat.le_refl _))
    have HO2Z := Lib.hid (HO2.out.later hzb)
    have r0 := hza.readT (Below.refl _ _) 0 rfl
    have r1 := hza.readT (Below.refl _ _) 1 rfl
    have r2 := hza.readT (Below.refl _ _) 2 rfl
    have r3 := hza.readT (Below.refl _ _) 3 rfl
    have r4 := hza.readT (Below.refl _ _) 4 rfl
    have r5 := hza.readT (Below.refl _ _) 5 rfl
    have HAZ := Lib.hid hza
    have HSA := Lib.hid (show W0.heap.size ≤ a by have := HS1.out; omega)
    clear hza hzb hsa HE1 HH1 HG1
    repeat (first | go_skip | go_guarded | go_step)
    refine (rulMay_any s0 (x0, x1) p A1 m1 c1 l A2 m2 c2 R2 L2 Z (OwT.rd HO1Z.out) (OwK.rd HO2Z.out) HLEN.out.1 HLEN.out.2.1 HLEN.out.2.2).mono ?_
    rintro e w2 ⟨rfl, hb2⟩
    have HE2 := Lib.hid (HEZ.out.later hb2)
    have HH2 := Lib.hid (HHZ.out.later hb2)
    have HA2 := Lib.hid (HAZ.out.later hb2)
    have HG2 := Lib.hid (Bk.later HGZ.out hb2)
    have HB2 := Lib.hid (HBZ.out.trans (hb2.mono HBZ.out.size))
    have HO12 := Lib.hid (ownBelow HO1Z.out hb2 (Nat.le_refl _))
    have HO22 := Lib.hid (HO2Z.out.later hb2)
    clear hb2 HEZ HHZ HAZ HGZ r0 r1 r2 r3 r4 r5
    generalize hmv : mayR ((s0, (x0, x1), (p, l)), L2) = mv
    cases mv with
    | false =>
      dsimp only
      repeat (first | go_skip | go_guarded | go_step)
      refine (end_any g A n c 0 5 k w2 HG2.out).mono ?_
      rintro e w3 ⟨rfl, hg3, ht3⟩
      have HE3 := Lib.hid (ht3.bk HE2.out (fun e => by have := HLT.out; omega))
      have HH3 := Lib.hid (ht3.bk HH2.out (fun e => by have := HLT.out; omega))
      have HB3 := Lib.hid (HB2.out.trans (ht3.below (B := w.heap.size) (fun k _ e => by have := HLT.out; omega) HB2.out.size))
      have HG3 := Lib.hid hg3
      have HNO := Lib.hid (show takeAns rRule zR bs t = (zR, 0, 5) by rw [rRule_u, HGOT.out.ans _ _, hmv]; rfl)
      clear hg3 ht3 hmv
      refine leaves_cons (f := 86) (args := #[.pointer (some ⟨h1, 0, none⟩)]) (by simp) (by simp [go_sem]) ?_
      refine (catchRule_panic g h1 A n c _ _ w3 HG3.out HE3.out).mono ?_
      rintro e u' w'' ⟨rfl, rfl, rfl⟩
      have hh2 := Bk.far HH3.out (p := ⟨h1, 0, none⟩) (show h0 ≠ h1 by have := HLT.out; omega) (.int .i64 (5 : Int))
      have q0 := hh2.readT (Below.refl _ _) 0 rfl
      have q1 := hh2.readT (Below.refl _ _) 1 rfl
      have q2 := hh2.readT (Below.refl _ _) 2 rfl
      have q3 := hh2.readT (Below.refl _ _) 3 rfl
      have q4 := hh2.readT (Below.refl _ _) 4 rfl
      have q5 := hh2.readT (Below.refl _ _) 5 rfl
      have qe := (HE3.out.set_ 0 (.int .i64 (5 : Int))).readT (Below.refl _ _) 0 rfl
      have hbe := Below.setCell HB3.out (p := ⟨h1, 0, none⟩) (by show w.heap.size ≤ h1; have := HLT.out; omega) (.int .i64 (5 : Int))
      have HANS := Lib.hid HNO.out
      have HBE := Lib.hid hbe
      clear hh2 hbe
      refine ⟨.tuple #[.agg #[.bool false, .bool false, .int .u32 0, .int .u32 0, .slice none 0 0, .slice none 0 0], .int .i64 0, .int .i64 (5 : Int)], ?_, false, false, 0, 0, none, 0, 0, [], none, 0, 0, [], [], 0, 5, rfl, World.ownsRow_nil _ _ _ _, OwG.nil _ _, by omega, by omega, by omega, by omega, by simp, HBE.out, HANS.out.symm⟩
      simp [results, Try.results59, go_sem, q0, q1, q2, q3, q4, q5, qe]
    | true =>
      have HNO := Lib.hid (show takeAns rRule zR bs t = (((s0, (x0, x1), (p, l)), L2), k, 0) by rw [rRule_u, HGOT.out.ans _ _, hmv]; rfl)
      have HMAY := Lib.hid (show m1 ≤ 6 ∧ m2 ≤ 8 ∧ ∀ x ∈ L2, x.2.2.2.2.length ≤ 6 by have h1 : l.length = m1 := rdT_len (OwT.rd HO12.out); have h2 : L2.length = m2 := HO22.out.lenL; have h3 := mayR_lens hmv; rw [h2] at h3; dsimp only at h3; rw [h1] at h3; exact h3)
      clear hmv
      have hh2 := HH2.out
      have ha2 := HA2.out
      have hg2 : Bk w2 g 113 _ := HG2.out
      have r0 := ha2.readT (Below.refl _ _) 0 rfl
      have r1 := ha2.readT (Below.refl _ _) 1 rfl
      have r2 := ha2.readT (Below.refl _ _) 2 rfl
      have r3 := ha2.readT (Below.refl _ _) 3 rfl
      have r4 := ha2.readT (Below.refl _ _) 4 rfl
      have r5 := ha2.readT (Below.refl _ _) 5 rfl
      have sh0 := hh2.readT (Below.refl _ _) 0 rfl
      have f0 := hh2.frozen 0
      have sh1 := hh2.readT (Below.refl _ _) 1 rfl
      have f1 := hh2.frozen 1
      have sh2 := hh2.readT (Below.refl _ _) 2 rfl
      have f2 := hh2.frozen 2
      have sh3 := hh2.readT (Below.refl _ _) 3 rfl
      have f3 := hh2.frozen 3
      have sh4 := hh2.readT (Below.refl _ _) 4 rfl
      have f4 := hh2.frozen 4
      have sh5 := hh2.readT (Below.refl _ _) 5 rfl
      have f5 := hh2.frozen 5
      have y1 := hg2.readT (Below.refl _ _) 1 rfl
      have sh9 := HE2.out.readT (Below.refl _ _) 0 rfl
      have f9 := HE2.out.frozen 0
      have xn0 : ¬ h0 = g := by have := HLT.out; omega
      have xn1 : ¬ h0 = h1 := by have := HLT.out; omega
      have xn2 : ¬ h1 = g := by have := HLT.out; omega
      clear hh2 ha2 hg2
      dsimp only
      repeat (first | go_skip | go_guarded | go_step)
      go_region
      obtain ⟨V, hV, hvh, hve, hvt⟩ : ∃ V, V = (((((((w2.setCell ⟨h0, 0, none⟩ (.bool s0)).setCell ⟨h0, 1, none⟩ (.bool x0)).setCell ⟨h0, 2, none⟩ (nv x1)).setCell ⟨h0, 3, none⟩ (nv p)).setCell ⟨h0, 4, none⟩ (.slice A1 m1 c1)).setCell ⟨h0, 5, none⟩ (.slice A2 m2 c2)).setCell ⟨h1, 0, none⟩ (.int .i64 0)).drew ∧ Bk V h0 59 [.bool s0, .bool x0, nv x1, nv p, .slice A1 m1 c1, .slice A2 m2 c2] ∧ Bk V h1 30 [.int .i64 0] ∧ Turn (fun k => k = h0 ∨ k = h1) w2 V :=
        ⟨_, rfl, Bk.drew (Bk.far ((((((HH2.out.set_ 0 (.bool s0)).set_ 1 (.bool x0)).set_ 2 (nv x1)).set_ 3 (nv p)).set_ 4 (.slice A1 m1 c1)).set_ 5 (.slice A2 m2 c2)) (show h0 ≠ h1 from xn1) _), Bk.drew ((Bk.far (Bk.far (Bk.far (Bk.far (Bk.far (Bk.far HE2.out (show h1 ≠ h0 from fun e => xn1 e.symm) _) (show h1 ≠ h0 from fun e => xn1 e.symm) _) (show h1 ≠ h0 from fun e => xn1 e.symm) _) (show h1 ≠ h0 from fun e => xn1 e.symm) _) (show h1 ≠ h0 from fun e => xn1 e.symm) _) (show h1 ≠ h0 from fun e => xn1 e.symm) _).set_ 0 (.int .i64 0)), ((((((((Turn.refl (fun k => k = h0 ∨ k = h1) w2).setCell (p := ⟨h0, 0, none⟩) (fun _ => .inl rfl) _).setCell (p := ⟨h0, 1, none⟩) (fun _ => .inl rfl) _).setCell (p := ⟨h0, 2, none⟩) (fun _ => .inl rfl) _).setCell (p := ⟨h0, 3, none⟩) (fun _ => .inl rfl) _).setCell (p := ⟨h0, 4, none⟩) (fun _ => .inl rfl) _).setCell (p := ⟨h0, 5, none⟩) (fun _ => .inl rfl) _).setCell (p := ⟨h1, 0, none⟩) (fun _ => .inr rfl) _).drew⟩
      rw [← hV]
      clear hV sh9 f9 y1 r0 sh0 f0 r1 sh1 f1 r2 sh2 f2 r3 sh3 f3 r4 sh4 f4 r5 sh5 f5
      have q0 := hvh.readT (Below.refl _ _) 0 rfl
      have q1 := hvh.readT (Below.refl _ _) 1 rfl
      have q2 := hvh.readT (Below.refl _ _) 2 rfl
      have q3 := hvh.readT (Below.refl _ _) 3 rfl
      have q4 := hvh.readT (Below.refl _ _) 4 rfl
      have q5 := hvh.readT (Below.refl _ _) 5 rfl
      have qe := hve.readT (Below.refl _ _) 0 rfl
      have HBV := Lib.hid (HB2.out.trans (hvt.below (B := w.heap.size) (fun k _ e => by have := HLT.out; omega) HB2.out.size))
      have ho1V := hvt.own HO12.out (fun k hk e => by have := (World.ownsRow.lt HO12.out k hk).1; have := HLT.out; omega)
      obtain ⟨_, _, hf1, hle1⟩ := ownForm ho1V
      have hc1 : m1 ≤ c1 := by simp only [Value.slice.injEq] at hf1; omega
      have HO1V := Lib.hid ho1V
      have ho2V := HO22.out.turn hvt (fun k hk e => by have := HS1.out; have := HLT.out; omega)
      have hc2 : m2 ≤ c2 := ho2V.cap
      have HO2V := Lib.hid ho2V
      clear ho2V
      clear hvh hve hvt hf1 hle1 ho1V
      repeat (first | go_skip | go_guarded | go_step)
      refine leaves_cons (f := 86) (args := #[.pointer (some ⟨h1, 0, none⟩)]) (by simp) (by simp [go_sem]) ?_
      refine (catchRule_idle h1 V).mono ?_
      rintro e u' w'' ⟨rfl, rfl, rfl⟩
      refine ⟨.tuple #[.agg #[.bool s0, .bool x0, nv x1, nv p, .slice A1 m1 c1, .slice A2 m2 c2], .int .i64 (k : Int), .int .i64 0], ?_, s0, x0, x1, p, A1, m1, c1, l, A2, m2, c2, R2, L2, k, 0, rfl, ownLower HO1V.out (by have := HLT.out; omega), OwG.lower HO2V.out (by have := HLT.out; omega), hc1, hc2, HMAY.out.1, HMAY.out.2.1, HMAY.out.2.2, HBV.out, HNO.out.symm⟩
      simp [results, Try.results59, go_sem, q0, q1, q2, q3, q4, q5, qe]
  · have HE1 := Lib.hid (ht.bk HE.out (fun e => by have := HLT.out; omega))
    have HH1 := Lib.hid (ht.bk HH.out (fun e => by have := HLT.out; omega))
    have HB1 := Lib.hid (HB.out.trans (ht.below (B := w.heap.size) (fun k _ e => by have := HLT.out; omega) (by have := HLT.out; omega)))
    have HG1 := Lib.hid hg
    have HNO := Lib.hid hno
    clear ht hg hno
    refine leaves_cons (f := 86) (args := #[.pointer (some ⟨h1, 0, none⟩)]) (by simp) (by simp [go_sem]) ?_
    refine (catchRule_panic g h1 A n c _ _ w1 HG1.out HE1.out).mono ?_
    rintro e u' w'' ⟨rfl, rfl, rfl⟩
    have hh2 := Bk.far HH1.out (p := ⟨h1, 0, none⟩) (show h0 ≠ h1 by have := HLT.out; omega) (.int .i64 (z : Int))
    have q0 := hh2.readT (Below.refl _ _) 0 rfl
    have q1 := hh2.readT (Below.refl _ _) 1 rfl
    have q2 := hh2.readT (Below.refl _ _) 2 rfl
    have q3 := hh2.readT (Below.refl _ _) 3 rfl
    have q4 := hh2.readT (Below.refl _ _) 4 rfl
    have q5 := hh2.readT (Below.refl _ _) 5 rfl
    have qe := (HE1.out.set_ 0 (.int .i64 (z : Int))).readT (Below.refl _ _) 0 rfl
    have hbe := Below.setCell HB1.out (p := ⟨h1, 0, none⟩) (by show w.heap.size ≤ h1; have := HLT.out; omega) (.int .i64 (z : Int))
    have HANS := Lib.hid (show takeAns rRule zR bs t = (zR, 0, z) by rw [rRule_u]; exact HNO.out.ans _ _)
    have HBE := Lib.hid hbe
    clear hh2 hbe
    refine ⟨.tuple #[.agg #[.bool false, .bool false, .int .u32 0, .int .u32 0, .slice none 0 0, .slice none 0 0], .int .i64 0, .int .i64 (z : Int)], ?_, false, false, 0, 0, none, 0, 0, [], none, 0, 0, [], [], 0, z, rfl, World.ownsRow_nil _ _ _ _, OwG.nil _ _, by omega, by omega, by omega, by omega, by simp, HBE.out, HANS.out.symm⟩
    simp [results, Try.results59, go_sem, q0, q1, q2, q3, q4, q5, qe]
end Go.Proofs.Ytcoafgnbmgndeaa
