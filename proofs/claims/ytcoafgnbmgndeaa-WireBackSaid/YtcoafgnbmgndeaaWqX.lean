/- Layer 6 (wire), the program's put: PutFact, PutClause, PutRule. -/
import Derived.Test.YtcoafgnbmgndeaaWqS
import Derived.Test.YtcoafgnbmgndeaaWqV
import Derived.Test.YtcoafgnbmgndeaaWqN
set_option linter.unusedVariables false
set_option linter.unusedSimpArgs false
namespace Go.Proofs.Ytcoafgnbmgndeaa
open Go Go.RowKit

set_option maxRecDepth 100000 in
set_option maxHeartbeats 4000000 in
theorem putFactG_any (A : Option Addr) (n c : Nat) (bs : List UInt8) (p : UInt32) (A1 : Option Addr) (n1 c1 : Nat) (l : List UInt32) (w : World) (hr : Rd w w.heap.size 1 A n (bs.map bv)) (hc : n ≤ c) (hn : n ≤ 1000000) : RdU w w.heap.size A1 n1 l → n1 ≤ c1 → n1 ≤ 1000 →
    Calls Try.prog 33 #[.slice A n c, .agg #[nv p, .slice A1 n1 c1], .func (.func 34) #[] #[], .func (.func 35) #[] #[]] w fun e w' => ∃ (A' : Option Addr) (m c' : Nat) (z : Int) (bs' : List UInt8), e = .returned (.tuple #[.slice A' m c', .int .i64 z]) ∧ Ow w' w.heap.size A' c' m bs' ∧ Below w.heap.size w w' ∧ ((mayF (p, l) = true ∧ z = 0 ∧ bs' = bs ++ factB (p, l)) ∨ (mayF (p, l) = false ∧ z = 8 ∧ bs' = [])) := by
  intro hr1 hc1 hn1
  obtain ⟨U, hU, hH, hb⟩ : ∃ U, U = w.alloc (.cells #[nv p, .slice A1 n1 c1] 26) ∧ Bk U w.heap.size 26 [nv p, .slice A1 n1 c1] ∧ Below w.heap.size w U := ⟨_, rfl, Bk.new w _ _, (Below.refl _ _).alloc (Nat.le_refl _) _⟩
  have HU := Lib.hid hU
  have HH := Lib.hid hH
  have HB := Lib.hid hb
  have HR := Lib.hid ((hr.below hb).more hb.size)
  have HR1 := Lib.hid ((hr1.below hb).more hb.size)

  have HL := Lib.hid (show bs.length = n by simpa using hr.len1)
  have r0 := hH.readT (Below.refl _ _) 0 rfl
  have r1 := hH.readT (Below.refl _ _) 1 rfl
  clear hU hH hb hr hr1
  go_enter Try.func33, Try.ntmps33
  go_upto_region 1 with (fail)
  rw [← HU.out]
  clear HU
  repeat (first | go_skip | go_guarded | go_step)
  refine (factMay_any p A1 n1 c1 l U (rdU_len HR1.out)).mono ?_
  rintro e V ⟨rfl, hbV⟩
  have hv := HH.out.later hbV
  have zz0 := hv.readT (Below.refl _ _) 0 rfl
  have zz1 := hv.readT (Below.refl _ _) 1 rfl
  have HBV := Lib.hid (HB.out.trans (hbV.mono HB.out.size))
  have hsV : w.heap.size ≤ V.heap.size := Nat.le_trans HB.out.size hbV.size
  have HRb := Lib.hid ((HR.out.below hbV).more hbV.size)
  have HRV := Lib.hid ((HR1.out.below hbV).more hbV.size)

  clear hbV hv r0 r1
  generalize hmv : mayF (p, l) = mv
  dsimp only
  cases mv with
  | false =>
    have HMV := Lib.hid hmv
    clear hmv
    repeat (first | go_skip | go_guarded | go_step)
    go_ret2
    exact ⟨none, 0, 0, 8, [], rfl, owNil _ _, HBV.out, .inr ⟨HMV.out, rfl, rfl⟩⟩
  | true =>
    have hlen := factB_len hmv
    have HMV := Lib.hid hmv
    clear hmv
    repeat (first | go_skip | go_guarded | go_step)
    refine (appFact_any V.heap.size none 0 0 [] p A1 n1 c1 l V (owNil _ _) (Nat.le_refl _) HRV.out (by omega)).mono ?_
    rintro e W2 ⟨A3, m3, c3, rfl, ho, ht, hf⟩
    rw [List.nil_append] at ho
    have hl3 := Ow.len ho
    have hb2 : Below V.heap.size V W2 := ht.below (fun k _ h => by simp [Value.ownBlock] at h) (Nat.le_refl _)
    obtain ⟨W3, hW3, hq, hb3⟩ : ∃ W3, W3 = W2.alloc (.cells #[.slice A n c, .slice A3 m3 c3] 22) ∧ Bk W3 W2.heap.size 22 [.slice A n c, .slice A3 m3 c3] ∧ Below W2.heap.size W2 W3 := ⟨_, rfl, Bk.new W2 _ _, (Below.refl _ _).alloc (Nat.le_refl _) _⟩
    have HW3 := Lib.hid hW3
    have HQ := Lib.hid hq
    have HB3 := Lib.hid (HBV.out.trans ((hb2.trans (hb3.mono hb2.size)).mono hsV))
    have HRc := Lib.hid ((HRb.out.below (hb2.trans (hb3.mono hb2.size))).more (Nat.le_trans hb2.size hb3.size))
    have HRe := Lib.hid ((Ow.rd ho).below hb3 |>.more hb3.size)
    have hs3 : w.heap.size ≤ W3.heap.size := Nat.le_trans hsV (Nat.le_trans hb2.size hb3.size)
    clear ho ht hf hb2 hW3 hq hb3 zz0 zz1
    dsimp only
    repeat (first | go_skip | go_guarded | go_step)
    rw [← HW3.out]
    refine (concat_any W2.heap.size A n c bs A3 m3 c3 _ W3 HQ.out HRc.out HRe.out (by omega) (by omega)).mono ?_
    rintro e W4 ⟨A4, m4, c4, rfl, ho4, hb4⟩
    have HO4 := Lib.hid (ownLower ho4 hs3)
    have HB4 := Lib.hid (HB3.out.trans (hb4.mono hs3))
    clear ho4 hb4
    dsimp only
    repeat (first | go_skip | go_guarded | go_step)
    go_ret2
    exact ⟨A4, m4, c4, 0, _, rfl, HO4.out, HB4.out, .inl ⟨HMV.out, rfl, rfl⟩⟩

set_option maxRecDepth 100000 in
set_option maxHeartbeats 4000000 in
theorem putFact_any : PutFactOk := by
  intro A n c bs p A1 n1 c1 l w hr hc hn hr1 hc1 hn1
  obtain ⟨U, hU, hH, hb⟩ : ∃ U, U = w.alloc (.cells #[nv p, .slice A1 n1 c1] 26) ∧ Bk U w.heap.size 26 [nv p, .slice A1 n1 c1] ∧ Below w.heap.size w U := ⟨_, rfl, Bk.new w _ _, (Below.refl _ _).alloc (Nat.le_refl _) _⟩
  have HU := Lib.hid hU
  have HB0 := Lib.hid hb
  have H := Lib.hid (putFactG_any A n c bs p A1 n1 c1 l U ((hr.below hb).more hb.size) hc hn ((hr1.below hb).more hb.size) hc1 hn1)
  have r0 := hH.readT (Below.refl _ _) 0 rfl
  have r1 := hH.readT (Below.refl _ _) 1 rfl
  clear hr hr1 hc1 hn1 hU hH hb
  go_enter Try.func11, Try.ntmps11
  go_upto_region 1 with (fail)
  rw [← HU.out]
  clear HU
  repeat (first | go_skip | go_guarded | go_step)
  refine H.out.mono ?_
  rintro e w1 ⟨A', m, c', z, bs', rfl, ho, hb, h⟩
  have HO := Lib.hid (ownLower ho HB0.out.size)
  have HB := Lib.hid (HB0.out.trans (hb.mono HB0.out.size))
  have HC := Lib.hid h
  clear H ho hb h
  dsimp only
  repeat (first | go_skip | go_guarded | go_step)
  go_ret2
  exact ⟨A', m, c', z, bs', rfl, HO.out, HB.out, HC.out⟩

set_option maxRecDepth 100000 in
set_option maxHeartbeats 4000000 in
theorem putClauseG_any (A : Option Addr) (n c : Nat) (bs : List UInt8) (p : UInt32) (A1 : Option Addr) (n1 c1 : Nat) (l : List Tm) (A2 : Option Addr) (n2 c2 : Nat) (R : List SlA) (L : List Li) (w : World) (hr : Rd w w.heap.size 1 A n (bs.map bv)) (hc : n ≤ c) (hn : n ≤ 1000000) : RdT w w.heap.size A1 n1 l → RdL w w.heap.size A2 n2 R L → n1 ≤ c1 → n2 ≤ c2 → n1 ≤ 1000 → n2 ≤ 1000 → (∀ x ∈ L, x.2.2.length ≤ 1000) →
    Calls Try.prog 44 #[.slice A n c, .agg #[nv p, .slice A1 n1 c1, .slice A2 n2 c2], .func (.func 45) #[] #[], .func (.func 46) #[] #[]] w fun e w' => ∃ (A' : Option Addr) (m c' : Nat) (z : Int) (bs' : List UInt8), e = .returned (.tuple #[.slice A' m c', .int .i64 z]) ∧ Ow w' w.heap.size A' c' m bs' ∧ Below w.heap.size w w' ∧ ((mayC ((p, l), L) = true ∧ z = 0 ∧ bs' = bs ++ clauseB ((p, l), L)) ∨ (mayC ((p, l), L) = false ∧ z = 8 ∧ bs' = [])) := by
  intro hr1 hr2 hc1 hc2 hn1 hn2 hk
  obtain ⟨U, hU, hH, hb⟩ : ∃ U, U = w.alloc (.cells #[nv p, .slice A1 n1 c1, .slice A2 n2 c2] 45) ∧ Bk U w.heap.size 45 [nv p, .slice A1 n1 c1, .slice A2 n2 c2] ∧ Below w.heap.size w U := ⟨_, rfl, Bk.new w _ _, (Below.refl _ _).alloc (Nat.le_refl _) _⟩
  have HU := Lib.hid hU
  have HH := Lib.hid hH
  have HB := Lib.hid hb
  have HR := Lib.hid ((hr.below hb).more hb.size)
  have HR1 := Lib.hid ((hr1.below hb).more hb.size)
  have HR2 := Lib.hid ((hr2.below hb).more hb.size)
  have HL := Lib.hid (show bs.length = n by simpa using hr.len1)
  have r0 := hH.readT (Below.refl _ _) 0 rfl
  have r1 := hH.readT (Below.refl _ _) 1 rfl
  have r2 := hH.readT (Below.refl _ _) 2 rfl
  clear hU hH hb hr hr1 hr2
  go_enter Try.func44, Try.ntmps44
  go_upto_region 1 with (fail)
  rw [← HU.out]
  clear HU
  repeat (first | go_skip | go_guarded | go_step)
  refine (cMay_any p A1 n1 c1 l A2 n2 c2 R L U HR1.out HR2.out (by omega) (by omega) (fun x hx => Nat.le_trans (hk x hx) (by omega))).mono ?_
  rintro e V ⟨rfl, hbV⟩
  have hv := HH.out.later hbV
  have zz0 := hv.readT (Below.refl _ _) 0 rfl
  have zz1 := hv.readT (Below.refl _ _) 1 rfl
  have zz2 := hv.readT (Below.refl _ _) 2 rfl
  have HBV := Lib.hid (HB.out.trans (hbV.mono HB.out.size))
  have hsV : w.heap.size ≤ V.heap.size := Nat.le_trans HB.out.size hbV.size
  have HRb := Lib.hid ((HR.out.below hbV).more hbV.size)
  have HRV := Lib.hid ((HR1.out.below hbV).more hbV.size)
  have HRV2 := Lib.hid ((HR2.out.below hbV).more hbV.size)
  clear hbV hv r0 r1 r2
  generalize hmv : mayC ((p, l), L) = mv
  dsimp only
  cases mv with
  | false =>
    have HMV := Lib.hid hmv
    clear hmv
    repeat (first | go_skip | go_guarded | go_step)
    go_ret2
    exact ⟨none, 0, 0, 8, [], rfl, owNil _ _, HBV.out, .inr ⟨HMV.out, rfl, rfl⟩⟩
  | true =>
    have hlen := clauseB_len hmv
    have HMV := Lib.hid hmv
    clear hmv
    repeat (first | go_skip | go_guarded | go_step)
    refine (appClause_any V.heap.size none 0 0 [] p A1 n1 c1 l A2 n2 c2 R L V (owNil _ _) (Nat.le_refl _) HRV.out HRV2.out (by omega)).mono ?_
    rintro e W2 ⟨A3, m3, c3, rfl, ho, ht, hf⟩
    rw [List.nil_append] at ho
    have hl3 := Ow.len ho
    have hb2 : Below V.heap.size V W2 := ht.below (fun k _ h => by simp [Value.ownBlock] at h) (Nat.le_refl _)
    obtain ⟨W3, hW3, hq, hb3⟩ : ∃ W3, W3 = W2.alloc (.cells #[.slice A n c, .slice A3 m3 c3] 22) ∧ Bk W3 W2.heap.size 22 [.slice A n c, .slice A3 m3 c3] ∧ Below W2.heap.size W2 W3 := ⟨_, rfl, Bk.new W2 _ _, (Below.refl _ _).alloc (Nat.le_refl _) _⟩
    have HW3 := Lib.hid hW3
    have HQ := Lib.hid hq
    have HB3 := Lib.hid (HBV.out.trans ((hb2.trans (hb3.mono hb2.size)).mono hsV))
    have HRc := Lib.hid ((HRb.out.below (hb2.trans (hb3.mono hb2.size))).more (Nat.le_trans hb2.size hb3.size))
    have HRe := Lib.hid ((Ow.rd ho).below hb3 |>.more hb3.size)
    have hs3 : w.heap.size ≤ W3.heap.size := Nat.le_trans hsV (Nat.le_trans hb2.size hb3.size)
    clear ho ht hf hb2 hW3 hq hb3 zz0 zz1 zz2
    dsimp only
    repeat (first | go_skip | go_guarded | go_step)
    rw [← HW3.out]
    refine (concat_any W2.heap.size A n c bs A3 m3 c3 _ W3 HQ.out HRc.out HRe.out (by omega) (by omega)).mono ?_
    rintro e W4 ⟨A4, m4, c4, rfl, ho4, hb4⟩
    have HO4 := Lib.hid (ownLower ho4 hs3)
    have HB4 := Lib.hid (HB3.out.trans (hb4.mono hs3))
    clear ho4 hb4
    dsimp only
    repeat (first | go_skip | go_guarded | go_step)
    go_ret2
    exact ⟨A4, m4, c4, 0, _, rfl, HO4.out, HB4.out, .inl ⟨HMV.out, rfl, rfl⟩⟩

set_option maxRecDepth 100000 in
set_option maxHeartbeats 4000000 in
theorem putClause_any : PutClauseOk := by
  intro A n c bs p A1 n1 c1 l A2 n2 c2 R L w hr hc hn hr1 hr2 hc1 hc2 hn1 hn2 hk
  obtain ⟨U, hU, hH, hb⟩ : ∃ U, U = w.alloc (.cells #[nv p, .slice A1 n1 c1, .slice A2 n2 c2] 45) ∧ Bk U w.heap.size 45 [nv p, .slice A1 n1 c1, .slice A2 n2 c2] ∧ Below w.heap.size w U := ⟨_, rfl, Bk.new w _ _, (Below.refl _ _).alloc (Nat.le_refl _) _⟩
  have HU := Lib.hid hU
  have HB0 := Lib.hid hb
  have H := Lib.hid (putClauseG_any A n c bs p A1 n1 c1 l A2 n2 c2 R L U ((hr.below hb).more hb.size) hc hn ((hr1.below hb).more hb.size) ((hr2.below hb).more hb.size) hc1 hc2 hn1 hn2 hk)
  have r0 := hH.readT (Below.refl _ _) 0 rfl
  have r1 := hH.readT (Below.refl _ _) 1 rfl
  have r2 := hH.readT (Below.refl _ _) 2 rfl
  clear hr hr1 hr2 hc1 hc2 hn1 hn2 hk hU hH hb
  go_enter Try.func19, Try.ntmps19
  go_upto_region 1 with (fail)
  rw [← HU.out]
  clear HU
  repeat (first | go_skip | go_guarded | go_step)
  refine H.out.mono ?_
  rintro e w1 ⟨A', m, c', z, bs', rfl, ho, hb, h⟩
  have HO := Lib.hid (ownLower ho HB0.out.size)
  have HB := Lib.hid (HB0.out.trans (hb.mono HB0.out.size))
  have HC := Lib.hid h
  clear H ho hb h
  dsimp only
  repeat (first | go_skip | go_guarded | go_step)
  go_ret2
  exact ⟨A', m, c', z, bs', rfl, HO.out, HB.out, HC.out⟩

set_option maxRecDepth 100000 in
set_option maxHeartbeats 4000000 in
theorem putRuleG_any (A : Option Addr) (n c : Nat) (bs : List UInt8) (s0 : Bool) (x0 : Tm) (p : UInt32) (A1 : Option Addr) (n1 c1 : Nat) (l : List Tm) (A2 : Option Addr) (n2 c2 : Nat) (R : List SlA) (L : List Co) (w : World) (hr : Rd w w.heap.size 1 A n (bs.map bv)) (hc : n ≤ c) (hn : n ≤ 1000000) : RdT w w.heap.size A1 n1 l → RdK w w.heap.size A2 n2 R L → n1 ≤ c1 → n2 ≤ c2 → n1 ≤ 1000 → n2 ≤ 1000 → (∀ x ∈ L, x.2.2.2.2.length ≤ 1000) →
    Calls Try.prog 54 #[.slice A n c, .agg #[.bool s0, .bool x0.1, nv x0.2, nv p, .slice A1 n1 c1, .slice A2 n2 c2], .func (.func 27) #[] #[], .func (.func 55) #[] #[]] w fun e w' => ∃ (A' : Option Addr) (m c' : Nat) (z : Int) (bs' : List UInt8), e = .returned (.tuple #[.slice A' m c', .int .i64 z]) ∧ Ow w' w.heap.size A' c' m bs' ∧ Below w.heap.size w w' ∧ ((mayR ((s0, x0, (p, l)), L) = true ∧ z = 0 ∧ bs' = bs ++ ruleB ((s0, x0, (p, l)), L)) ∨ (mayR ((s0, x0, (p, l)), L) = false ∧ z = 8 ∧ bs' = [])) := by
  intro hr1 hr2 hc1 hc2 hn1 hn2 hk
  obtain ⟨U, hU, hH, hb⟩ : ∃ U, U = w.alloc (.cells #[.bool s0, .bool x0.1, nv x0.2, nv p, .slice A1 n1 c1, .slice A2 n2 c2] 59) ∧ Bk U w.heap.size 59 [.bool s0, .bool x0.1, nv x0.2, nv p, .slice A1 n1 c1, .slice A2 n2 c2] ∧ Below w.heap.size w U := ⟨_, rfl, Bk.new w _ _, (Below.refl _ _).alloc (Nat.le_refl _) _⟩
  have HU := Lib.hid hU
  have HH := Lib.hid hH
  have HB := Lib.hid hb
  have HR := Lib.hid ((hr.below hb).more hb.size)
  have HR1 := Lib.hid ((hr1.below hb).more hb.size)
  have HR2 := Lib.hid ((hr2.below hb).more hb.size)
  have HL := Lib.hid (show bs.length = n by simpa using hr.len1)
  have r0 := hH.readT (Below.refl _ _) 0 rfl
  have r1 := hH.readT (Below.refl _ _) 1 rfl
  have r2 := hH.readT (Below.refl _ _) 2 rfl
  have r3 := hH.readT (Below.refl _ _) 3 rfl
  have r4 := hH.readT (Below.refl _ _) 4 rfl
  have r5 := hH.readT (Below.refl _ _) 5 rfl
  clear hU hH hb hr hr1 hr2
  go_enter Try.func54, Try.ntmps54
  go_upto_region 1 with (fail)
  rw [← HU.out]
  clear HU
  repeat (first | go_skip | go_guarded | go_step)
  refine (rulMay_any s0 x0 p A1 n1 c1 l A2 n2 c2 R L U HR1.out HR2.out (by omega) (by omega) (fun x hx => Nat.le_trans (hk x hx) (by omega))).mono ?_
  rintro e V ⟨rfl, hbV⟩
  have hv := HH.out.later hbV
  have zz0 := hv.readT (Below.refl _ _) 0 rfl
  have zz1 := hv.readT (Below.refl _ _) 1 rfl
  have zz2 := hv.readT (Below.refl _ _) 2 rfl
  have zz3 := hv.readT (Below.refl _ _) 3 rfl
  have zz4 := hv.readT (Below.refl _ _) 4 rfl
  have zz5 := hv.readT (Below.refl _ _) 5 rfl
  have HBV := Lib.hid (HB.out.trans (hbV.mono HB.out.size))
  have hsV : w.heap.size ≤ V.heap.size := Nat.le_trans HB.out.size hbV.size
  have HRb := Lib.hid ((HR.out.below hbV).more hbV.size)
  have HRV := Lib.hid ((HR1.out.below hbV).more hbV.size)
  have HRV2 := Lib.hid ((HR2.out.below hbV).more hbV.size)
  clear hbV hv r0 r1 r2 r3 r4 r5
  generalize hmv : mayR ((s0, x0, (p, l)), L) = mv
  dsimp only
  cases mv with
  | false =>
    have HMV := Lib.hid hmv
    clear hmv
    repeat (first | go_skip | go_guarded | go_step)
    go_ret2
    exact ⟨none, 0, 0, 8, [], rfl, owNil _ _, HBV.out, .inr ⟨HMV.out, rfl, rfl⟩⟩
  | true =>
    have hlen := ruleB_len hmv
    have HMV := Lib.hid hmv
    clear hmv
    repeat (first | go_skip | go_guarded | go_step)
    refine (appRule_any V.heap.size none 0 0 [] s0 x0 p A1 n1 c1 l A2 n2 c2 R L V (owNil _ _) (Nat.le_refl _) HRV.out HRV2.out (by omega)).mono ?_
    rintro e W2 ⟨A3, m3, c3, rfl, ho, ht, hf⟩
    rw [List.nil_append] at ho
    have hl3 := Ow.len ho
    have hb2 : Below V.heap.size V W2 := ht.below (fun k _ h => by simp [Value.ownBlock] at h) (Nat.le_refl _)
    obtain ⟨W3, hW3, hq, hb3⟩ : ∃ W3, W3 = W2.alloc (.cells #[.slice A n c, .slice A3 m3 c3] 22) ∧ Bk W3 W2.heap.size 22 [.slice A n c, .slice A3 m3 c3] ∧ Below W2.heap.size W2 W3 := ⟨_, rfl, Bk.new W2 _ _, (Below.refl _ _).alloc (Nat.le_refl _) _⟩
    have HW3 := Lib.hid hW3
    have HQ := Lib.hid hq
    have HB3 := Lib.hid (HBV.out.trans ((hb2.trans (hb3.mono hb2.size)).mono hsV))
    have HRc := Lib.hid ((HRb.out.below (hb2.trans (hb3.mono hb2.size))).more (Nat.le_trans hb2.size hb3.size))
    have HRe := Lib.hid ((Ow.rd ho).below hb3 |>.more hb3.size)
    have hs3 : w.heap.size ≤ W3.heap.size := Nat.le_trans hsV (Nat.le_trans hb2.size hb3.size)
    clear ho ht hf hb2 hW3 hq hb3 zz0 zz1 zz2 zz3 zz4 zz5
    dsimp only
    repeat (first | go_skip | go_guarded | go_step)
    rw [← HW3.out]
    refine (concat_any W2.heap.size A n c bs A3 m3 c3 _ W3 HQ.out HRc.out HRe.out (by omega) (by omega)).mono ?_
    rintro e W4 ⟨A4, m4, c4, rfl, ho4, hb4⟩
    have HO4 := Lib.hid (ownLower ho4 hs3)
    have HB4 := Lib.hid (HB3.out.trans (hb4.mono hs3))
    clear ho4 hb4
    dsimp only
    repeat (first | go_skip | go_guarded | go_step)
    go_ret2
    exact ⟨A4, m4, c4, 0, _, rfl, HO4.out, HB4.out, .inl ⟨HMV.out, rfl, rfl⟩⟩

set_option maxRecDepth 100000 in
set_option maxHeartbeats 4000000 in
theorem putRule_any : PutRuleOk := by
  intro A n c bs s0 x0 p A1 n1 c1 l A2 n2 c2 R L w hr hc hn hr1 hr2 hc1 hc2 hn1 hn2 hk
  obtain ⟨U, hU, hH, hb⟩ : ∃ U, U = w.alloc (.cells #[.bool s0, .bool x0.1, nv x0.2, nv p, .slice A1 n1 c1, .slice A2 n2 c2] 59) ∧ Bk U w.heap.size 59 [.bool s0, .bool x0.1, nv x0.2, nv p, .slice A1 n1 c1, .slice A2 n2 c2] ∧ Below w.heap.size w U := ⟨_, rfl, Bk.new w _ _, (Below.refl _ _).alloc (Nat.le_refl _) _⟩
  have HU := Lib.hid hU
  have HB0 := Lib.hid hb
  have H := Lib.hid (putRuleG_any A n c bs s0 x0 p A1 n1 c1 l A2 n2 c2 R L U ((hr.below hb).more hb.size) hc hn ((hr1.below hb).more hb.size) ((hr2.below hb).more hb.size) hc1 hc2 hn1 hn2 hk)
  have r0 := hH.readT (Below.refl _ _) 0 rfl
  have r1 := hH.readT (Below.refl _ _) 1 rfl
  have r2 := hH.readT (Below.refl _ _) 2 rfl
  have r3 := hH.readT (Below.refl _ _) 3 rfl
  have r4 := hH.readT (Below.refl _ _) 4 rfl
  have r5 := hH.readT (Below.refl _ _) 5 rfl
  clear hr hr1 hr2 hc1 hc2 hn1 hn2 hk hU hH hb
  go_enter Try.func26, Try.ntmps26
  go_upto_region 1 with (fail)
  rw [← HU.out]
  clear HU
  repeat (first | go_skip | go_guarded | go_step)
  refine H.out.mono ?_
  rintro e w1 ⟨A', m, c', z, bs', rfl, ho, hb, h⟩
  have HO := Lib.hid (ownLower ho HB0.out.size)
  have HB := Lib.hid (HB0.out.trans (hb.mono HB0.out.size))
  have HC := Lib.hid h
  clear H ho hb h
  dsimp only
  repeat (first | go_skip | go_guarded | go_step)
  go_ret2
  exact ⟨A', m, c', z, bs', rfl, HO.out, HB.out, HC.out⟩
end Go.Proofs.Ytcoafgnbmgndeaa
