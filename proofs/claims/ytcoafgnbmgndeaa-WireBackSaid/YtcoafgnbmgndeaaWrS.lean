/- Layer 6 (wire), the document's taker: a say. -/
import Derived.Test.YtcoafgnbmgndeaaWrU
set_option linter.unusedVariables false
set_option linter.unusedSimpArgs false
namespace Go.Proofs.Ytcoafgnbmgndeaa
open Go Go.RowKit

theorem AfterW.say {o : Option (List UInt8)} {bs : List UInt8} {k1 k2 k3 : Nat} {b1 b2 b3 sd : Bool} {x : Tm} {y : AtL} (h : AfterW (o.bind rBit) bs k1 b1 sd) (h2 : AfterW ((rest bs k1 b1).bind (rWho sd)) bs k2 b2 x) (h3 : AfterW ((rest bs k2 b2).bind rAtom) bs k3 b3 y) : AfterW (o.bind rSay) bs k3 b3 (sd, x, y) := by
  have dead : ∀ {b : Bool}, b = true → AfterW ((rest bs k2 b).bind rAtom) bs k3 b3 y → b3 = true := by
    intro b hb h
    subst hb
    exact h
  cases o with
  | none =>
    have h : b1 = true := h
    subst h
    exact dead (show b2 = true from h2) h3
  | some l =>
    have h : AfterW (rBit l) bs k1 b1 sd := h
    show AfterW (rSay l) bs k3 b3 (sd, x, y)
    unfold rSay
    cases hp : rBit l with
    | none =>
      rw [hp] at h
      have h : b1 = true := h
      subst h
      exact dead (show b2 = true from h2) h3
    | some z =>
      obtain ⟨x', r⟩ := z
      rw [hp] at h
      obtain ⟨rfl, rfl, rfl⟩ := h
      have h2 : AfterW (rWho sd (bs.drop k1)) bs k2 b2 x := h2
      dsimp only
      cases hq : rWho sd (bs.drop k1) with
      | none =>
        rw [hq] at h2
        exact dead (show b2 = true from h2) h3
      | some z2 =>
        obtain ⟨y', r2⟩ := z2
        rw [hq] at h2
        obtain ⟨rfl, rfl, rfl⟩ := h2
        have h3 : AfterW (rAtom (bs.drop k2)) bs k3 b3 y := h3
        dsimp only
        cases hr : rAtom (bs.drop k2) with
        | none => rw [hr] at h3; exact h3
        | some z3 =>
          rw [hr] at h3
          exact ⟨h3.1, by rw [h3.2.1], h3.2.2⟩
theorem AfterW.nobody {bs : List UInt8} {k : Nat} {bad : Bool} : AfterW ((rest bs k bad).bind (rWho false)) bs k bad (false, 0) := by
  cases bad
  · exact ⟨rfl, rfl, rfl⟩
  · rfl
theorem AfterW.who {o : Option (List UInt8)} {bs : List UInt8} {k : Nat} {bad : Bool} {x : Tm} (h : AfterW (o.bind rTerm) bs k bad x) : AfterW (o.bind (rWho true)) bs k bad x := by
  cases o with
  | none => exact h
  | some l => exact h

set_option maxRecDepth 100000 in
set_option maxHeartbeats 4000000 in
theorem rSay_any (g : Nat) (A : Option Addr) (n c k : Nat) (bad : Bool) (bs : List UInt8) (w : World) (hk0 : Tk w g A n c k bad) (hr : Rd w g 1 A n (bs.map bv)) (hc : n ≤ c) (hm : n ≤ 140737488355328) (hk : k ≤ n) :
    Calls Try.prog 61 #[.pointer (some ⟨g, 0, none⟩)] w fun e w' => ∃ (s : Sy) (A' : Option Addr) (m c' : Nat) (k' : Nat) (bad' : Bool), e = .returned (.agg #[.bool s.1, .bool s.2.1.1, nv s.2.1.2, nv s.2.2.1, .slice A' m c']) ∧ OwT w' w.heap.size A' c' m s.2.2.2 ∧ m ≤ 6 ∧ Tk w' g A n c k' bad' ∧ k' ≤ n ∧ Turn (fun i => i = g) w w' ∧ AfterW ((rest bs k bad).bind rSay) bs k' bad' s := by
  have hlt := Bk.lt hk0
  obtain ⟨U, hU, hT, hH, hS, hbU, hsz⟩ : ∃ U, U = (w.alloc (.cells #[.bool false, .bool false, .int .u32 0, .int .u32 0, .slice none 0 0] 56)).alloc (.cells #[.bool false, .bool false, .int .u32 0, .int .u32 0, .slice none 0 0] 56) ∧ Tk U g A n c k bad ∧ Bk U w.heap.size 56 [.bool false, .bool false, .int .u32 0, .int .u32 0, .slice none 0 0] ∧ Bk U (w.heap.size + 1) 56 [.bool false, .bool false, .int .u32 0, .int .u32 0, .slice none 0 0] ∧ Below w.heap.size w U ∧ U.heap.size = w.heap.size + 2 :=
    ⟨_, rfl, Bk.alloc (Bk.alloc hk0 _) _, (Bk.new w _ _).alloc _, Bk.second w _ _ _, below2 _ _ _, by simp⟩
  have HU := Lib.hid hU
  have HT := Lib.hid hT
  have HH := Lib.hid hH
  have HS := Lib.hid hS
  have HB := Lib.hid hbU
  have HR := Lib.hid hr
  have HSZ := Lib.hid hsz
  clear hU hT hH hS hbU hk0 hr hsz
  go_enter Try.func61, Try.ntmps61
  go_upto_region 2 with (fail)
  rw [← HU.out]
  clear HU
  generalize hh2 : w.heap.size = h2 at HH HS HB hlt HSZ ⊢
  repeat (first | go_skip | go_guarded | go_step)
  refine (rOctet_any g A n c k 1 bad bs U HT.out (HR.out.below (HB.out.mono (by omega))) hc hm hk).mono ?_
  rintro e V ⟨v, k1, b1, rfl, hT, hk1, ht, ha⟩
  have hv := ha.mostB
  have HA0 := Lib.hid (ha.weak.map (· == 1))
  have HHV := Lib.hid (ht.bk HH.out (fun e => by omega))
  have hsv := ht.bk HS.out (fun e => by omega)
  have HSV := Lib.hid hsv
  have HRV := Lib.hid (ht.rd (HR.out.below (HB.out.mono (by omega))) (by have := HSZ.out; omega) (fun k hk e => by omega))
  have HWV := Lib.hid ((Turn.ofBelow (G := fun i => i = g) (show Below w.heap.size w U by rw [hh2]; exact HB.out)).trans ht)
  have HT := Lib.hid hT
  have c0 := hsv.readT (Below.refl _ _) 0 rfl
  have cf0 := hsv.frozen 0
  have hvs := hsv.lt
  clear hT ht ha hsv HB
  dsimp only
  rcases (show v = 0 ∨ v = 1 by omega) with rfl | rfl
  · have ev : (((0 : Nat) : Int) == 1) = false := rfl
    go_upto_region 3 with (fail)
    obtain ⟨Z, hZ⟩ : ∃ Z, Z = V.setCell ⟨h2 + 1, 0, none⟩ (.bool false) := ⟨_, rfl⟩
    try rw [← hZ]
    have htz : Turn (fun i => i = h2 + 1) V Z := by rw [hZ]; exact tkTurn V _ _ _
    have HBZ := Lib.hid (show Bk Z (h2 + 1) 56 [.bool false, .bool false, .int .u32 0, .int .u32 0, .slice none 0 0] by rw [hZ]; exact HSV.out.set_ 0 (.bool false))
    have HTZ := Lib.hid (show Tk Z g A n c k1 b1 from htz.bk HT.out (fun e => by omega))
    have HHZ := Lib.hid (htz.bk HHV.out (fun e => by omega))
    have HRZ := Lib.hid (htz.rd HRV.out (by omega) (fun k hk e => by omega))
    have HTW := Lib.hid (HWV.out.then_ htz (fun k hk e => absurd hk (by omega)))
    have HA1 := Lib.hid (show AfterW ((rest bs k bad).bind rBit) bs k1 b1 false from HA0.out)
    have hzs := htz.size
    clear hZ htz c0 cf0 ev HA0
    have c1 := HBZ.out.readT (Below.refl _ _) 0 rfl
    have HAX := Lib.hid (AfterW.nobody (bs := bs) (k := k1) (bad := b1))
    have hkz := hk1
    repeat (first | go_skip | go_guarded | go_step)
    refine (rAtom_any g A n c k1 b1 bs Z HTZ.out HRZ.out hc hm hkz).mono ?_
    rintro e V3 ⟨p, A', m, c', Lr, k3, b3, rfl, ho3, hm3, hT3, hk3, ht3, ha3⟩
    have HA3 := Lib.hid ha3
    have HT3 := Lib.hid hT3
    have HO3 := Lib.hid ho3
    have hba3 := ht3.bk HBZ.out (fun e => by omega)
    have HBH3 := Lib.hid (ht3.bk HHZ.out (fun e => by omega))
    have HTU3 := Lib.hid (HTW.out.trans ht3)
    have s3 := hba3.readT (Below.refl _ _) 3 rfl
    have s4 := hba3.readT (Below.refl _ _) 4 rfl
    have sf3 := hba3.frozen 3
    have sf4 := hba3.frozen 4
    have HBA3 := Lib.hid hba3
    have haZ := HBZ.out.lt
    clear ha3 hT3 ho3 ht3 hba3
    dsimp only
    go_upto_region 6 with (fail)
    obtain ⟨Z3, hZ3⟩ : ∃ Z3, Z3 = (V3.setCell ⟨h2 + 1, 3, none⟩ (nv p)).setCell ⟨h2 + 1, 4, none⟩ (.slice A' m c') := ⟨_, rfl⟩
    try rw [← hZ3]
    have htz : Turn (fun i => i = h2 + 1) V3 Z3 := by rw [hZ3]; exact (tkTurn V3 _ _ _).trans (tkTurn _ _ _ _)
    have hbz : Bk Z3 (h2 + 1) 56 [.bool false, .bool false, .int .u32 0, nv p, .slice A' m c'] := by rw [hZ3]; exact (HBA3.out.set_ 3 (nv p)).set_ 4 (.slice A' m c')
    have HTZ3 := Lib.hid (htz.bk HT3.out (fun e => by omega))
    have hbh := htz.bk HBH3.out (fun e => by omega)
    have HOZ3 := Lib.hid (htz.own HO3.out (fun k hk e => by have := (World.ownsRow.lt HO3.out k hk).1; omega))
    have HTW3 := Lib.hid (HTU3.out.then_ htz (fun k hk e => absurd hk (by omega)))
    have r0 := hbz.readT (Below.refl _ _) 0 rfl
    have r1 := hbz.readT (Below.refl _ _) 1 rfl
    have r2 := hbz.readT (Below.refl _ _) 2 rfl
    have r3 := hbz.readT (Below.refl _ _) 3 rfl
    have r4 := hbz.readT (Below.refl _ _) 4 rfl
    have g0 := hbh.readT (Below.refl _ _) 0 rfl
    have g1 := hbh.readT (Below.refl _ _) 1 rfl
    have g2 := hbh.readT (Below.refl _ _) 2 rfl
    have g3 := hbh.readT (Below.refl _ _) 3 rfl
    have g4 := hbh.readT (Below.refl _ _) 4 rfl
    have gf0 := hbh.frozen 0
    have gf1 := hbh.frozen 1
    have gf2 := hbh.frozen 2
    have gf3 := hbh.frozen 3
    have gf4 := hbh.frozen 4
    have HBHZ := Lib.hid hbh
    clear hZ3 htz hbz hbh s3 s4 sf3 sf4
    repeat (first | go_skip | go_guarded | go_step)
    refine bodyPost_ret (v := .agg #[.bool false, .bool false, .int .u32 0, nv p, .slice A' m c']) ?_ rfl ⟨(false, (false, 0), (p, Lr)), A', m, c', k3, b3, rfl, ?_, hm3, ?_, hk3, ?_, AfterW.say HA1.out HAX.out HA3.out⟩
    · have hq := ((((HBHZ.out.set_ 0 (.bool false)).set_ 1 (.bool false)).set_ 2 (.int .u32 0)).set_ 3 (nv p)).set_ 4 (.slice A' m c')
      have q0 := hq.readT (Below.refl _ _) 0 rfl
      have q1 := hq.readT (Below.refl _ _) 1 rfl
      have q2 := hq.readT (Below.refl _ _) 2 rfl
      have q3 := hq.readT (Below.refl _ _) 3 rfl
      have q4 := hq.readT (Below.refl _ _) 4 rfl
      simp [results, Try.results61, go_sem, q0, q1, q2, q3, q4]
    · exact ownLower (((((tkTurn Z3 h2 0 _).trans (tkTurn _ h2 1 _)).trans (tkTurn _ h2 2 _)).trans (tkTurn _ h2 3 _)).trans (tkTurn _ h2 4 _) |>.own HOZ3.out (fun k hk e => by have := (World.ownsRow.lt HOZ3.out k hk).1; omega)) (by omega)
    · exact Bk.far (Bk.far (Bk.far (Bk.far (Bk.far HTZ3.out (show g ≠ h2 by omega) _) (show g ≠ h2 by omega) _) (show g ≠ h2 by omega) _) (show g ≠ h2 by omega) _) (show g ≠ h2 by omega) _
    · exact HTW3.out.then_ (((((tkTurn Z3 h2 0 _).trans (tkTurn _ h2 1 _)).trans (tkTurn _ h2 2 _)).trans (tkTurn _ h2 3 _)).trans (tkTurn _ h2 4 _)) (fun k hk e => absurd hk (by omega))
  · have ev : (((1 : Nat) : Int) == 1) = true := rfl
    go_upto_region 3 with (fail)
    obtain ⟨Z, hZ⟩ : ∃ Z, Z = V.setCell ⟨h2 + 1, 0, none⟩ (.bool true) := ⟨_, rfl⟩
    try rw [← hZ]
    have htz : Turn (fun i => i = h2 + 1) V Z := by rw [hZ]; exact tkTurn V _ _ _
    have HBZ := Lib.hid (show Bk Z (h2 + 1) 56 [.bool true, .bool false, .int .u32 0, .int .u32 0, .slice none 0 0] by rw [hZ]; exact HSV.out.set_ 0 (.bool true))
    have HTZ := Lib.hid (show Tk Z g A n c k1 b1 from htz.bk HT.out (fun e => by omega))
    have HHZ := Lib.hid (htz.bk HHV.out (fun e => by omega))
    have HRZ := Lib.hid (htz.rd HRV.out (by omega) (fun k hk e => by omega))
    have HTW := Lib.hid (HWV.out.then_ htz (fun k hk e => absurd hk (by omega)))
    have HA1 := Lib.hid (show AfterW ((rest bs k bad).bind rBit) bs k1 b1 true from HA0.out)
    have hzs := htz.size
    clear hZ htz c0 cf0 ev HA0
    have c1 := HBZ.out.readT (Below.refl _ _) 0 rfl
    repeat (first | go_skip | go_guarded | go_step)
    refine (rTerm_any g A n c k1 b1 bs Z HTZ.out HRZ.out hc hm hk1).mono ?_
    rintro e V2 ⟨x, k2, b2, rfl, hT2, hk2, ht2, ha2⟩
    have HAX := Lib.hid ha2.weak.who
    have hb2 := ht2.bk HBZ.out (fun e => by omega)
    have HHZ := Lib.hid (ht2.bk HHZ.out (fun e => by omega))
    have HRZ := Lib.hid (ht2.rd HRZ.out (by omega) (fun k hk e => by omega))
    have HTW := Lib.hid (HTW.out.trans ht2)
    have HT2 := Lib.hid hT2
    have HB2 := Lib.hid hb2
    have d1 := hb2.readT (Below.refl _ _) 1 rfl
    have d2 := hb2.readT (Below.refl _ _) 2 rfl
    have df1 := hb2.frozen 1
    have df2 := hb2.frozen 2
    have hs2 := ht2.size
    clear hT2 ht2 ha2 hb2 c1 HBZ HTZ
    dsimp only
    go_upto_region 5 with (fail)
    obtain ⟨Z2, hZ2⟩ : ∃ Z2, Z2 = (V2.setCell ⟨h2 + 1, 1, none⟩ (.bool x.1)).setCell ⟨h2 + 1, 2, none⟩ (nv x.2) := ⟨_, rfl⟩
    try rw [← hZ2]
    have htz : Turn (fun i => i = h2 + 1) V2 Z2 := by rw [hZ2]; exact (tkTurn V2 _ _ _).trans (tkTurn _ _ _ _)
    have HBZ := Lib.hid (show Bk Z2 (h2 + 1) 56 [.bool true, .bool x.1, nv x.2, .int .u32 0, .slice none 0 0] by rw [hZ2]; exact (HB2.out.set_ 1 (.bool x.1)).set_ 2 (nv x.2))
    have HTZ := Lib.hid (show Tk Z2 g A n c k2 b2 from htz.bk HT2.out (fun e => by omega))
    have HHZ := Lib.hid (htz.bk HHZ.out (fun e => by omega))
    have HRZ := Lib.hid (htz.rd HRZ.out (by omega) (fun k hk e => by omega))
    have HTW := Lib.hid (HTW.out.then_ htz (fun k hk e => absurd hk (by omega)))
    have hkz := hk2
    have hzs2 := htz.size
    clear hZ2 htz d1 d2 df1 df2 hk2
    repeat (first | go_skip | go_guarded | go_step)
    refine (rAtom_any g A n c k2 b2 bs Z2 HTZ.out HRZ.out hc hm hkz).mono ?_
    rintro e V3 ⟨p, A', m, c', Lr, k3, b3, rfl, ho3, hm3, hT3, hk3, ht3, ha3⟩
    have HA3 := Lib.hid ha3
    have HT3 := Lib.hid hT3
    have HO3 := Lib.hid ho3
    have hba3 := ht3.bk HBZ.out (fun e => by omega)
    have HBH3 := Lib.hid (ht3.bk HHZ.out (fun e => by omega))
    have HTU3 := Lib.hid (HTW.out.trans ht3)
    have s3 := hba3.readT (Below.refl _ _) 3 rfl
    have s4 := hba3.readT (Below.refl _ _) 4 rfl
    have sf3 := hba3.frozen 3
    have sf4 := hba3.frozen 4
    have HBA3 := Lib.hid hba3
    have haZ := HBZ.out.lt
    clear ha3 hT3 ho3 ht3 hba3
    dsimp only
    go_upto_region 6 with (fail)
    obtain ⟨Z3, hZ3⟩ : ∃ Z3, Z3 = (V3.setCell ⟨h2 + 1, 3, none⟩ (nv p)).setCell ⟨h2 + 1, 4, none⟩ (.slice A' m c') := ⟨_, rfl⟩
    try rw [← hZ3]
    have htz : Turn (fun i => i = h2 + 1) V3 Z3 := by rw [hZ3]; exact (tkTurn V3 _ _ _).trans (tkTurn _ _ _ _)
    have hbz : Bk Z3 (h2 + 1) 56 [.bool true, .bool x.1, nv x.2, nv p, .slice A' m c'] := by rw [hZ3]; exact (HBA3.out.set_ 3 (nv p)).set_ 4 (.slice A' m c')
    have HTZ3 := Lib.hid (htz.bk HT3.out (fun e => by omega))
    have hbh := htz.bk HBH3.out (fun e => by omega)
    have HOZ3 := Lib.hid (htz.own HO3.out (fun k hk e => by have := (World.ownsRow.lt HO3.out k hk).1; omega))
    have HTW3 := Lib.hid (HTU3.out.then_ htz (fun k hk e => absurd hk (by omega)))
    have r0 := hbz.readT (Below.refl _ _) 0 rfl
    have r1 := hbz.readT (Below.refl _ _) 1 rfl
    have r2 := hbz.readT (Below.refl _ _) 2 rfl
    have r3 := hbz.readT (Below.refl _ _) 3 rfl
    have r4 := hbz.readT (Below.refl _ _) 4 rfl
    have g0 := hbh.readT (Below.refl _ _) 0 rfl
    have g1 := hbh.readT (Below.refl _ _) 1 rfl
    have g2 := hbh.readT (Below.refl _ _) 2 rfl
    have g3 := hbh.readT (Below.refl _ _) 3 rfl
    have g4 := hbh.readT (Below.refl _ _) 4 rfl
    have gf0 := hbh.frozen 0
    have gf1 := hbh.frozen 1
    have gf2 := hbh.frozen 2
    have gf3 := hbh.frozen 3
    have gf4 := hbh.frozen 4
    have HBHZ := Lib.hid hbh
    clear hZ3 htz hbz hbh s3 s4 sf3 sf4
    repeat (first | go_skip | go_guarded | go_step)
    refine bodyPost_ret (v := .agg #[.bool true, .bool x.1, nv x.2, nv p, .slice A' m c']) ?_ rfl ⟨(true, x, (p, Lr)), A', m, c', k3, b3, rfl, ?_, hm3, ?_, hk3, ?_, AfterW.say HA1.out HAX.out HA3.out⟩
    · have hq := ((((HBHZ.out.set_ 0 (.bool true)).set_ 1 (.bool x.1)).set_ 2 (nv x.2)).set_ 3 (nv p)).set_ 4 (.slice A' m c')
      have q0 := hq.readT (Below.refl _ _) 0 rfl
      have q1 := hq.readT (Below.refl _ _) 1 rfl
      have q2 := hq.readT (Below.refl _ _) 2 rfl
      have q3 := hq.readT (Below.refl _ _) 3 rfl
      have q4 := hq.readT (Below.refl _ _) 4 rfl
      simp [results, Try.results61, go_sem, q0, q1, q2, q3, q4]
    · exact ownLower (((((tkTurn Z3 h2 0 _).trans (tkTurn _ h2 1 _)).trans (tkTurn _ h2 2 _)).trans (tkTurn _ h2 3 _)).trans (tkTurn _ h2 4 _) |>.own HOZ3.out (fun k hk e => by have := (World.ownsRow.lt HOZ3.out k hk).1; omega)) (by omega)
    · exact Bk.far (Bk.far (Bk.far (Bk.far (Bk.far HTZ3.out (show g ≠ h2 by omega) _) (show g ≠ h2 by omega) _) (show g ≠ h2 by omega) _) (show g ≠ h2 by omega) _) (show g ≠ h2 by omega) _
    · exact HTW3.out.then_ (((((tkTurn Z3 h2 0 _).trans (tkTurn _ h2 1 _)).trans (tkTurn _ h2 2 _)).trans (tkTurn _ h2 3 _)).trans (tkTurn _ h2 4 _)) (fun k hk e => absurd hk (by omega))
end Go.Proofs.Ytcoafgnbmgndeaa
