/- Layer 6 (wire), the document's TakeClause. -/
import Derived.Test.YtcoafgnbmgndeaaWrL
set_option linter.unusedVariables false
set_option linter.unusedSimpArgs false
namespace Go.Proofs.Ytcoafgnbmgndeaa
open Go Go.RowKit
theorem World.ownsRow.len1T {w : World} {base : Nat} {A : Option Addr} {c n : Nat} {l : List Tm} (h : OwT w base A c n l) : l.length = n := rdT_len (OwT.rd h)

set_option maxRecDepth 100000 in
set_option maxHeartbeats 8000000 in
theorem rTakeClause_any (A : Option Addr) (n c : Nat) (t : Int) (bs : List UInt8) (w : World) (hr : Rd w w.heap.size 1 A n (bs.map bv)) (hc : n ≤ c) (hm : n ≤ 140737488355328) :
    Calls Try.prog 23 #[.slice A n c, .int .i64 t] w fun e w' => ∃ (p : UInt32) (A1 : Option Addr) (m1 c1 : Nat) (L1 : List Tm) (A2 : Option Addr) (m2 c2 : Nat) (R2 : List SlA) (L2 : List Li) (y z : Nat), e = .returned (.tuple #[.agg #[nv p, .slice A1 m1 c1, .slice A2 m2 c2], .int .i64 (y : Int), .int .i64 (z : Int)]) ∧ RdT w' w'.heap.size A1 m1 L1 ∧ RdL w' w'.heap.size A2 m2 R2 L2 ∧ m1 ≤ 6 ∧ m2 ≤ 8 ∧ (∀ x ∈ L2, x.2.2.length ≤ 6) ∧ Below w.heap.size w w' ∧ (((p, L1), L2), y, z) = takeAns rClause zC bs t := by
  have hl : bs.length = n := by simpa using hr.len1
  obtain ⟨U, hU, hH, hbU, hsz⟩ : ∃ U, U = w.alloc (.cells #[.int .u32 0, .slice none 0 0, .slice none 0 0] 45) ∧ Bk U w.heap.size 45 [.int .u32 0, .slice none 0 0, .slice none 0 0] ∧ Below w.heap.size w U ∧ U.heap.size = w.heap.size + 1 :=
    ⟨_, rfl, Bk.new w _ _, (Below.refl _ _).alloc (Nat.le_refl _) _, by simp⟩
  have HU := Lib.hid hU
  have HH := Lib.hid hH
  have HB := Lib.hid hbU
  have HSZ := Lib.hid hsz
  have HL := Lib.hid hl
  have HR := Lib.hid (hr.below hbU)
  have g0 := hH.readT (Below.refl _ _) 0 rfl
  have gf0 := hH.frozen 0
  have g1 := hH.readT (Below.refl _ _) 1 rfl
  have gf1 := hH.frozen 1
  have g2 := hH.readT (Below.refl _ _) 2 rfl
  have gf2 := hH.frozen 2
  clear hU hH hbU hsz hr hl
  go_enter Try.func23, Try.ntmps23
  go_upto_region 1 with (fail)
  rw [← HU.out]
  clear HU
  generalize hh2 : w.heap.size = h2 at HH HR HB HSZ g0 gf0 g1 gf1 g2 gf2 ⊢
  rw [← hh2] at HB
  by_cases ht0 : t < 0
  · have d0 : decide (t < 0) = true := by simp; omega
    repeat (first | go_skip | go_guarded | go_step)
    refine bodyPost_ret (v := .tuple #[.agg #[.int .u32 0, .slice none 0 0, .slice none 0 0], .int .i64 0, .int .i64 1]) ?_ rfl ⟨0, none, 0, 0, [], none, 0, 0, [], [], 0, 1, rfl, Rd.nil, RdL.nil _ _, by omega, by omega, (by simp), ?_, (takeAns_off _ _ _ _ (by have := HL.out; omega)).symm⟩
    · have hq := (((HH.out.set_ 0 (.int .u32 0)).set_ 1 (.slice none 0 0)).set_ 2 (.slice none 0 0))
      have q0 := hq.readT (Below.refl _ _) 0 rfl
      have q1 := hq.readT (Below.refl _ _) 1 rfl
      have q2 := hq.readT (Below.refl _ _) 2 rfl
      simp [results, Try.results23, go_sem, q0, q1, q2]
    · exact (Below.setCell (Below.setCell (Below.setCell HB.out (p := ⟨h2, 0, none⟩) (by show w.heap.size ≤ h2; omega) _) (p := ⟨h2, 1, none⟩) (by show w.heap.size ≤ h2; omega) _) (p := ⟨h2, 2, none⟩) (by show w.heap.size ≤ h2; omega) _)
  · have d0 : decide (t < 0) = false := by simp; omega
    by_cases ht1 : (n : Int) < t
    · have d1 : decide ((n : Int) < t) = true := by simp; omega
      repeat (first | go_skip | go_guarded | go_step)
      refine bodyPost_ret (v := .tuple #[.agg #[.int .u32 0, .slice none 0 0, .slice none 0 0], .int .i64 0, .int .i64 1]) ?_ rfl ⟨0, none, 0, 0, [], none, 0, 0, [], [], 0, 1, rfl, Rd.nil, RdL.nil _ _, by omega, by omega, (by simp), ?_, (takeAns_off _ _ _ _ (by have := HL.out; omega)).symm⟩
      · have hq := (((HH.out.set_ 0 (.int .u32 0)).set_ 1 (.slice none 0 0)).set_ 2 (.slice none 0 0))
        have q0 := hq.readT (Below.refl _ _) 0 rfl
        have q1 := hq.readT (Below.refl _ _) 1 rfl
        have q2 := hq.readT (Below.refl _ _) 2 rfl
        simp [results, Try.results23, go_sem, q0, q1, q2]
      · exact (Below.setCell (Below.setCell (Below.setCell HB.out (p := ⟨h2, 0, none⟩) (by show w.heap.size ≤ h2; omega) _) (p := ⟨h2, 1, none⟩) (by show w.heap.size ≤ h2; omega) _) (p := ⟨h2, 2, none⟩) (by show w.heap.size ≤ h2; omega) _)
    · obtain ⟨k, rfl⟩ := Int.eq_ofNat_of_zero_le (show 0 ≤ t by omega)
      have d1 : decide ((n : Int) < (k : Int)) = false := by simp; omega
      have d2 : decide (n < k) = false := by simp; omega
      have hk : k ≤ n := by omega
      clear ht0 ht1 g0 gf0 g1 gf1 g2 gf2
      repeat (first | go_skip | go_guarded | go_step)
      obtain ⟨W0, hW0, hT, hWb⟩ : ∃ W0, W0 = U.alloc (.cells #[.slice A n c, .int .i64 (k : Int), .bool false] 82) ∧ Tk W0 U.heap.size A n c k false ∧ Below U.heap.size U W0 := ⟨_, rfl, Bk.new U _ _, (Below.refl _ _).alloc (Nat.le_refl _) _⟩
      rw [← hW0]
      have HT := Lib.hid hT
      have HH := Lib.hid (HH.out.later hWb)
      have hgh : h2 < U.heap.size := by have := HSZ.out; omega
      have HR := Lib.hid ((HR.out.below (hWb.mono (Nat.le_of_lt hgh))).more (Nat.le_of_lt hgh))
      have HBW := Lib.hid (HB.out.trans (hWb.mono HB.out.size))
      have HGW := Lib.hid (show U.heap.size < W0.heap.size from Bk.lt hT)
      clear hW0 hT hWb HB HSZ
      generalize U.heap.size = g at HT HR HGW hgh ⊢
      refine (rAtom_any g A n c k false bs W0 HT.out HR.out hc hm hk).mono ?_
      rintro e V ⟨p, A1, m1, c1, L1, k1, b1, rfl, ho1, hm1, hT, hk1, ht, ha⟩
      have HA1 := Lib.hid ha
      have HO1 := Lib.hid ho1
      have HH := Lib.hid (ht.bk HH.out (fun e => by omega))
      have HR := Lib.hid (ht.rd HR.out (by have := HGW.out; omega) (fun k hk e => by omega))
      have HBV := Lib.hid (HBW.out.trans (ht.below (B := w.heap.size) (fun k _ e => by omega) HBW.out.size))
      have HT := Lib.hid hT
      have HGV := Lib.hid (show g < V.heap.size from Bk.lt hT)
      have hl1 : L1.length = m1 := by have := World.ownsRow.len1T ho1; exact this
      have HL1 := Lib.hid hl1
      clear hT ht ha ho1 HBW hl1
      dsimp only
      go_upto_region 5 with (fail)
      obtain ⟨Z, hZ, hZa, hZw⟩ : ∃ Z, Z = V.alloc (.cells #[nv p, .slice A1 m1 c1, .slice none 0 0] 45) ∧ Bk Z V.heap.size 45 [nv p, .slice A1 m1 c1, .slice none 0 0] ∧ Below V.heap.size V Z := ⟨_, rfl, Bk.new V _ _, (Below.refl _ _).alloc (Nat.le_refl _) _⟩
      rw [← hZ]
      clear hZ
      have HZA := Lib.hid hZa
      have HT := Lib.hid (Bk.later HT.out hZw)
      have HH := Lib.hid (HH.out.later hZw)
      have HR := Lib.hid (HR.out.below (hZw.mono (Nat.le_of_lt HGV.out)))
      have HBZ := Lib.hid (HBV.out.trans (hZw.mono HBV.out.size))
      have HAZ := Lib.hid hZa.lt
      have HOZ := Lib.hid (ownBelow HO1.out hZw (Nat.le_refl _))
      have HOA := Lib.hid (fun k hk => World.ownsRow.lt HO1.out k hk)
      clear hZa hZw HBV HO1
      generalize V.heap.size = a at HZA HGV HAZ HOA ⊢
      repeat (first | go_skip | go_guarded | go_step)
      refine (rOctet_any g A n c k1 8 b1 bs Z HT.out HR.out hc hm hk1).mono ?_
      rintro e Y ⟨N, k2, b2, rfl, hT, hk2, ht, ha⟩
      have hN := ha.mostB
      have HA2 := Lib.hid ha.weak
      have HZA := Lib.hid (ht.bk HZA.out (fun e => by have := HGV.out; omega))
      have HH := Lib.hid (ht.bk HH.out (fun e => by omega))
      have HR := Lib.hid (ht.rd HR.out (by have := HGV.out; have := HAZ.out; omega) (fun k hk e => by omega))
      have HBY := Lib.hid (HBZ.out.trans (ht.below (B := w.heap.size) (fun k _ e => by omega) HBZ.out.size))
      have HT := Lib.hid hT
      have HYS := Lib.hid (show a < Y.heap.size from HZA.out.lt)
      have HOY := Lib.hid (ht.own HOZ.out (fun k hk e => by have := (HOA.out k hk).1; have := HGW.out; omega))
      clear hT ht ha HBZ HAZ HOZ
      dsimp only
      repeat (first | go_skip | go_guarded | go_step)
      go_loopw [10] (fun p' wr => ∃ (i : Nat) (A2 : Option Addr) (c2 : Nat) (R2 : List SlA) (L2 : List Li) (k3 : Nat) (b3 : Bool), i ≤ N ∧ p' = .int .i64 (i : Int) ∧ Bk wr a 45 [nv p, .slice A1 m1 c1, .slice A2 i c2] ∧ OwL wr Y.heap.size A2 c2 i R2 L2 ∧ (∀ x ∈ L2, x.2.2.length ≤ 6) ∧ Tk wr g A n c k3 b3 ∧ k3 ≤ n ∧ Bk wr h2 45 [.int .u32 0, .slice none 0 0, .slice none 0 0] ∧ Turn (fun i => i = g ∨ i = a) Y wr ∧ AfterW ((rest bs k2 b2).bind (rMany rLit i)) bs k3 b3 L2) (fun p _ => N - (intOf p).toNat)
      case atStart => exact ⟨0, none, 0, [], [], k2, b2, Nat.zero_le _, rfl, HZA.out, OwG.nil _ _, by simp, HT.out, hk2, HH.out, Turn.refl _ _, AfterW.none0 rfl⟩
      case round =>
        obtain ⟨i, A2, c2, R2, L2, k3, b3, hi, rfl, hba, ho, hsm, hT3, hk3, hbh, htu, haf⟩ := hrel
        have hys := htu.size
        have HBA := Lib.hid hba
        have HO := Lib.hid ho
        have HSM := Lib.hid hsm
        have HT3 := Lib.hid hT3
        have HBH := Lib.hid hbh
        have HTU := Lib.hid htu
        have HAF := Lib.hid haf
        by_cases hlt : i < N
        · have hci : (i : Int) < (N : Int) := by omega
          have hR3 := htu.rd HR.out (by have := HGV.out; have := HYS.out; omega) (fun k hk e => by have := HGV.out; omega)
          have HR3 := Lib.hid hR3
          clear hba ho hsm hT3 hbh htu haf hR3
          repeat (first | go_skip | go_guarded | go_step)
          refine (rOctet_any g A n c k3 1 b3 bs wr HT3.out HR3.out hc hm hk3).mono ?_
          rintro e V1 ⟨v, k4, b4, rfl, hT4, hk4, ht4, ha4⟩
          have hv := ha4.mostB
          obtain ⟨g0, hg0⟩ : ∃ g0, g0 = (v == 1) := ⟨_, rfl⟩
          have hgi : ((v : Int) == 1) = g0 := by
            rw [hg0, Bool.eq_iff_iff, beq_iff_eq, beq_iff_eq]
            omega
          have HA4 := Lib.hid (show AfterW ((rest bs k3 b3).bind rBit) bs k4 b4 g0 by rw [hg0]; exact ha4.weak.map (· == 1))
          have HT4 := Lib.hid hT4
          have hga := HGV.out
          have hay := HYS.out
          have HR4 := Lib.hid (ht4.rd HR3.out (by omega) (fun k hk e => by omega))
          have HBA4 := Lib.hid (ht4.bk HBA.out (fun e => by omega))
          have HBH4 := Lib.hid (ht4.bk HBH.out (fun e => by omega))
          have HO4 := Lib.hid (HO.out.turn ht4 (fun k hk e => by omega))
          have HTU4 := Lib.hid (HTU.out.then_ ht4 (fun k _ h => Or.inl h))
          have hs4 := ht4.size
          clear hT4 ht4 ha4 hg0 hv
          dsimp only
          repeat (first | go_skip | go_guarded | go_step)
          refine (rAtom_any g A n c k4 b4 bs V1 HT4.out HR4.out hc hm hk4).mono ?_
          rintro e V2 ⟨q, Ai, ni, ci, l2, k5, b5, rfl, ho5, hm5, hT5, hk5, ht5, ha5⟩
          have HA5 := Lib.hid ha5
          have HO5 := Lib.hid ho5
          have HT5 := Lib.hid hT5
          have HBA5 := Lib.hid (ht5.bk HBA4.out (fun e => by omega))
          have HBH5 := Lib.hid (ht5.bk HBH4.out (fun e => by omega))
          have HOL5 := Lib.hid (HO4.out.turn ht5 (fun k hk e => by omega))
          have HTU5 := Lib.hid (HTU4.out.then_ ht5 (fun k _ h => Or.inl h))
          have hs5 := ht5.size
          have hfar : ∀ k, (Value.slice A2 i c2).ownBlock = some k → k < V1.heap.size := fun k hk => (World.ownsRow.lt HO4.out.top k hk).2
          have HFAR := Lib.hid hfar
          have hni : l2.length = ni := World.ownsRow.len1T ho5
          have HNI := Lib.hid hni
          clear hT5 ht5 ha5 ho5 hfar hni
          dsimp only
          go_upto_region 11 with (fail)
          obtain ⟨Z7, hZ7, hX, hZw⟩ : ∃ Z7, Z7 = V2.alloc (.cells #[nv q, .slice Ai ni ci] 42) ∧ Bk Z7 V2.heap.size 42 [nv q, .slice Ai ni ci] ∧ Below V2.heap.size V2 Z7 := ⟨_, rfl, Bk.new V2 _ _, (Below.refl _ _).alloc (Nat.le_refl _) _⟩
          rw [← hZ7]
          clear hZ7
          have hs7 := hZw.size
          have HBA7 := Lib.hid (HBA5.out.later hZw)
          have HBH7 := Lib.hid (HBH5.out.later hZw)
          have HT7 := Lib.hid (Bk.later HT5.out hZw)
          have HO7 := Lib.hid (HOL5.out.later hZw)
          have HI7 := Lib.hid (ownBelow HO5.out hZw (Nat.le_refl _))
          have HTU7 := Lib.hid (HTU5.out.then_ (Turn.ofBelow (G := fun _ => False) hZw) (fun _ _ h => h.elim))
          have hy7 : Y.heap.size ≤ Z7.heap.size := by omega
          have x0 := hX.cell 0
          have x1 := hX.cell 1
          have r1 := HBA7.out.cell 2
          have hl7 := run_litL1 g0 q Ai ni ci Z7
          obtain ⟨Z8, hZ8, hrd8, hZw8⟩ : ∃ Z8, Z8 = Z7.alloc (.cells #[.bool g0, nv q, .slice Ai ni ci] 71) ∧ Rd Z8 (Z7.heap.size + 1) 3 (some ⟨Z7.heap.size, 0, none⟩) 1 (liC (((g0, (q, l2)) : Li), (Ai, ni, ci))) ∧ Below Z7.heap.size Z7 Z8 := ⟨_, rfl, bk_rdS (Bk.new Z7 _ _) _ rfl, (Below.refl _ _).alloc (Nat.le_refl _) _⟩
          have HRD8 := Lib.hid hrd8
          have HZ8 := Lib.hid hZ8
          have HBA8 := Lib.hid (HBA7.out.later hZw8)
          have HBH8 := Lib.hid (HBH7.out.later hZw8)
          have HT8 := Lib.hid (Bk.later HT7.out hZw8)
          have HO8 := Lib.hid (HO7.out.later hZw8)
          have HI8 := Lib.hid (ownLower (ownBelow HI7.out hZw8 (Nat.le_refl _)) (show Y.heap.size ≤ V1.heap.size by omega))
          have HIF := Lib.hid (fun k (hk : (Value.slice Ai ni ci).ownBlock = some k) => (World.ownsRow.lt HO5.out k hk).1)
          have HTU8 := Lib.hid (HTU7.out.then_ (Turn.ofBelow (G := fun _ => False) hZw8) (fun _ _ h => h.elim))
          have hy8 : Y.heap.size ≤ Z8.heap.size := by have := hZw8.size; omega
          have r8 := HBA8.out.cell 2
          clear hX hZw hs7 hrd8 hZ8 hZw8
          generalize V2.heap.size = tt at x0 x1 ⊢
          repeat (first
            | (at_builtin; (try rw [← HZ8.out]); refine appL _ rfl (.tmp 44) (.tmp 48) rfl Y.heap.size A2 c2 i R2 L2 rfl HO8.out _ _ _ ((g0, (q, l2)) : Li) (Ai, ni, ci) rfl HRD8.out (by omega) hy8 HI8.out V1.heap.size HFAR.out HIF.out ?_
               intro A6 c6 V6 ho6 hb6
               have hb6a := Bk.below HBA8.out hb6 (by omega)
               have rc1 := hb6a.readT (Below.refl _ _) 2 rfl
               have rf1 := hb6a.frozen 2
               have HB6 := Lib.hid hb6a
               have HO6 := Lib.hid ho6
               have HB7 := Lib.hid hb6
               clear hl7 x0 x1 r1 r8 hb6 hb6a ho6)
            | go_skip | go_guarded | go_step)
          go_roundw
          case rel => exact ⟨i + 1, A6, c6, R2 ++ [(Ai, ni, ci)], L2 ++ [((g0, (q, l2)) : Li)], k5, b5, by omega, by go_num, HB6.out.set_ 2 (.slice A6 (i + 1) c6), HO6.out.turn (tkTurn V6 a 2 _) (fun k hk e => by omega), (by intro y hy; rcases List.mem_append.1 hy with hy | hy; exact HSM.out y hy; obtain rfl := List.mem_singleton.1 hy; show l2.length ≤ 6; rw [HNI.out]; exact hm5), Bk.far (Bk.below HT8.out HB7.out (by omega)) (show g ≠ a by omega) _, hk5, Bk.far (Bk.below HBH8.out HB7.out (by omega)) (show h2 ≠ a by omega) _, (HTU8.out.then_ (Turn.ofBelowB (G := fun k => Y.heap.size ≤ k) HB7.out (fun k h _ => h)) (fun k hk h => absurd hk (by omega))).then_ (tkTurn V6 a 2 _) (fun k _ h => Or.inr h), AfterW.snoc HAF.out (AfterW.seq (p := rBit) (q := rAtom) HA4.out HA5.out)⟩
          case measure => simp [intOf] <;> omega
        · obtain rfl : i = N := by omega
          have hga := HGV.out
          have hay := HYS.out
          have r0 := hba.readT (Below.refl _ _) 0 rfl
          have r1 := hba.readT (Below.refl _ _) 1 rfl
          have r2 := hba.readT (Below.refl _ _) 2 rfl
          have hans := AfterW.ansIf (p := rClause0) zC mayC (show k ≤ bs.length by have := HL.out; omega) (show k3 ≤ bs.length by have := HL.out; omega) (AfterW.seq (p := rAtom) HA1.out (AfterW.row HA2.out haf))
          have HANS := Lib.hid hans
          have HBR := Lib.hid (HBY.out.trans (htu.below (B := w.heap.size) (fun k _ e => by omega) HBY.out.size))
          have HOH := Lib.hid (htu.own HOY.out (fun k hk e => by have := (HOA.out k hk); have := HGW.out; omega))
          clear hba ho hsm hT3 hbh htu haf hans
          repeat (first | go_skip | go_guarded | go_step)
          refine (rAMay_any p A1 m1 c1 L1 A2 i c2 R2 L2 wr (OwT.rd HOH.out) (OwL.rd HO.out) (by omega) (by omega) (fun x hx => Nat.le_trans (HSM.out x hx) (by omega))).mono ?_
          rintro e w4 ⟨rfl, hb4⟩
          have HB4 := Lib.hid hb4
          have HBA4 := Lib.hid (HBA.out.later hb4)
          have hbh4 := HBH.out.later hb4
          have HBH4 := Lib.hid hbh4
          have HO4 := Lib.hid (HO.out.later hb4)
          have HOH4 := Lib.hid (ownBelow HOH.out hb4 (Nat.le_refl _))
          have HT4 := Lib.hid (Bk.later HT3.out hb4)
          have hs4 := hb4.size
          have y0 := HBA4.out.readT (Below.refl _ _) 0 rfl
          have g0 := hbh4.readT (Below.refl _ _) 0 rfl
          have gf0 := hbh4.frozen 0
          have y1 := HBA4.out.readT (Below.refl _ _) 1 rfl
          have g1 := hbh4.readT (Below.refl _ _) 1 rfl
          have gf1 := hbh4.frozen 1
          have y2 := HBA4.out.readT (Below.refl _ _) 2 rfl
          have g2 := hbh4.readT (Below.refl _ _) 2 rfl
          have gf2 := hbh4.frozen 2
          have HBR4 := Lib.hid (HBR.out.trans (hb4.mono HBR.out.size))
          clear hb4 hbh4 r0 r1 r2
          generalize hmv : (mayC ((p, L1), L2)) = mv at HANS ⊢
          clear hmv
          dsimp only
          repeat (first | go_skip | go_guarded | go_step)
          refine (rOver_any g A n c k3 b3 mv w4 HT4.out).mono ?_
          rintro e w5 ⟨rfl, rfl⟩
          by_cases hbm : (b3 || !mv) = true
          · rw [if_pos hbm] at HANS ⊢
            dsimp only
            repeat (first | go_skip | go_guarded | go_step)
            refine bodyPost_ret (v := .tuple #[.agg #[.int .u32 0, .slice none 0 0, .slice none 0 0], .int .i64 0, .int .i64 5]) ?_ rfl ⟨0, none, 0, 0, [], none, 0, 0, [], [], 0, 5, rfl, Rd.nil, RdL.nil _ _, by omega, by omega, (by simp), ?_, HANS.out.symm⟩
            · have hq := (((HBH4.out.set_ 0 (.int .u32 0)).set_ 1 (.slice none 0 0)).set_ 2 (.slice none 0 0))
              have q0 := hq.readT (Below.refl _ _) 0 rfl
              have q1 := hq.readT (Below.refl _ _) 1 rfl
              have q2 := hq.readT (Below.refl _ _) 2 rfl
              simp [results, Try.results23, go_sem, q0, q1, q2]
            · exact (Below.setCell (Below.setCell (Below.setCell HBR4.out (p := ⟨h2, 0, none⟩) (by show w.heap.size ≤ h2; omega) _) (p := ⟨h2, 1, none⟩) (by show w.heap.size ≤ h2; omega) _) (p := ⟨h2, 2, none⟩) (by show w.heap.size ≤ h2; omega) _)
          · rw [if_neg hbm] at HANS ⊢
            dsimp only
            repeat (first | go_skip | go_guarded | go_step)
            refine bodyPost_ret (v := .tuple #[.agg #[nv p, .slice A1 m1 c1, .slice A2 i c2], .int .i64 (k3 : Int), .int .i64 0]) ?_ rfl ⟨p, A1, m1, c1, L1, A2, i, c2, R2, L2, k3, 0, rfl, ?_, ?_, hm1, hN, HSM.out, ?_, HANS.out.symm⟩
            · have hq := (((HBH4.out.set_ 0 (nv p)).set_ 1 (.slice A1 m1 c1)).set_ 2 (.slice A2 i c2))
              have q0 := hq.readT (Below.refl _ _) 0 rfl
              have q1 := hq.readT (Below.refl _ _) 1 rfl
              have q2 := hq.readT (Below.refl _ _) 2 rfl
              simp [results, Try.results23, go_sem, q0, q1, q2]
            · exact OwT.rd ((((tkTurn w4 h2 0 _).trans (tkTurn _ h2 1 _)).trans (tkTurn _ h2 2 _)).own HOH4.out (fun k hk e => by have := (World.ownsRow.lt HOH4.out k hk).1; have := HGW.out; omega))
            · exact OwL.rd (HO4.out.turn (((tkTurn w4 h2 0 _).trans (tkTurn _ h2 1 _)).trans (tkTurn _ h2 2 _)) (fun k hk e => by omega))
            · exact (Below.setCell (Below.setCell (Below.setCell HBR4.out (p := ⟨h2, 0, none⟩) (by show w.heap.size ≤ h2; omega) _) (p := ⟨h2, 1, none⟩) (by show w.heap.size ≤ h2; omega) _) (p := ⟨h2, 2, none⟩) (by show w.heap.size ≤ h2; omega) _)
end Go.Proofs.Ytcoafgnbmgndeaa
