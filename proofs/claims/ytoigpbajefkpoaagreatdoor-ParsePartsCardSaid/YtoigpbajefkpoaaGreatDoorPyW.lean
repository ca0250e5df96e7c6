/- Texts, packed: PdQ -/
import Derived.Test.YtoigpbajefkpoaaGreatDoorPyI
import Derived.Test.YtoigpbajefkpoaaGreatDoorPyV
set_option linter.unusedVariables false
set_option linter.unusedSimpArgs false
namespace Go.Proofs.YtoigpbajefkpoaaGreatDoor.parseParts
open Go Go.RowKit

set_option maxRecDepth 100000 in
set_option maxHeartbeats 16000000 in
theorem walk {P : World → Prop} (ok : ParsesOk P) (A : Option Addr) (n c : Nat) (l : List ByteArray) (a b : ByteArray) (w : World) (hP : P w) (hr : Rd w w.heap.size 1 A n (l.map sv)) (ha : a.size ≤ 140737488355328) (hb : b.size ≤ 140737488355328) :
  Calls Tryz.prog 8 #[.slice A n c, sv a, sv b] w fun e w' => e = .returned (.bool true) ∧ Below w.heap.size w w' := by
 have HPW := Lib.hid hP
 have HR := Lib.hid hr
 clear hP hr
 have hrefuse : ∀ W, Below w.heap.size w W → Calls Tryz.prog 9 #[] W fun e w' => e = .returned (.bool true) ∧ Below w.heap.size w w' := fun W hW => (pWorks_any ok W (ok.later _ _ HPW.out hW)).mono fun e w' h => ⟨h.1, hW.trans (h.2.mono hW.size)⟩
 have HRF := Lib.hid hrefuse
 clear hrefuse
 by_cases hbig : 2048 < a.size + b.size
 ·
  have hd : decide ((2048 : Int) < (a.size : Int) + (b.size : Int)) = true := by simp; omega
  go_enter Tryz.func8, Tryz.ntmps8
  repeat (first | go_skip | go_guarded | go_step)
  refine (HRF.out w (Below.refl _ _)).mono ?_
  rintro e w1 ⟨rfl, hb⟩
  dsimp only
  repeat (first | go_skip | go_guarded | go_step)
  go_ret
  exact ⟨rfl, hb⟩
 ·
  have hd : decide ((2048 : Int) < (a.size : Int) + (b.size : Int)) = false := by simp; omega
  by_cases hn40 : 40 < n
  ·
   have hd2 : decide ((40 : Int) < (n : Int)) = true := by simp; omega
   go_enter Tryz.func8, Tryz.ntmps8
   repeat (first | go_skip | go_guarded | go_step)
   refine (HRF.out w (Below.refl _ _)).mono ?_
   rintro e w1 ⟨rfl, hb⟩
   dsimp only
   repeat (first | go_skip | go_guarded | go_step)
   go_ret
   exact ⟨rfl, hb⟩
  ·
   have hd2 : decide ((40 : Int) < (n : Int)) = false := by simp; omega
   go_enter Tryz.func8, Tryz.ntmps8
   repeat (first | go_skip | go_guarded | go_step)
   refine (table_any A n c l w HR.out).mono ?_
   rintro e w1 ⟨hb1, ht1⟩
   have HB1 := Lib.hid hb1
   have HT1 := Lib.hid ht1
   clear hb1
   rcases ht1 with ⟨htb, g1, F1, rfl, hta, hga, hsa, hfa⟩ | ⟨htb, rfl⟩
   ·
    clear HT1
    have HTB := Lib.hid htb
    have HTA := Lib.hid hta
    have HGA := Lib.hid hga
    have HFA := Lib.hid hfa
    clear htb hta hga hsa hfa
    dsimp only
    repeat (first | go_skip | go_guarded | go_step)
    refine (table_any A n c l w1 ((HR.out.below HB1.out).more HB1.out.size)).mono ?_
    rintro e w2 ⟨hb2, ht2⟩
    obtain ⟨g2, F2, rfl, htb2, hfb2⟩ : ∃ g F, e = .returned (.tuple #[.pointer (some ⟨g, 0, none⟩), .bool true]) ∧ Tb w2 g F l ∧ ∀ k, F k → w1.heap.size ≤ k := by
     rcases ht2 with ⟨_, g, F, h1, h2, _, _, h3⟩ | ⟨h0, _⟩
     ·
      exact ⟨g, F, h1, h2, h3⟩
     ·
      rw [HTB.out] at h0; cases h0
    have HTA2 := Lib.hid (HTA.out.later hb2)
    have HFA2 := Lib.hid (show ∀ k, F1 k → w.heap.size ≤ k ∧ k < w1.heap.size from fun k hk => ⟨HFA.out k hk, HTA.out.lt k hk⟩)
    have HTU := Lib.hid htb2
    have HFU := Lib.hid (show ∀ k, F2 k → w1.heap.size ≤ k ∧ k < w2.heap.size from fun k hk => ⟨hfb2 k hk, htb2.lt k hk⟩)
    have HS2 := Lib.hid hb2.size
    have HB2 := Lib.hid (HB1.out.trans (hb2.mono HB1.out.size))
    clear hb2 ht2 htb2 hfb2
    dsimp only
    repeat (first | go_skip | go_guarded | go_step)
    refine (ok.parse g1 F1 l a w2 (ok.later _ _ HPW.out HB2.out) HTA2.out (HGA.out.mono (by omega)) (by omega)).mono ?_
    rintro e w3 ⟨A1, n1, c1, Q1, rs1, ns1, y1, z1, F3, rfl, hnc1, hn1, hrd1, ht3, hT3, hF3, hpa1⟩
    have HRD1 := Lib.hid hrd1
    have HT3 := Lib.hid ht3
    have HTT3 := Lib.hid hT3
    have HF3 := Lib.hid hF3
    have HPA1 := Lib.hid hpa1
    have HTU3 := Lib.hid (HTU.out.turn hT3 fun k hk hf => by have h1 := HFU.out k hk; have h2 := HFA2.out k hf; omega)
    have HB3 := Lib.hid (HB2.out.trans (hT3.below (fun k _ h => (HFA2.out k h).1) HB2.out.size))
    have HFI1 := Lib.hid (parseL_fine (HGA.out.mono (m := 4096) (by omega)) hpa1)
    clear hrd1 ht3 hT3 hF3 hpa1
    dsimp only
    repeat (first | go_skip | go_guarded | go_step)
    refine (ok.parse g1 F3 ns1 b w3 (ok.later _ _ HPW.out HB3.out) HT3.out HFI1.out.1 (by omega)).mono ?_
    rintro e w4 ⟨A2, n2, c2, Q2, rs2, ns2, y2, z2, F4, rfl, hnc2, hn2, hrd2, ht4, hT4, hF4, hpa2⟩
    have HRD2 := Lib.hid hrd2
    have HT4 := Lib.hid ht4
    have HTT4 := Lib.hid hT4
    have HF4 := Lib.hid hF4
    have HPA2 := Lib.hid hpa2
    have HTU4 := Lib.hid (HTU3.out.turn hT4 fun k hk hf => by
     have h1 := HFU.out k hk
     rcases HF3.out k hf with h | h
     ·
      have h2 := HFA2.out k h; omega
     ·
      omega)
    have HB4 := Lib.hid (HB3.out.trans (hT4.below (fun k _ h => by
     rcases HF3.out k h with h | h
     ·
      exact (HFA2.out k h).1
     ·
      have := HB2.out.size; omega) HB3.out.size))
    have HFI2 := Lib.hid (parseL_fine HFI1.out.1 hpa2)
    clear hrd2 ht4 hT4 hF4 hpa2
    dsimp only
    by_cases hz1 : z1 = 0
    ·
     have hzi : ((z1 : Int) != 0) = false := by subst hz1; rfl
     by_cases hz2 : z2 = 0
     ·
      have hzj : ((z2 : Int) != 0) = false := by subst hz2; rfl
      have hp1 := HPA1.out
      have hp2 := HPA2.out
      rw [hz1] at hp1
      rw [hz2] at hp2
      have hpar := parse_two hp1 hp2 (by have h1 := tb_len a; have h2 := tb_len b; omega)
      obtain ⟨X, hX, hXt⟩ : ∃ X : ByteArray, (a ++ ⟨#[10]⟩) ++ b = X ∧ tb X = tb a ++ 10 :: tb b := ⟨_, rfl, by simp [tb]⟩
      have hXl : X.size = a.size + 1 + b.size := by rw [← hX, ByteArray.size_append, ByteArray.size_append]; rfl
      rw [← hXt] at hpar
      have HPAR := Lib.hid hpar
      have HXT := Lib.hid hXt
      have hsz1 : (a ++ ⟨#[10]⟩ : ByteArray).size = a.size + 1 := by rw [ByteArray.size_append]; rfl
      have g31 : a.size + 1 ≤ maxLen := by unfold maxLen; omega
      have g32 : ¬ (maxLen < a.size + 1) := by unfold maxLen; omega
      have g33 : a.size + 1 + b.size ≤ maxLen := by unfold maxLen; omega
      have g34 : ¬ (maxLen < a.size + 1 + b.size) := by unfold maxLen; omega
      have HZ1 := Lib.hid hz1
      clear hpar hXt hp1 hp2 hz1 hz2
      repeat (first | go_skip | go_guarded | go_step)
      refine (ok.parse g2 F2 l X w4 (ok.later _ _ HPW.out HB4.out) HTU4.out (HGA.out.mono (by omega)) (by omega)).mono ?_
      rintro e w5 ⟨A3, n3, c3, Q3, rs3, ns3, y3, z3, F5, rfl, hnc3, hn3, hrd3, ht5, hT5, hF5, hpa3⟩
      rw [HPAR.out] at hpa3
      simp only [Prod.mk.injEq] at hpa3
      obtain ⟨e1, e2, hy3, hz3⟩ := hpa3
      subst e1
      have e3 := e2.symm
      clear e2
      subst e3
      have hzk : ((z3 : Int) != 0) = false := by subst hz3; rfl
      have hyk : ((y3 : Int) != 0) = false := by subst hy3; rfl
      have HS3 := Lib.hid HTT3.out.size
      have HS4 := Lib.hid HTT4.out.size
      have HS5 := Lib.hid hT5.size
      have hr1 := (HRD1.out w5 ((HTT4.out.mono (fun k _ h => .inl h)).then_ hT5 (fun k _ h => .inr (HFU.out k h).2))).more (Nat.le_trans HS4.out HS5.out)
      have hr2 := (HRD2.out w5 (hT5.mono (fun k _ h => .inr (by have h1 := (HFU.out k h).2; have := HS3.out; omega)))).more HS5.out
      have hr3 := hrd3 w5 (Turn.refl _ _)
      have hnn : n3 = n1 + n2 := by have h1 := hr1.lenL; have h2 := hr2.lenL; have h3 := hr3.lenL; simp at h3; omega
      have HR1 := Lib.hid hr1
      have HR2 := Lib.hid hr2
      have HR3 := Lib.hid hr3
      have hlen : ((n3 : Int) != (n1 : Int) + (n2 : Int)) = false := by rw [hnn]; simp
      have HT5 := Lib.hid (HT4.out.turn hT5 fun k hk hf => by
       have h1 := HFU.out k hf
       have := HS3.out
       rcases HF4.out k hk with h | h
       ·
        rcases HF3.out k h with h | h
        ·
         have h2 := HFA2.out k h; omega
        ·
         omega
       ·
        omega)
      have HTU5 := Lib.hid ht5
      have HF5 := Lib.hid hF5
      have HB5 := Lib.hid (HB4.out.trans (hT5.below (fun k _ h => by have h1 := (HFU.out k h).1; have := HB1.out.size; omega) HB4.out.size))
      have HSM := Lib.hid (fine_small HFI2.out.2.2.1)
      have HSM1 := Lib.hid (fine_small HFI1.out.2.2.1)
      have HLL := Lib.hid (show ns2.length ≤ 1000000 by have := HFI2.out.1.len; omega)
      have hnl : ((ns2.length : Int) != (ns2.length : Int)) = false := by simp
      have HNN := Lib.hid hnn
      clear hrd3 ht5 hT5 hF5 hr1 hr2 hr3 hnn hy3 hz3 hzi hzj hX hXl hsz1 g31 g32 g33 g34
      dsimp only
      repeat (first | go_skip | go_guarded | go_step)
      refine (tLen g2 F5 ns2 w5 HTU5.out).mono ?_
      rintro e w5' ⟨rfl, rfl⟩
      dsimp only
      repeat (first | go_skip | go_guarded | go_step)
      refine (tLen g1 F4 ns2 w5 HT5.out).mono ?_
      rintro e w5' ⟨rfl, rfl⟩
      dsimp only
      repeat (first | go_skip | go_guarded | go_step)
      go_loopw [20] (fun p wr => ∃ i : Nat, i ≤ n3 ∧ p = .int .i64 (i : Int) ∧ Below w5.heap.size w5 wr) (fun p _ => n3 - (intOf p).toNat)
      case atStart => exact ⟨0, by omega, rfl, Below.refl _ _⟩
      case round =>
       rename World => wr
       obtain ⟨i, hi, rfl, hbr⟩ := hrel
       have HBR := Lib.hid hbr
       have hws := hbr.size
       clear hbr
       by_cases hlt : i < n3
       ·
        have hci : (i : Int) < (n3 : Int) := by omega
        obtain ⟨b3, o3, sd3, tm3, p3, l3, M3, Ai3, ni3, ci3, Bi3, mi3, di3, Ri3, hA3, hbb3, hx3, v0, v1, v2, v3, v4, v5, hta3, hka3⟩ := HR3.out.at_ hlt
        subst hA3
        have Hy0 := Lib.hid ((HBR.out.cell hbb3).trans v0)
        have Hy1 := Lib.hid ((HBR.out.cell hbb3).trans v1)
        have Hy2 := Lib.hid ((HBR.out.cell hbb3).trans v2)
        have Hy3 := Lib.hid ((HBR.out.cell hbb3).trans v3)
        have Hy4 := Lib.hid ((HBR.out.cell hbb3).trans v4)
        have Hy5 := Lib.hid ((HBR.out.cell hbb3).trans v5)
        have hbw3 : b3 < wr.heap.size := by omega
        have HTA3 := Lib.hid ((hta3.below HBR.out).more hws)
        have HKA3 := Lib.hid ((hka3.below HBR.out).more hws)
        clear v0 v1 v2 v3 v4 v5 hta3 hka3
        by_cases hin : i < n1
        ·
         have hcn : (i : Int) < (n1 : Int) := by omega
         obtain ⟨b, o, sd, tm, p, as_, M, Ai, ni, ci, Bi, mi, di, Ri, hA1, hbb, hx, q0, q1, q2, q3, q4, q5, hta, hka⟩ := HR1.out.at_ hin
         subst hA1
         have Hx0 := (HBR.out.cell hbb).trans q0
         have Hx1 := (HBR.out.cell hbb).trans q1
         have Hx2 := (HBR.out.cell hbb).trans q2
         have Hx3 := (HBR.out.cell hbb).trans q3
         have Hx4 := (HBR.out.cell hbb).trans q4
         have Hx5 := (HBR.out.cell hbb).trans q5
         have hbw : b < wr.heap.size := by omega
         have HTA := Lib.hid ((hta.below HBR.out).more hws)
         have HKA := Lib.hid ((hka.below HBR.out).more hws)
         have heq : (((sd3, tm3, (p3, l3)), M3) : Rl) = ((sd, tm, (p, as_)), M) := by
          have h1 := hx3
          rw [List.getElem?_append_left (by rw [HR1.out.lenL]; exact hin), hx] at h1
          exact (Option.some.inj h1).symm
         simp only [Prod.mk.injEq] at heq
         obtain ⟨⟨rfl, rfl, rfl, rfl⟩, rfl⟩ := heq
         have hsm := HSM1.out _ (List.mem_of_getElem? hx)
         have HSMA := Lib.hid hsm
         clear hx hx3 q0 q1 q2 q3 q4 q5 hta hka hsm
         repeat (first | go_skip | go_guarded | go_step)
         obtain ⟨V0, hV0, hbk, hbl⟩ : ∃ V, V = wr.alloc (.cells #[.bool sd3, .bool tm3.1, nv tm3.2, nv p3, .slice Ai ni ci, .slice Bi mi di] 54) ∧ Bk V wr.heap.size 54 [.bool sd3, .bool tm3.1, nv tm3.2, nv p3, .slice Ai ni ci, .slice Bi mi di] ∧ Below wr.heap.size wr V := ⟨_, rfl, Bk.new _ _ _, (Below.refl _ _).alloc (Nat.le_refl _) _⟩
         rw [← hV0]
         have HX0 := Lib.hid ((hbl.cell hbw3).trans Hy0.out)
         have HX1 := Lib.hid ((hbl.cell hbw3).trans Hy1.out)
         have HX2 := Lib.hid ((hbl.cell hbw3).trans Hy2.out)
         have HX3 := Lib.hid ((hbl.cell hbw3).trans Hy3.out)
         have HX4 := Lib.hid ((hbl.cell hbw3).trans Hy4.out)
         have HX5 := Lib.hid ((hbl.cell hbw3).trans Hy5.out)
         have HZ0 := Lib.hid (show V0.cell? ⟨wr.heap.size, 0, none⟩ = some (.bool sd3) from hbk.cell 0)
         have HZ1 := Lib.hid (show V0.cell? ⟨wr.heap.size, 1, none⟩ = some (.bool tm3.1) from hbk.cell 1)
         have HZ2 := Lib.hid (show V0.cell? ⟨wr.heap.size, 2, none⟩ = some (nv tm3.2) from hbk.cell 2)
         have HZ3 := Lib.hid (show V0.cell? ⟨wr.heap.size, 3, none⟩ = some (nv p3) from hbk.cell 3)
         have HZ4 := Lib.hid (show V0.cell? ⟨wr.heap.size, 4, none⟩ = some (.slice Ai ni ci) from hbk.cell 4)
         have HZ5 := Lib.hid (show V0.cell? ⟨wr.heap.size, 5, none⟩ = some (.slice Bi mi di) from hbk.cell 5)
         have HS := Lib.hid (fun (V : World) (hV : Below V0.heap.size V0 V) => (rSameRule_any sd3 tm3 p3 Ai3 ni3 ci3 l3 Bi3 mi3 di3 Ri3 M3 sd3 tm3 p3 Ai ni ci l3 Bi mi di Ri M3 V ((((HTA3.out.below hbl).more hbl.size).below hV).more hV.size) ((((HKA3.out.below hbl).more hbl.size).below hV).more hV.size) ((((HTA.out.below hbl).more hbl.size).below hV).more hV.size) ((((HKA.out.below hbl).more hbl.size).below hV).more hV.size) (by
          have := HSMA.out.1
          have h2 := rdT_len HTA3.out
          dsimp only at this
          omega) (by
          have := HSMA.out.2.1
          have h2 := HKA3.out.lenL
          dsimp only at this
          omega) (fun y hy => by
          have := HSMA.out.2.2 y hy
          omega)).mono (R' := fun e w' => e = .returned (.bool true) ∧ Below V.heap.size V w') fun e w' h => ⟨by rw [h.1, decide_eq_true rfl], h.2⟩)
         have hbv : b3 < V0.heap.size := Nat.lt_of_lt_of_le hbw3 hbl.size
         have hbz : wr.heap.size < V0.heap.size := hbk.lt
         have HBL := Lib.hid hbl
         have hvs := hbl.size
         clear hbk hbl hV0 Hx0 Hx1 Hx2 Hx3 Hx4 Hx5
         repeat (first | go_skip | go_guarded | go_step)
         refine wp_region_held_drew (S := fun V => Below V0.heap.size V0 V) (by kernel_rfl) ?_ (fun hHeld => ?_)
         ·
          exact (Below.refl _ V0).drew
         refine wpAnyH_take (i := 0) (oi := ?p1) (v := ?v1) ?a1 (by kernel_rfl) ?b1 ?c1 ?q1 ?y1 hHeld ?z1
         case a1 => (simp only [List.getElem?_toArray, List.getElem?_cons_succ, List.getElem?_cons_zero]; exact rfl)
         case b1 => kernel_rfl
         case c1 => kernel_rfl
         case q1 => exact fun _ _ _ h => h
         case y1 =>
          refine Or.inl ⟨by rfl, ?_⟩
          intro V hSV
          go_simp
          (try with_reducible rfl)
         try simp only [Act.put, List.setIfInBounds_toArray, List.set_cons_zero, List.set_cons_succ]
         refine wpAnyH_take (i := 1) (oi := ?p2) (v := ?v2) ?a2 (by kernel_rfl) ?b2 ?c2 ?q2 ?y2 hHeld ?z2
         case a2 => (simp only [List.getElem?_toArray, List.getElem?_cons_succ, List.getElem?_cons_zero]; exact rfl)
         case b2 => kernel_rfl
         case c2 => kernel_rfl
         case q2 => exact fun _ _ _ h => h
         case y2 =>
          refine Or.inl ⟨by rfl, ?_⟩
          intro V hSV
          go_simp
          (try with_reducible rfl)
         try simp only [Act.put, List.setIfInBounds_toArray, List.set_cons_zero, List.set_cons_succ]
         refine wpAnyH_take (i := 2) (oi := ?p3) (v := ?v3) ?a3 (by kernel_rfl) ?b3 ?c3 ?q3 ?y3 hHeld ?z3
         case a3 => (simp only [List.getElem?_toArray, List.getElem?_cons_succ, List.getElem?_cons_zero]; exact rfl)
         case b3 => kernel_rfl
         case c3 => kernel_rfl
         case q3 => exact fun _ _ _ h => h
         case y3 =>
          refine Or.inl ⟨by rfl, ?_⟩
          intro V hSV
          go_simp
          (try with_reducible rfl)
         try simp only [Act.put, List.setIfInBounds_toArray, List.set_cons_zero, List.set_cons_succ]
         refine wpAnyH_take (i := 3) (oi := ?p4) (v := ?v4) ?a4 (by kernel_rfl) ?b4 ?c4 ?q4 ?y4 hHeld ?z4
         case a4 => (simp only [List.getElem?_toArray, List.getElem?_cons_succ, List.getElem?_cons_zero]; exact rfl)
         case b4 => kernel_rfl
         case c4 => kernel_rfl
         case q4 => exact fun _ _ _ h => h
         case y4 =>
          refine Or.inl ⟨by rfl, ?_⟩
          intro V hSV
          have x0 : V.cell? ⟨b3, o3 + i * 6, none⟩ = some (.bool sd3) := by rw [hSV.cell hbv]; exact HX0.out
          have x1 : V.cell? ⟨b3, o3 + i * 6 + 1, none⟩ = some (.bool tm3.1) := by rw [hSV.cell hbv]; exact HX1.out
          have x2 : V.cell? ⟨b3, o3 + i * 6 + 2, none⟩ = some (nv tm3.2) := by rw [hSV.cell hbv]; exact HX2.out
          have x3 : V.cell? ⟨b3, o3 + i * 6 + 3, none⟩ = some (nv p3) := by rw [hSV.cell hbv]; exact HX3.out
          have x4 : V.cell? ⟨b3, o3 + i * 6 + 4, none⟩ = some (.slice Ai3 ni3 ci3) := by rw [hSV.cell hbv]; exact HX4.out
          have x5 : V.cell? ⟨b3, o3 + i * 6 + 5, none⟩ = some (.slice Bi3 mi3 di3) := by rw [hSV.cell hbv]; exact HX5.out
          go_simp
          (try with_reducible rfl)
         try simp only [Act.put, List.setIfInBounds_toArray, List.set_cons_zero, List.set_cons_succ]
         refine wpAnyH_take (i := 4) (oi := ?p5) (v := ?v5) ?a5 (by kernel_rfl) ?b5 ?c5 ?q5 ?y5 hHeld ?z5
         case a5 => (simp only [List.getElem?_toArray, List.getElem?_cons_succ, List.getElem?_cons_zero]; exact rfl)
         case b5 => kernel_rfl
         case c5 => kernel_rfl
         case q5 => exact fun _ _ _ h => h
         case y5 =>
          refine Or.inl ⟨by rfl, ?_⟩
          intro V hSV
          have z0 : V.cell? ⟨wr.heap.size, 0, none⟩ = some (.bool sd3) := by rw [hSV.cell hbz]; exact HZ0.out
          have z1 : V.cell? ⟨wr.heap.size, 1, none⟩ = some (.bool tm3.1) := by rw [hSV.cell hbz]; exact HZ1.out
          have z2 : V.cell? ⟨wr.heap.size, 2, none⟩ = some (nv tm3.2) := by rw [hSV.cell hbz]; exact HZ2.out
          have z3 : V.cell? ⟨wr.heap.size, 3, none⟩ = some (nv p3) := by rw [hSV.cell hbz]; exact HZ3.out
          have z4 : V.cell? ⟨wr.heap.size, 4, none⟩ = some (.slice Ai ni ci) := by rw [hSV.cell hbz]; exact HZ4.out
          have z5 : V.cell? ⟨wr.heap.size, 5, none⟩ = some (.slice Bi mi di) := by rw [hSV.cell hbz]; exact HZ5.out
          go_simp
          (try with_reducible rfl)
         try simp only [Act.put, List.setIfInBounds_toArray, List.set_cons_zero, List.set_cons_succ]
         refine wpAnyH_ready (rs := [5]) (by kernel_rfl) (by simp) ?_
         refine AllReadyH.cons (o := ?od6) ?hod6 (fun K hK => ?kd6) ?md6
         case hod6 => (simp only [List.getElem?_toArray, List.getElem?_cons_succ, List.getElem?_cons_zero]; exact rfl)
         case kd6 =>
          go_simp
          refine (HS.out _ hHeld).mono ?_
          rintro e V ⟨rfl, hb9⟩
          (try dsimp only)
          refine hK.out _ _ ?_ (fun hHeld => ?_)
          ·
           exact Below.trans hHeld (hb9.mono (Below.size hHeld))
          clear hK K
          try simp only [Act.put, List.setIfInBounds_toArray, List.set_cons_zero, List.set_cons_succ]
          refine wpAnyH_take (i := 6) (oi := ?p7) (v := ?v7) ?a7 (by kernel_rfl) ?b7 ?c7 ?q7 ?y7 hHeld ?z7
          case a7 => (simp only [List.getElem?_toArray, List.getElem?_cons_succ, List.getElem?_cons_zero]; exact rfl)
          case b7 => kernel_rfl
          case c7 => kernel_rfl
          case q7 => exact fun _ _ _ h => h
          case y7 =>
           refine Or.inl ⟨by rfl, ?_⟩
           intro V hSV
           go_simp
           (try with_reducible rfl)
          try simp only [Act.put, List.setIfInBounds_toArray, List.set_cons_zero, List.set_cons_succ]
          refine wpAnyH_done (by kernel_rfl) ?_ _
          have HV := Lib.hid (show Below V0.heap.size V0 _ from hHeld)
          clear hHeld hb9
          repeat (first | go_skip | go_guarded | go_step)
          go_roundw
          case rel => exact ⟨i + 1, by omega, by go_num, HBR.out.trans ((HBL.out.trans (HV.out.mono HBL.out.size)).mono hws)⟩
          case measure => simp [intOf] <;> omega
         exact AllReadyH.nil
        ·
         obtain ⟨j, hj⟩ : ∃ j, i = n1 + j := ⟨i - n1, by omega⟩
         have hcn : ¬ (i : Int) < (n1 : Int) := by omega
         have hsub : (i : Int) - (n1 : Int) = (j : Int) := by omega
         have hjlt : j < n2 := by have := HNN.out; omega
         have hcj : (j : Int) < (n2 : Int) := by omega
         have HJ := Lib.hid hj
         clear hj
         obtain ⟨b, o, sd, tm, p, as_, M, Ai, ni, ci, Bi, mi, di, Ri, hA1, hbb, hx, q0, q1, q2, q3, q4, q5, hta, hka⟩ := HR2.out.at_ hjlt
         subst hA1
         have Hx0 := (HBR.out.cell hbb).trans q0
         have Hx1 := (HBR.out.cell hbb).trans q1
         have Hx2 := (HBR.out.cell hbb).trans q2
         have Hx3 := (HBR.out.cell hbb).trans q3
         have Hx4 := (HBR.out.cell hbb).trans q4
         have Hx5 := (HBR.out.cell hbb).trans q5
         have hbw : b < wr.heap.size := by omega
         have HTA := Lib.hid ((hta.below HBR.out).more hws)
         have HKA := Lib.hid ((hka.below HBR.out).more hws)
         have heq : (((sd3, tm3, (p3, l3)), M3) : Rl) = ((sd, tm, (p, as_)), M) := by
          have h1 := hx3
          rw [List.getElem?_append_right (by rw [HR1.out.lenL]; have := HJ.out; omega), HR1.out.lenL, show i - n1 = j by have := HJ.out; omega, hx] at h1
          exact (Option.some.inj h1).symm
         simp only [Prod.mk.injEq] at heq
         obtain ⟨⟨rfl, rfl, rfl, rfl⟩, rfl⟩ := heq
         have hsm := HSM.out _ (List.mem_of_getElem? hx)
         have HSMA := Lib.hid hsm
         clear hx hx3 q0 q1 q2 q3 q4 q5 hta hka hsm
         repeat (first | go_skip | go_guarded | go_step)
         obtain ⟨V0, hV0, hbk, hbl⟩ : ∃ V, V = wr.alloc (.cells #[.bool sd3, .bool tm3.1, nv tm3.2, nv p3, .slice Ai ni ci, .slice Bi mi di] 54) ∧ Bk V wr.heap.size 54 [.bool sd3, .bool tm3.1, nv tm3.2, nv p3, .slice Ai ni ci, .slice Bi mi di] ∧ Below wr.heap.size wr V := ⟨_, rfl, Bk.new _ _ _, (Below.refl _ _).alloc (Nat.le_refl _) _⟩
         rw [← hV0]
         have HX0 := Lib.hid ((hbl.cell hbw3).trans Hy0.out)
         have HX1 := Lib.hid ((hbl.cell hbw3).trans Hy1.out)
         have HX2 := Lib.hid ((hbl.cell hbw3).trans Hy2.out)
         have HX3 := Lib.hid ((hbl.cell hbw3).trans Hy3.out)
         have HX4 := Lib.hid ((hbl.cell hbw3).trans Hy4.out)
         have HX5 := Lib.hid ((hbl.cell hbw3).trans Hy5.out)
         have HZ0 := Lib.hid (show V0.cell? ⟨wr.heap.size, 0, none⟩ = some (.bool sd3) from hbk.cell 0)
         have HZ1 := Lib.hid (show V0.cell? ⟨wr.heap.size, 1, none⟩ = some (.bool tm3.1) from hbk.cell 1)
         have HZ2 := Lib.hid (show V0.cell? ⟨wr.heap.size, 2, none⟩ = some (nv tm3.2) from hbk.cell 2)
         have HZ3 := Lib.hid (show V0.cell? ⟨wr.heap.size, 3, none⟩ = some (nv p3) from hbk.cell 3)
         have HZ4 := Lib.hid (show V0.cell? ⟨wr.heap.size, 4, none⟩ = some (.slice Ai ni ci) from hbk.cell 4)
         have HZ5 := Lib.hid (show V0.cell? ⟨wr.heap.size, 5, none⟩ = some (.slice Bi mi di) from hbk.cell 5)
         have HS := Lib.hid (fun (V : World) (hV : Below V0.heap.size V0 V) => (rSameRule_any sd3 tm3 p3 Ai3 ni3 ci3 l3 Bi3 mi3 di3 Ri3 M3 sd3 tm3 p3 Ai ni ci l3 Bi mi di Ri M3 V ((((HTA3.out.below hbl).more hbl.size).below hV).more hV.size) ((((HKA3.out.below hbl).more hbl.size).below hV).more hV.size) ((((HTA.out.below hbl).more hbl.size).below hV).more hV.size) ((((HKA.out.below hbl).more hbl.size).below hV).more hV.size) (by
          have := HSMA.out.1
          have h2 := rdT_len HTA3.out
          dsimp only at this
          omega) (by
          have := HSMA.out.2.1
          have h2 := HKA3.out.lenL
          dsimp only at this
          omega) (fun y hy => by
          have := HSMA.out.2.2 y hy
          omega)).mono (R' := fun e w' => e = .returned (.bool true) ∧ Below V.heap.size V w') fun e w' h => ⟨by rw [h.1, decide_eq_true rfl], h.2⟩)
         have hbv : b3 < V0.heap.size := Nat.lt_of_lt_of_le hbw3 hbl.size
         have hbz : wr.heap.size < V0.heap.size := hbk.lt
         have HBL := Lib.hid hbl
         have hvs := hbl.size
         clear hbk hbl hV0 Hx0 Hx1 Hx2 Hx3 Hx4 Hx5
         repeat (first | go_skip | go_guarded | go_step)
         refine wp_region_held_drew (S := fun V => Below V0.heap.size V0 V) (by kernel_rfl) ?_ (fun hHeld => ?_)
         ·
          exact (Below.refl _ V0).drew
         refine wpAnyH_take (i := 0) (oi := ?p8) (v := ?v8) ?a8 (by kernel_rfl) ?b8 ?c8 ?q8 ?y8 hHeld ?z8
         case a8 => (simp only [List.getElem?_toArray, List.getElem?_cons_succ, List.getElem?_cons_zero]; exact rfl)
         case b8 => kernel_rfl
         case c8 => kernel_rfl
         case q8 => exact fun _ _ _ h => h
         case y8 =>
          refine Or.inl ⟨by rfl, ?_⟩
          intro V hSV
          go_simp
          (try with_reducible rfl)
         try simp only [Act.put, List.setIfInBounds_toArray, List.set_cons_zero, List.set_cons_succ]
         refine wpAnyH_take (i := 1) (oi := ?p9) (v := ?v9) ?a9 (by kernel_rfl) ?b9 ?c9 ?q9 ?y9 hHeld ?z9
         case a9 => (simp only [List.getElem?_toArray, List.getElem?_cons_succ, List.getElem?_cons_zero]; exact rfl)
         case b9 => kernel_rfl
         case c9 => kernel_rfl
         case q9 => exact fun _ _ _ h => h
         case y9 =>
          refine Or.inl ⟨by rfl, ?_⟩
          intro V hSV
          go_simp
          (try with_reducible rfl)
         try simp only [Act.put, List.setIfInBounds_toArray, List.set_cons_zero, List.set_cons_succ]
         refine wpAnyH_take (i := 2) (oi := ?p10) (v := ?v10) ?a10 (by kernel_rfl) ?b10 ?c10 ?q10 ?y10 hHeld ?z10
         case a10 => (simp only [List.getElem?_toArray, List.getElem?_cons_succ, List.getElem?_cons_zero]; exact rfl)
         case b10 => kernel_rfl
         case c10 => kernel_rfl
         case q10 => exact fun _ _ _ h => h
         case y10 =>
          refine Or.inl ⟨by rfl, ?_⟩
          intro V hSV
          go_simp
          (try with_reducible rfl)
         try simp only [Act.put, List.setIfInBounds_toArray, List.set_cons_zero, List.set_cons_succ]
         refine wpAnyH_take (i := 3) (oi := ?p11) (v := ?v11) ?a11 (by kernel_rfl) ?b11 ?c11 ?q11 ?y11 hHeld ?z11
         case a11 => (simp only [List.getElem?_toArray, List.getElem?_cons_succ, List.getElem?_cons_zero]; exact rfl)
         case b11 => kernel_rfl
         case c11 => kernel_rfl
         case q11 => exact fun _ _ _ h => h
         case y11 =>
          refine Or.inl ⟨by rfl, ?_⟩
          intro V hSV
          have x0 : V.cell? ⟨b3, o3 + i * 6, none⟩ = some (.bool sd3) := by rw [hSV.cell hbv]; exact HX0.out
          have x1 : V.cell? ⟨b3, o3 + i * 6 + 1, none⟩ = some (.bool tm3.1) := by rw [hSV.cell hbv]; exact HX1.out
          have x2 : V.cell? ⟨b3, o3 + i * 6 + 2, none⟩ = some (nv tm3.2) := by rw [hSV.cell hbv]; exact HX2.out
          have x3 : V.cell? ⟨b3, o3 + i * 6 + 3, none⟩ = some (nv p3) := by rw [hSV.cell hbv]; exact HX3.out
          have x4 : V.cell? ⟨b3, o3 + i * 6 + 4, none⟩ = some (.slice Ai3 ni3 ci3) := by rw [hSV.cell hbv]; exact HX4.out
          have x5 : V.cell? ⟨b3, o3 + i * 6 + 5, none⟩ = some (.slice Bi3 mi3 di3) := by rw [hSV.cell hbv]; exact HX5.out
          go_simp
          (try with_reducible rfl)
         try simp only [Act.put, List.setIfInBounds_toArray, List.set_cons_zero, List.set_cons_succ]
         refine wpAnyH_take (i := 4) (oi := ?p12) (v := ?v12) ?a12 (by kernel_rfl) ?b12 ?c12 ?q12 ?y12 hHeld ?z12
         case a12 => (simp only [List.getElem?_toArray, List.getElem?_cons_succ, List.getElem?_cons_zero]; exact rfl)
         case b12 => kernel_rfl
         case c12 => kernel_rfl
         case q12 => exact fun _ _ _ h => h
         case y12 =>
          refine Or.inl ⟨by rfl, ?_⟩
          intro V hSV
          have z0 : V.cell? ⟨wr.heap.size, 0, none⟩ = some (.bool sd3) := by rw [hSV.cell hbz]; exact HZ0.out
          have z1 : V.cell? ⟨wr.heap.size, 1, none⟩ = some (.bool tm3.1) := by rw [hSV.cell hbz]; exact HZ1.out
          have z2 : V.cell? ⟨wr.heap.size, 2, none⟩ = some (nv tm3.2) := by rw [hSV.cell hbz]; exact HZ2.out
          have z3 : V.cell? ⟨wr.heap.size, 3, none⟩ = some (nv p3) := by rw [hSV.cell hbz]; exact HZ3.out
          have z4 : V.cell? ⟨wr.heap.size, 4, none⟩ = some (.slice Ai ni ci) := by rw [hSV.cell hbz]; exact HZ4.out
          have z5 : V.cell? ⟨wr.heap.size, 5, none⟩ = some (.slice Bi mi di) := by rw [hSV.cell hbz]; exact HZ5.out
          go_simp
          (try with_reducible rfl)
         try simp only [Act.put, List.setIfInBounds_toArray, List.set_cons_zero, List.set_cons_succ]
         refine wpAnyH_ready (rs := [5]) (by kernel_rfl) (by simp) ?_
         refine AllReadyH.cons (o := ?od13) ?hod13 (fun K hK => ?kd13) ?md13
         case hod13 => (simp only [List.getElem?_toArray, List.getElem?_cons_succ, List.getElem?_cons_zero]; exact rfl)
         case kd13 =>
          go_simp
          refine (HS.out _ hHeld).mono ?_
          rintro e V ⟨rfl, hb9⟩
          (try dsimp only)
          refine hK.out _ _ ?_ (fun hHeld => ?_)
          ·
           exact Below.trans hHeld (hb9.mono (Below.size hHeld))
          clear hK K
          try simp only [Act.put, List.setIfInBounds_toArray, List.set_cons_zero, List.set_cons_succ]
          refine wpAnyH_take (i := 6) (oi := ?p14) (v := ?v14) ?a14 (by kernel_rfl) ?b14 ?c14 ?q14 ?y14 hHeld ?z14
          case a14 => (simp only [List.getElem?_toArray, List.getElem?_cons_succ, List.getElem?_cons_zero]; exact rfl)
          case b14 => kernel_rfl
          case c14 => kernel_rfl
          case q14 => exact fun _ _ _ h => h
          case y14 =>
           refine Or.inl ⟨by rfl, ?_⟩
           intro V hSV
           go_simp
           (try with_reducible rfl)
          try simp only [Act.put, List.setIfInBounds_toArray, List.set_cons_zero, List.set_cons_succ]
          refine wpAnyH_done (by kernel_rfl) ?_ _
          have HV := Lib.hid (show Below V0.heap.size V0 _ from hHeld)
          clear hHeld hb9
          repeat (first | go_skip | go_guarded | go_step)
          go_roundw
          case rel => exact ⟨i + 1, by omega, by go_num, HBR.out.trans ((HBL.out.trans (HV.out.mono HBL.out.size)).mono hws)⟩
          case measure => simp [intOf] <;> omega
         exact AllReadyH.nil
       ·
        obtain rfl : i = n3 := by omega
        have hci : ¬ (i : Int) < (i : Int) := by omega
        have HT6 := Lib.hid (HT5.out.later HBR.out)
        have HTU6 := Lib.hid (HTU5.out.later HBR.out)
        have HB6 := Lib.hid (HB5.out.trans (HBR.out.mono HB5.out.size))
        repeat (first | go_skip | go_guarded | go_step)
        refine (tLen g2 F5 ns2 wr HTU6.out).mono ?_
        rintro e wr' ⟨rfl, rfl⟩
        dsimp only
        repeat (first | go_skip | go_guarded | go_step)
        refine (ok.parse g2 F5 ns2 a wr (ok.later _ _ HPW.out HB6.out) HTU6.out HFI2.out.1 (by omega)).mono ?_
        rintro e w6 ⟨A4, n4, c4, Q4, rs4, ns4, y4, z4, F6, rfl, hnc4, hn4, hrd4, ht6, hT6, hF6, hpa4⟩
        have hpg := parse_again (show (rs1, ns1, y1, 0) = parseL l (tb a) by have h0 := HPA1.out; rw [HZ1.out] at h0; exact h0) HFI2.out.1 HFI2.out.2.1
        rw [hpg] at hpa4
        simp only [Prod.mk.injEq] at hpa4
        obtain ⟨e1, e2, _, hz4⟩ := hpa4
        have hzk4 : ((z4 : Int) != 0) = false := by rw [hz4]; rfl
        have hn14 : n4 = n1 := by have h1 := (hrd4 w6 (Turn.refl _ _)).lenL; have h2 := HR1.out.lenL; rw [e1] at h1; omega
        have hlen4 : ((n4 : Int) != (n1 : Int)) = false := by rw [hn14]; simp
        rw [e2] at ht6
        have HT7 := Lib.hid (HT6.out.turn hT6 fun k hk hf => by
         have h0 := HT4.out.lt k hk
         have := HS3.out
         rcases HF5.out k hf with hf | hf
         ·
          have h1 := HFU.out k hf
          rcases HF4.out k hk with h | h
          ·
           rcases HF3.out k h with h | h
           ·
            have h2 := HFA2.out k h; omega
           ·
            omega
          ·
           omega
         ·
          omega)
        have HTU7 := Lib.hid ht6
        have HB7 := Lib.hid (HB6.out.trans (hT6.below (fun k _ h => by
         have := HB4.out.size
         have := HB1.out.size
         rcases HF5.out k h with h | h
         ·
          have h1 := (HFU.out k h).1; omega
         ·
          omega) HB6.out.size))
        clear hrd4 ht6 hT6 hF6 e1 e2 hpg hz4 hn14
        dsimp only
        repeat (first | go_skip | go_guarded | go_step)
        refine (tLen g2 F6 ns2 w6 HTU7.out).mono ?_
        rintro e w6' ⟨rfl, rfl⟩
        dsimp only
        repeat (first | go_skip | go_guarded | go_step)
        refine (tList g1 F4 ns2 w6 HT7.out HLL.out).mono ?_
        rintro e w7 ⟨A5, c5, rfl, ho5, hb7⟩
        have HB8 := Lib.hid (HB7.out.trans (hb7.mono HB7.out.size))
        have HTU8 := Lib.hid (HTU7.out.later hb7)
        have HO5 := Lib.hid (Rd.ofOwn ho5)
        clear ho5 hb7
        dsimp only
        repeat (first | go_skip | go_guarded | go_step)
        refine (tList g2 F6 ns2 w7 HTU8.out HLL.out).mono ?_
        rintro e w8 ⟨A6, c6, rfl, ho6, hb8⟩
        have HB9 := Lib.hid (HB8.out.trans (hb8.mono HB8.out.size))
        have HO5' := Lib.hid ((HO5.out.below hb8).more hb8.size)
        have HO6 := Lib.hid (Rd.ofOwn ho6)
        clear ho6 hb8
        obtain ⟨m, hm⟩ : ∃ m, m = ns2.length := ⟨_, rfl⟩
        have HM := Lib.hid hm
        have hmb : m ≤ 1000000 := by rw [hm]; exact HLL.out
        rw [← hm] at HO5' HO6 ⊢
        clear hm hnl
        dsimp only
        repeat (first | go_skip | go_guarded | go_step)
        go_loopw [28] (fun p wr => ∃ i : Nat, i ≤ m ∧ p = .int .i64 (i : Int) ∧ Below w8.heap.size w8 wr) (fun p _ => m - (intOf p).toNat)
        case atStart => exact ⟨0, by omega, rfl, Below.refl _ _⟩
        case round =>
         rename World => wz
         obtain ⟨i, hi, rfl, hbz⟩ := hrel
         have HBZ := Lib.hid hbz
         have hzs := hbz.size
         clear hbz
         by_cases hlt : i < m
         ·
          have hci : (i : Int) < (m : Int) := by omega
          obtain ⟨b1, o1, s1, hA1, hbb1, hx1, hc1⟩ := rdS_at HO5'.out hlt
          obtain ⟨b2, o2, s2, hA2, hbb2, hx2, hc2⟩ := rdS_at HO6.out hlt
          rw [hx1] at hx2
          cases hx2
          subst hA1 hA2
          have HC1 := Lib.hid ((HBZ.out.cell hbb1).trans hc1)
          have HC2 := Lib.hid ((HBZ.out.cell hbb2).trans hc2)
          have hbq1 : b1 < wz.heap.size := by omega
          have hbq2 : b2 < wz.heap.size := by omega
          clear hx1 hc1 hc2
          repeat (first | go_skip | go_guarded | go_step)
          refine wp_region_held_drew (S := fun V => Below wz.heap.size wz V) (by kernel_rfl) ?_ (fun hHeld => ?_)
          ·
           exact (Below.refl _ wz).drew
          refine wpAnyH_take (i := 0) (oi := ?p15) (v := ?v15) ?a15 (by kernel_rfl) ?b15 ?c15 ?q15 ?y15 hHeld ?z15
          case a15 => (simp only [List.getElem?_toArray, List.getElem?_cons_succ, List.getElem?_cons_zero]; exact rfl)
          case b15 => kernel_rfl
          case c15 => kernel_rfl
          case q15 => exact fun _ _ _ h => h
          case y15 =>
           refine Or.inl ⟨by rfl, ?_⟩
           intro V hSV
           go_simp
           (try with_reducible rfl)
          try simp only [Act.put, List.setIfInBounds_toArray, List.set_cons_zero, List.set_cons_succ]
          refine wpAnyH_take (i := 1) (oi := ?p16) (v := ?v16) ?a16 (by kernel_rfl) ?b16 ?c16 ?q16 ?y16 hHeld ?z16
          case a16 => (simp only [List.getElem?_toArray, List.getElem?_cons_succ, List.getElem?_cons_zero]; exact rfl)
          case b16 => kernel_rfl
          case c16 => kernel_rfl
          case q16 => exact fun _ _ _ h => h
          case y16 =>
           refine Or.inl ⟨by rfl, ?_⟩
           intro V hSV
           go_simp
           (try with_reducible rfl)
          try simp only [Act.put, List.setIfInBounds_toArray, List.set_cons_zero, List.set_cons_succ]
          refine wpAnyH_take (i := 2) (oi := ?p17) (v := ?v17) ?a17 (by kernel_rfl) ?b17 ?c17 ?q17 ?y17 hHeld ?z17
          case a17 => (simp only [List.getElem?_toArray, List.getElem?_cons_succ, List.getElem?_cons_zero]; exact rfl)
          case b17 => kernel_rfl
          case c17 => kernel_rfl
          case q17 => exact fun _ _ _ h => h
          case y17 =>
           refine Or.inl ⟨by rfl, ?_⟩
           intro V hSV
           go_simp
           (try with_reducible rfl)
          try simp only [Act.put, List.setIfInBounds_toArray, List.set_cons_zero, List.set_cons_succ]
          refine wpAnyH_take (i := 3) (oi := ?p18) (v := ?v18) ?a18 (by kernel_rfl) ?b18 ?c18 ?q18 ?y18 hHeld ?z18
          case a18 => (simp only [List.getElem?_toArray, List.getElem?_cons_succ, List.getElem?_cons_zero]; exact rfl)
          case b18 => kernel_rfl
          case c18 => kernel_rfl
          case q18 => exact fun _ _ _ h => h
          case y18 =>
           refine Or.inl ⟨by rfl, ?_⟩
           intro V hSV
           have x0 : V.cell? ⟨b1, o1 + i, none⟩ = some (sv s1) := by rw [hSV.cell hbq1]; exact HC1.out
           go_simp
           (try with_reducible rfl)
          try simp only [Act.put, List.setIfInBounds_toArray, List.set_cons_zero, List.set_cons_succ]
          refine wpAnyH_take (i := 4) (oi := ?p19) (v := ?v19) ?a19 (by kernel_rfl) ?b19 ?c19 ?q19 ?y19 hHeld ?z19
          case a19 => (simp only [List.getElem?_toArray, List.getElem?_cons_succ, List.getElem?_cons_zero]; exact rfl)
          case b19 => kernel_rfl
          case c19 => kernel_rfl
          case q19 => exact fun _ _ _ h => h
          case y19 =>
           refine Or.inl ⟨by rfl, ?_⟩
           intro V hSV
           go_simp
           (try with_reducible rfl)
          try simp only [Act.put, List.setIfInBounds_toArray, List.set_cons_zero, List.set_cons_succ]
          refine wpAnyH_take (i := 5) (oi := ?p20) (v := ?v20) ?a20 (by kernel_rfl) ?b20 ?c20 ?q20 ?y20 hHeld ?z20
          case a20 => (simp only [List.getElem?_toArray, List.getElem?_cons_succ, List.getElem?_cons_zero]; exact rfl)
          case b20 => kernel_rfl
          case c20 => kernel_rfl
          case q20 => exact fun _ _ _ h => h
          case y20 =>
           refine Or.inl ⟨by rfl, ?_⟩
           intro V hSV
           go_simp
           (try with_reducible rfl)
          try simp only [Act.put, List.setIfInBounds_toArray, List.set_cons_zero, List.set_cons_succ]
          refine wpAnyH_take (i := 6) (oi := ?p21) (v := ?v21) ?a21 (by kernel_rfl) ?b21 ?c21 ?q21 ?y21 hHeld ?z21
          case a21 => (simp only [List.getElem?_toArray, List.getElem?_cons_succ, List.getElem?_cons_zero]; exact rfl)
          case b21 => kernel_rfl
          case c21 => kernel_rfl
          case q21 => exact fun _ _ _ h => h
          case y21 =>
           refine Or.inl ⟨by rfl, ?_⟩
           intro V hSV
           go_simp
           (try with_reducible rfl)
          try simp only [Act.put, List.setIfInBounds_toArray, List.set_cons_zero, List.set_cons_succ]
          refine wpAnyH_take (i := 7) (oi := ?p22) (v := ?v22) ?a22 (by kernel_rfl) ?b22 ?c22 ?q22 ?y22 hHeld ?z22
          case a22 => (simp only [List.getElem?_toArray, List.getElem?_cons_succ, List.getElem?_cons_zero]; exact rfl)
          case b22 => kernel_rfl
          case c22 => kernel_rfl
          case q22 => exact fun _ _ _ h => h
          case y22 =>
           refine Or.inl ⟨by rfl, ?_⟩
           intro V hSV
           have x0 : V.cell? ⟨b2, o2 + i, none⟩ = some (sv s1) := by rw [hSV.cell hbq2]; exact HC2.out
           go_simp
           (try with_reducible rfl)
          try simp only [Act.put, List.setIfInBounds_toArray, List.set_cons_zero, List.set_cons_succ]
          refine wpAnyH_take (i := 8) (oi := ?p23) (v := ?v23) ?a23 (by kernel_rfl) ?b23 ?c23 ?q23 ?y23 hHeld ?z23
          case a23 => (simp only [List.getElem?_toArray, List.getElem?_cons_succ, List.getElem?_cons_zero]; exact rfl)
          case b23 => kernel_rfl
          case c23 => kernel_rfl
          case q23 => exact fun _ _ _ h => h
          case y23 =>
           refine Or.inl ⟨by rfl, ?_⟩
           intro V hSV
           go_simp
           (try with_reducible rfl)
          try simp only [Act.put, List.setIfInBounds_toArray, List.set_cons_zero, List.set_cons_succ]
          refine wpAnyH_done (by kernel_rfl) ?_ _
          have HV := Lib.hid (show Below wz.heap.size wz _ from hHeld)
          clear hHeld
          repeat (first | go_skip | go_guarded | go_step)
          go_roundw
          case rel => exact ⟨i + 1, by omega, by go_num, HBZ.out.trans (HV.out.mono hzs)⟩
          case measure => simp [intOf] <;> omega
         ·
          obtain rfl : i = m := by omega
          have hci : ¬ (i : Int) < (i : Int) := by omega
          repeat (first | go_skip | go_guarded | go_step)
          refine (HRF.out wz (HB9.out.trans (HBZ.out.mono HB9.out.size))).mono ?_
          rintro e w9 ⟨rfl, hb9⟩
          dsimp only
          repeat (first | go_skip | go_guarded | go_step)
          go_ret
          exact ⟨rfl, hb9⟩
     ·
      have hzi2 : ((z2 : Int) != 0) = true := by rw [bne_iff_ne]; omega
      repeat (first | go_skip | go_guarded | go_step)
      refine (HRF.out w4 HB4.out).mono ?_
      rintro e w5 ⟨rfl, hb5⟩
      dsimp only
      repeat (first | go_skip | go_guarded | go_step)
      go_ret
      exact ⟨rfl, hb5⟩
    ·
     have hzi : ((z1 : Int) != 0) = true := by rw [bne_iff_ne]; omega
     repeat (first | go_skip | go_guarded | go_step)
     refine (HRF.out w4 HB4.out).mono ?_
     rintro e w5 ⟨rfl, hb5⟩
     dsimp only
     repeat (first | go_skip | go_guarded | go_step)
     go_ret
     exact ⟨rfl, hb5⟩
   ·
    dsimp only
    repeat (first | go_skip | go_guarded | go_step)
    refine (table_any A n c l w1 ((HR.out.below HB1.out).more HB1.out.size)).mono ?_
    rintro e w2 ⟨hb2, ht2⟩
    obtain rfl : e = .returned (.tuple #[.pointer none, .bool false]) := by
     rcases ht2 with ⟨h0, _⟩ | ⟨_, h0⟩
     ·
      rw [htb] at h0; cases h0
     ·
      exact h0
    have HB2 := Lib.hid (HB1.out.trans (hb2.mono HB1.out.size))
    clear hb2 ht2
    dsimp only
    repeat (first | go_skip | go_guarded | go_step)
    refine (HRF.out w2 HB2.out).mono ?_
    rintro e w3 ⟨rfl, hb3⟩
    dsimp only
    repeat (first | go_skip | go_guarded | go_step)
    go_ret
    exact ⟨rfl, hb3⟩
end Go.Proofs.YtoigpbajefkpoaaGreatDoor.parseParts

