/- Texts, packed: PaI PaJ PaK -/
import Derived.Test.YtoigpbajefkpoaaGreatDoorPyG
set_option linter.unusedVariables false
set_option linter.unusedSimpArgs false
namespace Go.Proofs.YtoigpbajefkpoaaGreatDoor
open Go Go.RowKit

theorem ruCs_at {L : List Rl} {Q : List RlA} {n i : Nat} (hL : L.length = n) (hQ : Q.length = n) (hi : i < n) : ∃ x q, L[i]? = some x ∧ Q[i]? = some q ∧ ∀ j v, (ruC (x, q))[j]? = some v → ((L.zip Q).flatMap ruC)[i * 6 + j]? = some v := by
  have h1 : Q[i]? = some (Q[i]'(by omega)) := List.getElem?_eq_getElem _
  have h2 : L[i]? = some (L[i]'(by omega)) := List.getElem?_eq_getElem _
  refine ⟨_, _, h2, h1, fun j v hj => ?_⟩
  have hz : (L.zip Q)[i]? = some (L[i]'(by omega), Q[i]'(by omega)) := by
    rw [List.getElem?_zip_eq_some]
    exact ⟨h2, h1⟩
  have hjl : j < 6 := by
    have := (List.getElem?_eq_some_iff.1 hj).1
    simpa [ruC] using this
  have hl : ∀ x : Rl × RlA, (ruC x).length = 6 := fun _ => rfl
  rw [flat_at ruC 6 hl hz j hjl, hj]
theorem RdRs.at_ {w : World} {B n : Nat} {A : Option Addr} {Q : List RlA} {L : List Rl} (h : RdRs w B A n Q L) {i : Nat} (hi : i < n) :
    ∃ (b o : Nat) (sd : Bool) (tm : Tm) (p : UInt32) (l : List Tm) (M : List Co) (Ai : Option Addr) (ni ci : Nat) (Bi : Option Addr) (mi di : Nat) (Ri : List SlA), A = some ⟨b, o, none⟩ ∧ b < B ∧ L[i]? = some ((sd, tm, (p, l)), M) ∧ w.cell? ⟨b, o + i * 6, none⟩ = some (.bool sd) ∧ w.cell? ⟨b, o + i * 6 + 1, none⟩ = some (.bool tm.1) ∧ w.cell? ⟨b, o + i * 6 + 2, none⟩ = some (nv tm.2) ∧ w.cell? ⟨b, o + i * 6 + 3, none⟩ = some (nv p) ∧ w.cell? ⟨b, o + i * 6 + 4, none⟩ = some (.slice Ai ni ci) ∧ w.cell? ⟨b, o + i * 6 + 5, none⟩ = some (.slice Bi mi di) ∧ RdT w B Ai ni l ∧ RdK w B Bi mi Ri M := by
  obtain ⟨b, o, e, hb, hc⟩ := h.top.2 (by omega)
  obtain ⟨x, q, hx, hq, hf⟩ := ruCs_at h.lenL h.lenQ hi
  obtain ⟨⟨sd, tm, p, l⟩, M⟩ := x
  obtain ⟨⟨Ai, ni, ci⟩, ⟨Bi, mi, di⟩, Ri⟩ := q
  have hr := h.row i _ _ hq hx
  refine ⟨b, o, sd, tm, p, l, M, Ai, ni, ci, Bi, mi, di, Ri, e, hb, hx, ?_, ?_, ?_, ?_, ?_, ?_, hr.1, hr.2⟩
  · exact hc _ _ (hf 0 _ rfl)
  · exact hc _ _ (hf 1 _ rfl)
  · exact hc _ _ (hf 2 _ rfl)
  · exact hc _ _ (hf 3 _ rfl)
  · exact hc _ _ (hf 4 _ rfl)
  · exact hc _ _ (hf 5 _ rfl)
/-- Rules of no great length. -/
def smallR (rs : List Rl) : Prop := ∀ r ∈ rs, r.1.2.2.2.length ≤ 1000 ∧ r.2.length ≤ 1000 ∧ ∀ x ∈ r.2, x.2.2.2.2.length ≤ 1000

set_option maxRecDepth 100000 in
set_option maxHeartbeats 8000000 in
theorem rSame8_any (A : Option Addr) (n c : Nat) (Q : List RlA) (rs : List Rl) (A' : Option Addr) (n' c' : Nat) (Q' : List RlA) (rs' : List Rl) (w : World) (h : RdRs w w.heap.size A n Q rs) (h' : RdRs w w.heap.size A' n' Q' rs') (hn : n ≤ 1000000) (hk : smallR rs) :
    Calls Tryz.prog 13 #[.slice A n c, .slice A' n' c'] w fun e w' => e = .returned (.bool (decide (rs = rs'))) ∧ Below w.heap.size w w' := by
  have hl := h.lenL
  have hl' := h'.lenL
  have H := Lib.hid h
  have H' := Lib.hid h'
  have HL := Lib.hid hl
  have HL' := Lib.hid hl'
  clear h h' hl hl'
  by_cases hnn : n = n'
  · subst hnn
    have hd : ((n : Int) != (n : Int)) = false := by simp
    go_enter Tryz.func13, Tryz.ntmps13
    repeat (first | go_skip | go_guarded | go_step)
    go_loopw [5] (fun p wr => ∃ i : Nat, i ≤ n ∧ p = .int .i64 (i : Int) ∧ rs.take i = rs'.take i ∧ Below w.heap.size w wr) (fun p _ => n - (intOf p).toNat)
    case atStart => exact ⟨0, by omega, rfl, rfl, Below.refl _ _⟩
    case round =>
      obtain ⟨i, hi, rfl, htk, hbr⟩ := hrel
      have HTK := Lib.hid htk
      have HBR := Lib.hid hbr
      have hws := hbr.size
      clear htk hbr
      by_cases hlt : i < n
      · have hci : (i : Int) < (n : Int) := by omega
        obtain ⟨b, o, sd, tm, p, l, M, Ai, ni, ci, Bi, mi, di, Ri, rfl, hbb, hx, q0, q1, q2, q3, q4, q5, hta, hka⟩ := H.out.at_ hlt
        obtain ⟨b2, o2, sd2, tm2, p2, l2, M2, Ai2, ni2, ci2, Bi2, mi2, di2, Ri2, rfl, hbb2, hx2, v0, v1, v2, v3, v4, v5, hta2, hka2⟩ := H'.out.at_ hlt
        have Hx0 := Lib.hid ((HBR.out.cell hbb).trans q0)
        have Hx1 := Lib.hid ((HBR.out.cell hbb).trans q1)
        have Hx2 := Lib.hid ((HBR.out.cell hbb).trans q2)
        have Hx3 := Lib.hid ((HBR.out.cell hbb).trans q3)
        have Hx4 := Lib.hid ((HBR.out.cell hbb).trans q4)
        have Hx5 := Lib.hid ((HBR.out.cell hbb).trans q5)
        have Hy0 := Lib.hid ((HBR.out.cell hbb2).trans v0)
        have Hy1 := Lib.hid ((HBR.out.cell hbb2).trans v1)
        have Hy2 := Lib.hid ((HBR.out.cell hbb2).trans v2)
        have Hy3 := Lib.hid ((HBR.out.cell hbb2).trans v3)
        have Hy4 := Lib.hid ((HBR.out.cell hbb2).trans v4)
        have Hy5 := Lib.hid ((HBR.out.cell hbb2).trans v5)
        have HS := Lib.hid (fun (V : World) (hV : Below wr.heap.size wr V) => rSameRule_any sd tm p Ai ni ci l Bi mi di Ri M sd2 tm2 p2 Ai2 ni2 ci2 l2 Bi2 mi2 di2 Ri2 M2 V (((hta.below HBR.out).more hws).below hV |>.more hV.size) (((hka.below HBR.out).more hws).below hV |>.more hV.size) (((hta2.below HBR.out).more hws).below hV |>.more hV.size) (((hka2.below HBR.out).more hws).below hV |>.more hV.size) (by
          have := (hk _ (List.mem_of_getElem? hx)).1
          have h2 := rdT_len hta
          dsimp only at this
          omega) (by
          have := (hk _ (List.mem_of_getElem? hx)).2.1
          have h2 := hka.lenL
          dsimp only at this
          omega) (fun y hy => by
          have := (hk _ (List.mem_of_getElem? hx)).2.2 y hy
          omega))
        have HX := Lib.hid hx
        have HX2 := Lib.hid hx2
        have hbw : b < wr.heap.size := by omega
        have hbw2 : b2 < wr.heap.size := by omega
        clear hx hx2 q0 q1 q2 q3 q4 q5 v0 v1 v2 v3 v4 v5 hta hka hta2 hka2
        cases hq : decide ((((sd, tm, (p, l)), M) : Rl) = ((sd2, tm2, (p2, l2)), M2)) with
        | true =>
          have HQ := Lib.hid (of_decide_eq_true hq)
          rw [hq] at HS
          clear hq
          repeat (first | go_skip | go_guarded | go_step)
          refine wp_region_held_drew (S := fun V => Below wr.heap.size wr V) (by kernel_rfl) ?_ (fun hHeld => ?_)
          · exact (Below.refl _ wr).drew
          refine wpAnyH_take (i := 0) (oi := ?p1) (v := ?v1) ?a1 (by kernel_rfl) ?b1 ?c1 ?q1 ?y1 hHeld ?z1
          case a1 => (simp only [List.getElem?_toArray, List.getElem?_cons_succ, List.getElem?_cons_zero]; exact rfl)
          case b1 => kernel_rfl
          case c1 => kernel_rfl
          case q1 => exact fun _ _ _ h => h
          case y1 =>
            refine Or.inl ⟨by rfl, ?_⟩
            intro V hSV
            go_simp
            (try with_reducible rfl)
          try simp only [Act.put, List.setIfInBounds_toArray, List.set_cons_zero, List.set_cons_succ]
          refine wpAnyH_take (i := 1) (oi := ?p2) (v := ?v2) ?a2 (by kernel_rfl) ?b2 ?c2 ?q2 ?y2 hHeld ?z2
          case a2 => (simp only [List.getElem?_toArray, List.getElem?_cons_succ, List.getElem?_cons_zero]; exact rfl)
          case b2 => kernel_rfl
          case c2 => kernel_rfl
          case q2 => exact fun _ _ _ h => h
          case y2 =>
            refine Or.inl ⟨by rfl, ?_⟩
            intro V hSV
            go_simp
            (try with_reducible rfl)
          try simp only [Act.put, List.setIfInBounds_toArray, List.set_cons_zero, List.set_cons_succ]
          refine wpAnyH_take (i := 2) (oi := ?p3) (v := ?v3) ?a3 (by kernel_rfl) ?b3 ?c3 ?q3 ?y3 hHeld ?z3
          case a3 => (simp only [List.getElem?_toArray, List.getElem?_cons_succ, List.getElem?_cons_zero]; exact rfl)
          case b3 => kernel_rfl
          case c3 => kernel_rfl
          case q3 => exact fun _ _ _ h => h
          case y3 =>
            refine Or.inl ⟨by rfl, ?_⟩
            intro V hSV
            go_simp
            (try with_reducible rfl)
          try simp only [Act.put, List.setIfInBounds_toArray, List.set_cons_zero, List.set_cons_succ]
          refine wpAnyH_take (i := 3) (oi := ?p4) (v := ?v4) ?a4 (by kernel_rfl) ?b4 ?c4 ?q4 ?y4 hHeld ?z4
          case a4 => (simp only [List.getElem?_toArray, List.getElem?_cons_succ, List.getElem?_cons_zero]; exact rfl)
          case b4 => kernel_rfl
          case c4 => kernel_rfl
          case q4 => exact fun _ _ _ h => h
          case y4 =>
            refine Or.inl ⟨by rfl, ?_⟩
            intro V hSV
            have x0 : V.cell? ⟨b, o + i * 6, none⟩ = some (.bool sd) := by rw [hSV.cell hbw]; exact Hx0.out
            have x1 : V.cell? ⟨b, o + i * 6 + 1, none⟩ = some (.bool tm.1) := by rw [hSV.cell hbw]; exact Hx1.out
            have x2 : V.cell? ⟨b, o + i * 6 + 2, none⟩ = some (nv tm.2) := by rw [hSV.cell hbw]; exact Hx2.out
            have x3 : V.cell? ⟨b, o + i * 6 + 3, none⟩ = some (nv p) := by rw [hSV.cell hbw]; exact Hx3.out
            have x4 : V.cell? ⟨b, o + i * 6 + 4, none⟩ = some (.slice Ai ni ci) := by rw [hSV.cell hbw]; exact Hx4.out
            have x5 : V.cell? ⟨b, o + i * 6 + 5, none⟩ = some (.slice Bi mi di) := by rw [hSV.cell hbw]; exact Hx5.out
            go_simp
            (try with_reducible rfl)
          try simp only [Act.put, List.setIfInBounds_toArray, List.set_cons_zero, List.set_cons_succ]
          refine wpAnyH_take (i := 4) (oi := ?p5) (v := ?v5) ?a5 (by kernel_rfl) ?b5 ?c5 ?q5 ?y5 hHeld ?z5
          case a5 => (simp only [List.getElem?_toArray, List.getElem?_cons_succ, List.getElem?_cons_zero]; exact rfl)
          case b5 => kernel_rfl
          case c5 => kernel_rfl
          case q5 => exact fun _ _ _ h => h
          case y5 =>
            refine Or.inl ⟨by rfl, ?_⟩
            intro V hSV
            go_simp
            (try with_reducible rfl)
          try simp only [Act.put, List.setIfInBounds_toArray, List.set_cons_zero, List.set_cons_succ]
          refine wpAnyH_take (i := 5) (oi := ?p6) (v := ?v6) ?a6 (by kernel_rfl) ?b6 ?c6 ?q6 ?y6 hHeld ?z6
          case a6 => (simp only [List.getElem?_toArray, List.getElem?_cons_succ, List.getElem?_cons_zero]; exact rfl)
          case b6 => kernel_rfl
          case c6 => kernel_rfl
          case q6 => exact fun _ _ _ h => h
          case y6 =>
            refine Or.inl ⟨by rfl, ?_⟩
            intro V hSV
            go_simp
            (try with_reducible rfl)
          try simp only [Act.put, List.setIfInBounds_toArray, List.set_cons_zero, List.set_cons_succ]
          refine wpAnyH_take (i := 6) (oi := ?p7) (v := ?v7) ?a7 (by kernel_rfl) ?b7 ?c7 ?q7 ?y7 hHeld ?z7
          case a7 => (simp only [List.getElem?_toArray, List.getElem?_cons_succ, List.getElem?_cons_zero]; exact rfl)
          case b7 => kernel_rfl
          case c7 => kernel_rfl
          case q7 => exact fun _ _ _ h => h
          case y7 =>
            refine Or.inl ⟨by rfl, ?_⟩
            intro V hSV
            go_simp
            (try with_reducible rfl)
          try simp only [Act.put, List.setIfInBounds_toArray, List.set_cons_zero, List.set_cons_succ]
          refine wpAnyH_take (i := 7) (oi := ?p8) (v := ?v8) ?a8 (by kernel_rfl) ?b8 ?c8 ?q8 ?y8 hHeld ?z8
          case a8 => (simp only [List.getElem?_toArray, List.getElem?_cons_succ, List.getElem?_cons_zero]; exact rfl)
          case b8 => kernel_rfl
          case c8 => kernel_rfl
          case q8 => exact fun _ _ _ h => h
          case y8 =>
            refine Or.inl ⟨by rfl, ?_⟩
            intro V hSV
            have y0 : V.cell? ⟨b2, o2 + i * 6, none⟩ = some (.bool sd2) := by rw [hSV.cell hbw2]; exact Hy0.out
            have y1 : V.cell? ⟨b2, o2 + i * 6 + 1, none⟩ = some (.bool tm2.1) := by rw [hSV.cell hbw2]; exact Hy1.out
            have y2 : V.cell? ⟨b2, o2 + i * 6 + 2, none⟩ = some (nv tm2.2) := by rw [hSV.cell hbw2]; exact Hy2.out
            have y3 : V.cell? ⟨b2, o2 + i * 6 + 3, none⟩ = some (nv p2) := by rw [hSV.cell hbw2]; exact Hy3.out
            have y4 : V.cell? ⟨b2, o2 + i * 6 + 4, none⟩ = some (.slice Ai2 ni2 ci2) := by rw [hSV.cell hbw2]; exact Hy4.out
            have y5 : V.cell? ⟨b2, o2 + i * 6 + 5, none⟩ = some (.slice Bi2 mi2 di2) := by rw [hSV.cell hbw2]; exact Hy5.out
            go_simp
            (try with_reducible rfl)
          try simp only [Act.put, List.setIfInBounds_toArray, List.set_cons_zero, List.set_cons_succ]
          refine wpAnyH_ready (rs := [8]) (by kernel_rfl) (by simp) ?_
          refine AllReadyH.cons (o := ?od9) ?hod9 (fun K hK => ?kd9) ?md9
          case hod9 => (simp only [List.getElem?_toArray, List.getElem?_cons_succ, List.getElem?_cons_zero]; exact rfl)
          case kd9 =>
            go_simp
            refine (HS.out _ hHeld).mono ?_
            rintro e V ⟨rfl, hb9⟩
            (try dsimp only)
            refine hK.out _ _ ?_ (fun hHeld => ?_)
            · exact Below.trans hHeld (hb9.mono (Below.size hHeld))
            clear hK K
            try simp only [Act.put, List.setIfInBounds_toArray, List.set_cons_zero, List.set_cons_succ]
            refine wpAnyH_take (i := 9) (oi := ?p10) (v := ?v10) ?a10 (by kernel_rfl) ?b10 ?c10 ?q10 ?y10 hHeld ?z10
            case a10 => (simp only [List.getElem?_toArray, List.getElem?_cons_succ, List.getElem?_cons_zero]; exact rfl)
            case b10 => kernel_rfl
            case c10 => kernel_rfl
            case q10 => exact fun _ _ _ h => h
            case y10 =>
              refine Or.inl ⟨by rfl, ?_⟩
              intro V hSV
              go_simp
              (try with_reducible rfl)
            try simp only [Act.put, List.setIfInBounds_toArray, List.set_cons_zero, List.set_cons_succ]
            refine wpAnyH_done (by kernel_rfl) ?_ _
            have HV := Lib.hid (show Below wr.heap.size wr _ from hHeld)
            clear hHeld hb9
            repeat (first | go_skip | go_guarded | go_step)
            go_roundw
            case rel => exact ⟨i + 1, by omega, by go_num, by rw [List.take_add_one, List.take_add_one, HTK.out, HX.out, HX2.out, HQ.out], HBR.out.trans (HV.out.mono hws)⟩
            case measure => simp [intOf] <;> omega
          exact AllReadyH.nil
        | false =>
          have HQ := Lib.hid (of_decide_eq_false hq)
          rw [hq] at HS
          clear hq
          repeat (first | go_skip | go_guarded | go_step)
          refine wp_region_held_drew (S := fun V => Below wr.heap.size wr V) (by kernel_rfl) ?_ (fun hHeld => ?_)
          · exact (Below.refl _ wr).drew
          refine wpAnyH_take (i := 0) (oi := ?p11) (v := ?v11) ?a11 (by kernel_rfl) ?b11 ?c11 ?q11 ?y11 hHeld ?z11
          case a11 => (simp only [List.getElem?_toArray, List.getElem?_cons_succ, List.getElem?_cons_zero]; exact rfl)
          case b11 => kernel_rfl
          case c11 => kernel_rfl
          case q11 => exact fun _ _ _ h => h
          case y11 =>
            refine Or.inl ⟨by rfl, ?_⟩
            intro V hSV
            go_simp
            (try with_reducible rfl)
          try simp only [Act.put, List.setIfInBounds_toArray, List.set_cons_zero, List.set_cons_succ]
          refine wpAnyH_take (i := 1) (oi := ?p12) (v := ?v12) ?a12 (by kernel_rfl) ?b12 ?c12 ?q12 ?y12 hHeld ?z12
          case a12 => (simp only [List.getElem?_toArray, List.getElem?_cons_succ, List.getElem?_cons_zero]; exact rfl)
          case b12 => kernel_rfl
          case c12 => kernel_rfl
          case q12 => exact fun _ _ _ h => h
          case y12 =>
            refine Or.inl ⟨by rfl, ?_⟩
            intro V hSV
            go_simp
            (try with_reducible rfl)
          try simp only [Act.put, List.setIfInBounds_toArray, List.set_cons_zero, List.set_cons_succ]
          refine wpAnyH_take (i := 2) (oi := ?p13) (v := ?v13) ?a13 (by kernel_rfl) ?b13 ?c13 ?q13 ?y13 hHeld ?z13
          case a13 => (simp only [List.getElem?_toArray, List.getElem?_cons_succ, List.getElem?_cons_zero]; exact rfl)
          case b13 => kernel_rfl
          case c13 => kernel_rfl
          case q13 => exact fun _ _ _ h => h
          case y13 =>
            refine Or.inl ⟨by rfl, ?_⟩
            intro V hSV
            go_simp
            (try with_reducible rfl)
          try simp only [Act.put, List.setIfInBounds_toArray, List.set_cons_zero, List.set_cons_succ]
          refine wpAnyH_take (i := 3) (oi := ?p14) (v := ?v14) ?a14 (by kernel_rfl) ?b14 ?c14 ?q14 ?y14 hHeld ?z14
          case a14 => (simp only [List.getElem?_toArray, List.getElem?_cons_succ, List.getElem?_cons_zero]; exact rfl)
          case b14 => kernel_rfl
          case c14 => kernel_rfl
          case q14 => exact fun _ _ _ h => h
          case y14 =>
            refine Or.inl ⟨by rfl, ?_⟩
            intro V hSV
            have x0 : V.cell? ⟨b, o + i * 6, none⟩ = some (.bool sd) := by rw [hSV.cell hbw]; exact Hx0.out
            have x1 : V.cell? ⟨b, o + i * 6 + 1, none⟩ = some (.bool tm.1) := by rw [hSV.cell hbw]; exact Hx1.out
            have x2 : V.cell? ⟨b, o + i * 6 + 2, none⟩ = some (nv tm.2) := by rw [hSV.cell hbw]; exact Hx2.out
            have x3 : V.cell? ⟨b, o + i * 6 + 3, none⟩ = some (nv p) := by rw [hSV.cell hbw]; exact Hx3.out
            have x4 : V.cell? ⟨b, o + i * 6 + 4, none⟩ = some (.slice Ai ni ci) := by rw [hSV.cell hbw]; exact Hx4.out
            have x5 : V.cell? ⟨b, o + i * 6 + 5, none⟩ = some (.slice Bi mi di) := by rw [hSV.cell hbw]; exact Hx5.out
            go_simp
            (try with_reducible rfl)
          try simp only [Act.put, List.setIfInBounds_toArray, List.set_cons_zero, List.set_cons_succ]
          refine wpAnyH_take (i := 4) (oi := ?p15) (v := ?v15) ?a15 (by kernel_rfl) ?b15 ?c15 ?q15 ?y15 hHeld ?z15
          case a15 => (simp only [List.getElem?_toArray, List.getElem?_cons_succ, List.getElem?_cons_zero]; exact rfl)
          case b15 => kernel_rfl
          case c15 => kernel_rfl
          case q15 => exact fun _ _ _ h => h
          case y15 =>
            refine Or.inl ⟨by rfl, ?_⟩
            intro V hSV
            go_simp
            (try with_reducible rfl)
          try simp only [Act.put, List.setIfInBounds_toArray, List.set_cons_zero, List.set_cons_succ]
          refine wpAnyH_take (i := 5) (oi := ?p16) (v := ?v16) ?a16 (by kernel_rfl) ?b16 ?c16 ?q16 ?y16 hHeld ?z16
          case a16 => (simp only [List.getElem?_toArray, List.getElem?_cons_succ, List.getElem?_cons_zero]; exact rfl)
          case b16 => kernel_rfl
          case c16 => kernel_rfl
          case q16 => exact fun _ _ _ h => h
          case y16 =>
            refine Or.inl ⟨by rfl, ?_⟩
            intro V hSV
            go_simp
            (try with_reducible rfl)
          try simp only [Act.put, List.setIfInBounds_toArray, List.set_cons_zero, List.set_cons_succ]
          refine wpAnyH_take (i := 6) (oi := ?p17) (v := ?v17) ?a17 (by kernel_rfl) ?b17 ?c17 ?q17 ?y17 hHeld ?z17
          case a17 => (simp only [List.getElem?_toArray, List.getElem?_cons_succ, List.getElem?_cons_zero]; exact rfl)
          case b17 => kernel_rfl
          case c17 => kernel_rfl
          case q17 => exact fun _ _ _ h => h
          case y17 =>
            refine Or.inl ⟨by rfl, ?_⟩
            intro V hSV
            go_simp
            (try with_reducible rfl)
          try simp only [Act.put, List.setIfInBounds_toArray, List.set_cons_zero, List.set_cons_succ]
          refine wpAnyH_take (i := 7) (oi := ?p18) (v := ?v18) ?a18 (by kernel_rfl) ?b18 ?c18 ?q18 ?y18 hHeld ?z18
          case a18 => (simp only [List.getElem?_toArray, List.getElem?_cons_succ, List.getElem?_cons_zero]; exact rfl)
          case b18 => kernel_rfl
          case c18 => kernel_rfl
          case q18 => exact fun _ _ _ h => h
          case y18 =>
            refine Or.inl ⟨by rfl, ?_⟩
            intro V hSV
            have y0 : V.cell? ⟨b2, o2 + i * 6, none⟩ = some (.bool sd2) := by rw [hSV.cell hbw2]; exact Hy0.out
            have y1 : V.cell? ⟨b2, o2 + i * 6 + 1, none⟩ = some (.bool tm2.1) := by rw [hSV.cell hbw2]; exact Hy1.out
            have y2 : V.cell? ⟨b2, o2 + i * 6 + 2, none⟩ = some (nv tm2.2) := by rw [hSV.cell hbw2]; exact Hy2.out
            have y3 : V.cell? ⟨b2, o2 + i * 6 + 3, none⟩ = some (nv p2) := by rw [hSV.cell hbw2]; exact Hy3.out
            have y4 : V.cell? ⟨b2, o2 + i * 6 + 4, none⟩ = some (.slice Ai2 ni2 ci2) := by rw [hSV.cell hbw2]; exact Hy4.out
            have y5 : V.cell? ⟨b2, o2 + i * 6 + 5, none⟩ = some (.slice Bi2 mi2 di2) := by rw [hSV.cell hbw2]; exact Hy5.out
            go_simp
            (try with_reducible rfl)
          try simp only [Act.put, List.setIfInBounds_toArray, List.set_cons_zero, List.set_cons_succ]
          refine wpAnyH_ready (rs := [8]) (by kernel_rfl) (by simp) ?_
          refine AllReadyH.cons (o := ?od19) ?hod19 (fun K hK => ?kd19) ?md19
          case hod19 => (simp only [List.getElem?_toArray, List.getElem?_cons_succ, List.getElem?_cons_zero]; exact rfl)
          case kd19 =>
            go_simp
            refine (HS.out _ hHeld).mono ?_
            rintro e V ⟨rfl, hb9⟩
            (try dsimp only)
            refine hK.out _ _ ?_ (fun hHeld => ?_)
            · exact Below.trans hHeld (hb9.mono (Below.size hHeld))
            clear hK K
            try simp only [Act.put, List.setIfInBounds_toArray, List.set_cons_zero, List.set_cons_succ]
            refine wpAnyH_take (i := 9) (oi := ?p20) (v := ?v20) ?a20 (by kernel_rfl) ?b20 ?c20 ?q20 ?y20 hHeld ?z20
            case a20 => (simp only [List.getElem?_toArray, List.getElem?_cons_succ, List.getElem?_cons_zero]; exact rfl)
            case b20 => kernel_rfl
            case c20 => kernel_rfl
            case q20 => exact fun _ _ _ h => h
            case y20 =>
              refine Or.inl ⟨by rfl, ?_⟩
              intro V hSV
              go_simp
              (try with_reducible rfl)
            try simp only [Act.put, List.setIfInBounds_toArray, List.set_cons_zero, List.set_cons_succ]
            refine wpAnyH_done (by kernel_rfl) ?_ _
            have HV := Lib.hid (show Below wr.heap.size wr _ from hHeld)
            clear hHeld hb9
            repeat (first | go_skip | go_guarded | go_step)
            go_ret
            exact ⟨by
              rw [decide_eq_false (fun e => HQ.out (by have h1 := HX.out; rw [e, HX2.out] at h1; exact (Option.some.inj h1).symm))]; rfl, HBR.out.trans (HV.out.mono hws)⟩
          exact AllReadyH.nil
      · obtain rfl : i = n := by omega
        have HE := Lib.hid (show rs = rs' by
          have h := HTK.out
          rwa [List.take_of_length_le (by rw [HL.out]; omega), List.take_of_length_le (by rw [HL'.out]; omega)] at h)
        repeat (first | go_skip | go_guarded | go_step)
        go_ret
        exact ⟨by rw [decide_eq_true HE.out]; rfl, HBR.out⟩
  · have hd : ((n : Int) != (n' : Int)) = true := by rw [bne_iff_ne]; omega
    have HE := Lib.hid (show ¬ rs = rs' from fun e => hnn (by rw [← HL.out, ← HL'.out, e]))
    go_enter Tryz.func13, Tryz.ntmps13
    repeat (first | go_skip | go_guarded | go_step)
    go_ret
    exact ⟨by rw [decide_eq_false HE.out]; rfl, Below.refl _ _⟩
/-! ### names -/
def namesB (l : List ByteArray) : Bool := decide ((ofL [] l).2 = 0) && decide ((ofL [] l).1.length = l.length)
theorem may_ok8 : MayOk := fun s W hs => may_any s W hs
theorem putL_two (l : List ByteArray) (s : ByteArray) : (putL l s).1 = l ∨ (putL l s).1 = l ++ [s] := by
  unfold putL
  split
  · exact Or.inl rfl
  · split
    · exact Or.inl rfl
    · split
      · exact Or.inl rfl
      · exact Or.inr rfl
theorem ofL_len : ∀ (r acc : List ByteArray), (ofL acc r).2 = 0 → (ofL acc r).1.length ≤ acc.length + r.length ∧ ((ofL acc r).1.length = acc.length + r.length → (ofL acc r).1 = acc ++ r)
  | [], acc, h => by simp [ofL]
  | s :: r, acc, h => by
    rw [ofL] at h ⊢
    by_cases hp : (putL acc s).2.2 = 0
    · rw [if_pos hp] at h ⊢
      obtain ⟨h1, h2⟩ := ofL_len r _ h
      rcases putL_two acc s with e | e
      · rw [e] at h1 h2 ⊢
        simp only [List.length_cons] at *
        exact ⟨by omega, fun h3 => by omega⟩
      · rw [e] at h1 h2 ⊢
        simp only [List.length_append, List.length_cons, List.length_nil] at *
        refine ⟨by omega, fun h3 => ?_⟩
        rw [h2 (by omega)]
        simp
    · rw [if_neg hp] at h
      exact absurd h hp
theorem ofL_good8 : ∀ (r acc : List ByteArray) (n : Nat), Good n acc → n + r.length ≤ 4096 → (ofL acc r).2 = 0 → Good (n + r.length) (ofL acc r).1
  | [], acc, n, h, _, _ => by simpa [ofL] using h
  | s :: r, acc, n, h, hn, h0 => by
    rw [ofL] at h0 ⊢
    simp only [List.length_cons] at hn ⊢
    by_cases hp : (putL acc s).2.2 = 0
    · rw [if_pos hp] at h0 ⊢
      have := ofL_good8 r _ (n + 1) (putL_good s h (by omega)) (by omega) h0
      rwa [show n + 1 + r.length = n + (r.length + 1) by omega] at this
    · rw [if_neg hp] at h0
      exact absurd h0 hp
theorem names_good {l : List ByteArray} (h : namesB l = true) (hl : l.length ≤ 4096) : (ofL [] l).1 = l ∧ (ofL [] l).2 = 0 ∧ Good l.length l := by
  unfold namesB at h
  rw [Bool.and_eq_true] at h
  have h1 := of_decide_eq_true h.1
  have h2 := of_decide_eq_true h.2
  have h3 := (ofL_len l [] h1).2 (by simpa using h2)
  rw [List.nil_append] at h3
  refine ⟨h3, h1, ?_⟩
  have := ofL_good8 l [] 0 (Good.nil 0) (by omega) h1
  rwa [h3, Nat.zero_add] at this

set_option maxRecDepth 100000 in
set_option maxHeartbeats 8000000 in
theorem rNames8_any (A : Option Addr) (n c : Nat) (l : List ByteArray) (w : World) (hr : Rd w w.heap.size 1 A n (l.map sv)) (hn : n ≤ 1000) (hs : ∀ s ∈ l, s.size ≤ 1099511627776) :
    Calls Tryz.prog 27 #[.slice A n c] w fun e w' => e = .returned (.bool (namesB l)) ∧ Below w.heap.size w w' := by
  have hl : l.length = n := by simpa using hr.len1
  go_enter Tryz.func27, Tryz.ntmps27
  repeat (first | go_skip | go_guarded | go_step)
  refine (rOf_any A n c l w hr (by omega) hs).mono ?_
  rintro e w1 ⟨hb, ⟨h0, X, rfl, hrt, hX⟩ | ⟨h0, rfl⟩⟩
  · obtain ⟨A2, c2, hb2, ho2, _⟩ := hrt
    have q0 : w1.cell? ⟨w.heap.size, 0, none⟩ = some (.slice A2 (ofL [] l).1.length c2) := hb2.cell 0
    obtain ⟨k, hk⟩ : ∃ k, k = (ofL [] l).1.length := ⟨_, rfl⟩
    rw [← hk] at q0
    have HB := Lib.hid hb
    obtain ⟨g, hg⟩ : ∃ g, g = w.heap.size := ⟨_, rfl⟩
    rw [← hg] at q0 ⊢
    have HG := Lib.hid hg
    by_cases hkn : k = n
    · have dk : ((k : Int) == (n : Int)) = true := by rw [hkn]; simp
      have HF := Lib.hid (show namesB l = true by unfold namesB; rw [decide_eq_true h0, decide_eq_true (by rw [← hk, hl]; exact hkn)]; rfl)
      clear hb hb2 ho2 hk h0 hkn hg hr hX
      dsimp only
      repeat (first | go_skip | go_guarded | go_step)
      go_ret
      exact ⟨by rw [HF.out]; rfl, HB.out⟩
    · have dk : ((k : Int) == (n : Int)) = false := by rw [beq_eq_false_iff_ne]; omega
      have HF := Lib.hid (show namesB l = false by unfold namesB; rw [decide_eq_false (p := (ofL [] l).1.length = l.length) (by rw [← hk, hl]; exact hkn), Bool.and_false])
      clear hb hb2 ho2 hk h0 hkn hg hr hX
      dsimp only
      repeat (first | go_skip | go_guarded | go_step)
      go_ret
      exact ⟨by rw [HF.out]; rfl, HB.out⟩
  · obtain ⟨z, hz⟩ : ∃ z, z = (ofL [] l).2 := ⟨_, rfl⟩
    rw [← hz] at h0 ⊢
    have dz : ((z : Int) == 0) = false := by rw [beq_eq_false_iff_ne]; omega
    have HF := Lib.hid (show namesB l = false by unfold namesB; rw [decide_eq_false (by rw [← hz]; exact h0), Bool.false_and])
    have HB := Lib.hid hb
    clear hb hz h0 hr
    dsimp only
    repeat (first | go_skip | go_guarded | go_step)
    go_ret
    exact ⟨by rw [HF.out]; rfl, HB.out⟩
/-- May these stand in a table of the statements? -/
def tableB (l : List ByteArray) : Bool := decide (l.length ≤ 200) && l.all (fun s => decide (s.size ≤ 100)) && namesB l

set_option maxRecDepth 100000 in
set_option maxHeartbeats 8000000 in
theorem table_any (A : Option Addr) (n c : Nat) (l : List ByteArray) (w : World) (hr : Rd w w.heap.size 1 A n (l.map sv)) :
    Calls Tryz.prog 10 #[.slice A n c] w fun e w' => Below w.heap.size w w' ∧
      ((tableB l = true ∧ ∃ g F, e = .returned (.tuple #[.pointer (some ⟨g, 0, none⟩), .bool true]) ∧ Tb w' g F l ∧ Good 200 l ∧ (∀ s ∈ l, s.size ≤ 100) ∧ ∀ k, F k → w.heap.size ≤ k) ∨
       (tableB l = false ∧ e = .returned (.tuple #[.pointer none, .bool false]))) := by
  have hl : l.length = n := by simpa using hr.len1
  have HL := Lib.hid hl
  have HR := Lib.hid hr
  by_cases h200 : 200 < n
  · have d : decide ((200 : Int) < (n : Int)) = true := by simp; omega
    have HF := Lib.hid (show tableB l = false by unfold tableB; rw [decide_eq_false (by omega)]; rfl)
    clear hr hl
    go_enter Tryz.func10, Tryz.ntmps10
    repeat (first | go_skip | go_guarded | go_step)
    go_ret2
    exact ⟨Below.refl _ _, Or.inr ⟨HF.out, rfl⟩⟩
  · have d : decide ((200 : Int) < (n : Int)) = false := by simp; omega
    clear hr hl
    go_enter Tryz.func10, Tryz.ntmps10
    repeat (first | go_skip | go_guarded | go_step)
    go_loop [4] (fun p => ∃ i : Nat, i ≤ n ∧ p = .int .i64 (i : Int) ∧ (l.take i).all (fun s => decide (s.size ≤ 100)) = true) (fun p => n - (intOf p).toNat)
    case atStart => exact ⟨0, by omega, rfl, rfl⟩
    case round =>
      obtain ⟨i, hi, rfl, hal⟩ := hrel
      have HAL := Lib.hid hal
      clear hal
      by_cases hlt : i < n
      · have hci : (i : Int) < (n : Int) := by omega
        obtain ⟨b, o, u, hA, hbb, hu, hc⟩ := HR.out.at1 hlt
        subst hA
        obtain ⟨x, hx⟩ : ∃ x, l[i]? = some x := ⟨_, List.getElem?_eq_getElem (by rw [HL.out]; exact hlt)⟩
        rw [List.getElem?_map, hx] at hu
        simp only [Option.map_some, Option.some.injEq] at hu
        subst hu
        have HX := Lib.hid hx
        clear hx
        by_cases hs : 100 < x.size
        · have ds : decide ((100 : Int) < (x.size : Int)) = true := by simp; omega
          have HF := Lib.hid (show tableB l = false by
            unfold tableB
            have : l.all (fun s => decide (s.size ≤ 100)) = false := by
              rw [List.all_eq_false]
              exact ⟨x, List.mem_of_getElem? HX.out, by simp; omega⟩
            rw [this, Bool.and_false, Bool.false_and])
          clear hs
          repeat (first | go_skip | go_guarded | go_step)
          go_ret2
          exact ⟨Below.refl _ _, Or.inr ⟨HF.out, rfl⟩⟩
        · have ds : decide ((100 : Int) < (x.size : Int)) = false := by simp; omega
          have hs' : x.size ≤ 100 := by omega
          clear hs
          repeat (first | go_skip | go_guarded | go_step)
          go_round
          case rel => exact ⟨i + 1, by omega, by go_num, by rw [List.take_add_one, HX.out]; simp only [Option.toList_some, List.all_append, HAL.out, List.all_cons, List.all_nil]; simp [hs']⟩
          case measure => simp [intOf] <;> omega
      · obtain rfl : i = n := by omega
        have hall : l.all (fun s => decide (s.size ≤ 100)) = true := by
          have h := HAL.out
          rwa [List.take_of_length_le (by rw [HL.out]; omega)] at h
        have hsz : ∀ s ∈ l, s.size ≤ 100 := fun s hs => of_decide_eq_true (List.all_eq_true.1 hall s hs)
        have HSZ := Lib.hid hsz
        have HTB := Lib.hid (show tableB l = namesB l by unfold tableB; rw [hall, decide_eq_true (by rw [HL.out]; omega)]; simp)
        clear hall hsz
        repeat (first | go_skip | go_guarded | go_step)
        refine (rNames8_any A i c l w HR.out (by omega) (fun s hs => by have := HSZ.out s hs; omega)).mono ?_
        rintro e w1 ⟨rfl, hb1⟩
        have HB1 := Lib.hid hb1
        clear hb1
        cases hnb : namesB l with
        | false =>
          have HNB := Lib.hid hnb
          dsimp only
          repeat (first | go_skip | go_guarded | go_step)
          go_ret2
          exact ⟨HB1.out, Or.inr ⟨by rw [HTB.out]; exact HNB.out, rfl⟩⟩
        | true =>
          have HNB := Lib.hid hnb
          obtain ⟨g1, g2, g3⟩ := names_good hnb (by rw [HL.out]; omega)
          have HG := Lib.hid (show Good 200 l from g3.mono (by rw [HL.out]; omega))
          have HG1 := Lib.hid g1
          have HG2 := Lib.hid g2
          clear g1 g2 g3 hnb
          dsimp only
          repeat (first | go_skip | go_guarded | go_step)
          refine (tOf may_ok8 A i c l w1 ((HR.out.below HB1.out).more HB1.out.size) (by omega) (fun s hs => by have := HSZ.out s hs; omega)).mono ?_
          rintro e w2 ⟨hb2, ⟨h0, g, F, rfl, htb, hF⟩ | ⟨h0, _⟩⟩
          · have HB2 := Lib.hid (HB1.out.trans (hb2.mono HB1.out.size))
            have HT := Lib.hid (show Tb w2 g F l by rw [HG1.out] at htb; exact htb)
            have HF := Lib.hid (show ∀ k, F k → w.heap.size ≤ k from fun k hk => Nat.le_trans HB1.out.size (hF k hk))
            clear hb2 h0 htb hF
            dsimp only
            repeat (first | go_skip | go_guarded | go_step)
            go_ret2
            exact ⟨HB2.out, Or.inl ⟨by rw [HTB.out]; exact HNB.out, g, F, rfl, HT.out, HG.out, HSZ.out, HF.out⟩⟩
          · exact absurd HG2.out h0
end Go.Proofs.YtoigpbajefkpoaaGreatDoor

set_option linter.unusedVariables false
set_option linter.unusedSimpArgs false
namespace Go.Proofs.YtoigpbajefkpoaaGreatDoor
open Go Go.RowKit

def ParseOk (P : World → Prop) : Prop := ∀ (g : Nat) (F : Nat → Prop) (l : List ByteArray) (s : ByteArray) (w : World), P w → Tb w g F l → Good 4096 l → s.size ≤ 200000 →
 Calls Tryz.prog 11 #[.pointer (some ⟨g, 0, none⟩), sv s] w fun e w' => ∃ (A : Option Addr) (n c : Nat) (Q : List RlA) (rs : List Rl) (ns : List ByteArray) (y z : Nat) (F' : Nat → Prop), e = .returned (.tuple #[.slice A n c, .int .i64 (y : Int), .int .i64 (z : Int)]) ∧ n ≤ c ∧ n ≤ 100000 ∧ (∀ w2, Turn (fun k => F' k ∨ k < w.heap.size) w' w2 → RdRs w2 w'.heap.size A n Q rs) ∧ Tb w' g F' ns ∧ Turn F w w' ∧ (∀ k, F' k → F k ∨ w.heap.size ≤ k) ∧ (rs, ns, y, z) = parseL l (tb s)
def PrintOk (P : World → Prop) : Prop := ∀ (g : Nat) (F : Nat → Prop) (l : List ByteArray) (A : Option Addr) (n c : Nat) (Q : List RlA) (rs : List Rl) (w : World), P w → Tb w g F l → Good 4096 l → RdRs w w.heap.size A n Q rs → n ≤ c → n ≤ 100000 → smallR rs → (printL l rs).1.length ≤ 1000000000 →
 Calls Tryz.prog 17 #[.pointer (some ⟨g, 0, none⟩), .slice A n c] w fun e w' => e = .returned (.tuple #[strV (printL l rs).1, .int .i64 ((printL l rs).2 : Int)]) ∧ Below w.heap.size w w'
def NilParseOk : Prop := ∀ (s : ByteArray) (w : World), s.size ≤ 200000 → Calls Tryz.prog 11 #[.pointer none, sv s] w fun e w' => ∃ (A : Option Addr) (c : Nat), e = .returned (.tuple #[.slice A 0 c, .int .i64 0, .int .i64 2]) ∧ Below w.heap.size w w'
def NilPrintOk : Prop := ∀ (A : Option Addr) (n c : Nat) (Q : List RlA) (rs : List Rl) (w : World), RdRs w w.heap.size A n Q rs → n ≤ c → n ≤ 100000 → smallR rs → Calls Tryz.prog 17 #[.pointer none, .slice A n c] w fun e w' => e = .returned (.tuple #[sv ⟨#[]⟩, .int .i64 2]) ∧ Below w.heap.size w w'
/-- All of it. P: what is asked of the world (the package-level variables that are read); it stays while what is old stays. -/
structure ParsesOk (P : World → Prop) : Prop where
 later : ∀ w w', P w → Below w.heap.size w w' → P w'
 parse : ParseOk P
 print : PrintOk P
 nparse : NilParseOk
 nprint : NilPrintOk

/-! ### the anchor's texts -/

set_option maxRecDepth 100000 in
set_option maxHeartbeats 16000000 in
theorem pwords1 : wordsL [112, 40, 88, 41, 32, 58, 45, 32, 97, 32, 115, 97, 121, 115, 32, 113, 40, 88, 44, 32, 98, 41, 44, 32, 110, 111, 116, 32, 114, 46] = ([(1, [112], 0), (5, [40], 1), (2, [88], 2), (6, [41], 3), (9, [58, 45], 5), (1, [97], 8), (4, [115, 97, 121, 115], 10), (1, [113], 15), (5, [40], 16), (2, [88], 17), (7, [44], 18), (1, [98], 20), (6, [41], 21), (7, [44], 22), (3, [110, 111, 116], 24), (1, [114], 28), (8, [46], 29)], 0, 0) := by
 refine wordsL_ok (by decide) ?_
 rw [lexG_word (l1 := [112, 40, 88, 41, 32, 58, 45, 32, 97, 32, 115, 97, 121, 115, 32, 113, 40, 88, 44, 32, 98, 41, 44, 32, 110, 111, 116, 32, 114, 46]) (k := 1) (n := 1) (by decide) (by decide) (by decide)]
 rw [show ([112, 40, 88, 41, 32, 58, 45, 32, 97, 32, 115, 97, 121, 115, 32, 113, 40, 88, 44, 32, 98, 41, 44, 32, 110, 111, 116, 32, 114, 46] : List UInt8).drop 1 = [40, 88, 41, 32, 58, 45, 32, 97, 32, 115, 97, 121, 115, 32, 113, 40, 88, 44, 32, 98, 41, 44, 32, 110, 111, 116, 32, 114, 46] from rfl]
 rw [lexG_word (l1 := [40, 88, 41, 32, 58, 45, 32, 97, 32, 115, 97, 121, 115, 32, 113, 40, 88, 44, 32, 98, 41, 44, 32, 110, 111, 116, 32, 114, 46]) (k := 5) (n := 1) (by decide) (by decide) (by decide)]
 rw [show ([40, 88, 41, 32, 58, 45, 32, 97, 32, 115, 97, 121, 115, 32, 113, 40, 88, 44, 32, 98, 41, 44, 32, 110, 111, 116, 32, 114, 46] : List UInt8).drop 1 = [88, 41, 32, 58, 45, 32, 97, 32, 115, 97, 121, 115, 32, 113, 40, 88, 44, 32, 98, 41, 44, 32, 110, 111, 116, 32, 114, 46] from rfl]
 rw [lexG_word (l1 := [88, 41, 32, 58, 45, 32, 97, 32, 115, 97, 121, 115, 32, 113, 40, 88, 44, 32, 98, 41, 44, 32, 110, 111, 116, 32, 114, 46]) (k := 2) (n := 1) (by decide) (by decide) (by decide)]
 rw [show ([88, 41, 32, 58, 45, 32, 97, 32, 115, 97, 121, 115, 32, 113, 40, 88, 44, 32, 98, 41, 44, 32, 110, 111, 116, 32, 114, 46] : List UInt8).drop 1 = [41, 32, 58, 45, 32, 97, 32, 115, 97, 121, 115, 32, 113, 40, 88, 44, 32, 98, 41, 44, 32, 110, 111, 116, 32, 114, 46] from rfl]
 rw [lexG_word (l1 := [41, 32, 58, 45, 32, 97, 32, 115, 97, 121, 115, 32, 113, 40, 88, 44, 32, 98, 41, 44, 32, 110, 111, 116, 32, 114, 46]) (k := 6) (n := 1) (by decide) (by decide) (by decide)]
 rw [show ([41, 32, 58, 45, 32, 97, 32, 115, 97, 121, 115, 32, 113, 40, 88, 44, 32, 98, 41, 44, 32, 110, 111, 116, 32, 114, 46] : List UInt8).drop 1 = [32, 58, 45, 32, 97, 32, 115, 97, 121, 115, 32, 113, 40, 88, 44, 32, 98, 41, 44, 32, 110, 111, 116, 32, 114, 46] from rfl]
 rw [lexG_word (l1 := [58, 45, 32, 97, 32, 115, 97, 121, 115, 32, 113, 40, 88, 44, 32, 98, 41, 44, 32, 110, 111, 116, 32, 114, 46]) (k := 9) (n := 2) (by decide) (by decide) (by decide)]
 rw [show ([58, 45, 32, 97, 32, 115, 97, 121, 115, 32, 113, 40, 88, 44, 32, 98, 41, 44, 32, 110, 111, 116, 32, 114, 46] : List UInt8).drop 2 = [32, 97, 32, 115, 97, 121, 115, 32, 113, 40, 88, 44, 32, 98, 41, 44, 32, 110, 111, 116, 32, 114, 46] from rfl]
 rw [lexG_word (l1 := [97, 32, 115, 97, 121, 115, 32, 113, 40, 88, 44, 32, 98, 41, 44, 32, 110, 111, 116, 32, 114, 46]) (k := 1) (n := 1) (by decide) (by decide) (by decide)]
 rw [show ([97, 32, 115, 97, 121, 115, 32, 113, 40, 88, 44, 32, 98, 41, 44, 32, 110, 111, 116, 32, 114, 46] : List UInt8).drop 1 = [32, 115, 97, 121, 115, 32, 113, 40, 88, 44, 32, 98, 41, 44, 32, 110, 111, 116, 32, 114, 46] from rfl]
 rw [lexG_word (l1 := [115, 97, 121, 115, 32, 113, 40, 88, 44, 32, 98, 41, 44, 32, 110, 111, 116, 32, 114, 46]) (k := 4) (n := 4) (by decide) (by decide) (by decide)]
 rw [show ([115, 97, 121, 115, 32, 113, 40, 88, 44, 32, 98, 41, 44, 32, 110, 111, 116, 32, 114, 46] : List UInt8).drop 4 = [32, 113, 40, 88, 44, 32, 98, 41, 44, 32, 110, 111, 116, 32, 114, 46] from rfl]
 rw [lexG_word (l1 := [113, 40, 88, 44, 32, 98, 41, 44, 32, 110, 111, 116, 32, 114, 46]) (k := 1) (n := 1) (by decide) (by decide) (by decide)]
 rw [show ([113, 40, 88, 44, 32, 98, 41, 44, 32, 110, 111, 116, 32, 114, 46] : List UInt8).drop 1 = [40, 88, 44, 32, 98, 41, 44, 32, 110, 111, 116, 32, 114, 46] from rfl]
 rw [lexG_word (l1 := [40, 88, 44, 32, 98, 41, 44, 32, 110, 111, 116, 32, 114, 46]) (k := 5) (n := 1) (by decide) (by decide) (by decide)]
 rw [show ([40, 88, 44, 32, 98, 41, 44, 32, 110, 111, 116, 32, 114, 46] : List UInt8).drop 1 = [88, 44, 32, 98, 41, 44, 32, 110, 111, 116, 32, 114, 46] from rfl]
 rw [lexG_word (l1 := [88, 44, 32, 98, 41, 44, 32, 110, 111, 116, 32, 114, 46]) (k := 2) (n := 1) (by decide) (by decide) (by decide)]
 rw [show ([88, 44, 32, 98, 41, 44, 32, 110, 111, 116, 32, 114, 46] : List UInt8).drop 1 = [44, 32, 98, 41, 44, 32, 110, 111, 116, 32, 114, 46] from rfl]
 rw [lexG_word (l1 := [44, 32, 98, 41, 44, 32, 110, 111, 116, 32, 114, 46]) (k := 7) (n := 1) (by decide) (by decide) (by decide)]
 rw [show ([44, 32, 98, 41, 44, 32, 110, 111, 116, 32, 114, 46] : List UInt8).drop 1 = [32, 98, 41, 44, 32, 110, 111, 116, 32, 114, 46] from rfl]
 rw [lexG_word (l1 := [98, 41, 44, 32, 110, 111, 116, 32, 114, 46]) (k := 1) (n := 1) (by decide) (by decide) (by decide)]
 rw [show ([98, 41, 44, 32, 110, 111, 116, 32, 114, 46] : List UInt8).drop 1 = [41, 44, 32, 110, 111, 116, 32, 114, 46] from rfl]
 rw [lexG_word (l1 := [41, 44, 32, 110, 111, 116, 32, 114, 46]) (k := 6) (n := 1) (by decide) (by decide) (by decide)]
 rw [show ([41, 44, 32, 110, 111, 116, 32, 114, 46] : List UInt8).drop 1 = [44, 32, 110, 111, 116, 32, 114, 46] from rfl]
 rw [lexG_word (l1 := [44, 32, 110, 111, 116, 32, 114, 46]) (k := 7) (n := 1) (by decide) (by decide) (by decide)]
 rw [show ([44, 32, 110, 111, 116, 32, 114, 46] : List UInt8).drop 1 = [32, 110, 111, 116, 32, 114, 46] from rfl]
 rw [lexG_word (l1 := [110, 111, 116, 32, 114, 46]) (k := 3) (n := 3) (by decide) (by decide) (by decide)]
 rw [show ([110, 111, 116, 32, 114, 46] : List UInt8).drop 3 = [32, 114, 46] from rfl]
 rw [lexG_word (l1 := [114, 46]) (k := 1) (n := 1) (by decide) (by decide) (by decide)]
 rw [show ([114, 46] : List UInt8).drop 1 = [46] from rfl]
 rw [lexG_word (l1 := [46]) (k := 8) (n := 1) (by decide) (by decide) (by decide)]
 rw [show ([46] : List UInt8).drop 1 = [] from rfl]
 rw [lexG_end (by decide)]
 rfl

set_option maxRecDepth 100000 in
set_option maxHeartbeats 16000000 in
theorem pwords2 : wordsL [112, 40] = ([(1, [112], 0), (5, [40], 1)], 0, 0) := by
 refine wordsL_ok (by decide) ?_
 rw [lexG_word (l1 := [112, 40]) (k := 1) (n := 1) (by decide) (by decide) (by decide)]
 rw [show ([112, 40] : List UInt8).drop 1 = [40] from rfl]
 rw [lexG_word (l1 := [40]) (k := 5) (n := 1) (by decide) (by decide) (by decide)]
 rw [show ([40] : List UInt8).drop 1 = [] from rfl]
 rw [lexG_end (by decide)]
 rfl

set_option maxRecDepth 100000 in
set_option maxHeartbeats 16000000 in
theorem pwords3 : wordsL [112, 40, 41, 32, 46] = ([(1, [112], 0), (5, [40], 1), (6, [41], 2), (8, [46], 4)], 0, 0) := by
 refine wordsL_ok (by decide) ?_
 rw [lexG_word (l1 := [112, 40, 41, 32, 46]) (k := 1) (n := 1) (by decide) (by decide) (by decide)]
 rw [show ([112, 40, 41, 32, 46] : List UInt8).drop 1 = [40, 41, 32, 46] from rfl]
 rw [lexG_word (l1 := [40, 41, 32, 46]) (k := 5) (n := 1) (by decide) (by decide) (by decide)]
 rw [show ([40, 41, 32, 46] : List UInt8).drop 1 = [41, 32, 46] from rfl]
 rw [lexG_word (l1 := [41, 32, 46]) (k := 6) (n := 1) (by decide) (by decide) (by decide)]
 rw [show ([41, 32, 46] : List UInt8).drop 1 = [32, 46] from rfl]
 rw [lexG_word (l1 := [46]) (k := 8) (n := 1) (by decide) (by decide) (by decide)]
 rw [show ([46] : List UInt8).drop 1 = [] from rfl]
 rw [lexG_end (by decide)]
 rfl

set_option maxRecDepth 100000 in
set_option maxHeartbeats 16000000 in
theorem pwords4 : wordsL [112, 32, 58, 45, 32, 46] = ([(1, [112], 0), (9, [58, 45], 2), (8, [46], 5)], 0, 0) := by
 refine wordsL_ok (by decide) ?_
 rw [lexG_word (l1 := [112, 32, 58, 45, 32, 46]) (k := 1) (n := 1) (by decide) (by decide) (by decide)]
 rw [show ([112, 32, 58, 45, 32, 46] : List UInt8).drop 1 = [32, 58, 45, 32, 46] from rfl]
 rw [lexG_word (l1 := [58, 45, 32, 46]) (k := 9) (n := 2) (by decide) (by decide) (by decide)]
 rw [show ([58, 45, 32, 46] : List UInt8).drop 2 = [32, 46] from rfl]
 rw [lexG_word (l1 := [46]) (k := 8) (n := 1) (by decide) (by decide) (by decide)]
 rw [show ([46] : List UInt8).drop 1 = [] from rfl]
 rw [lexG_end (by decide)]
 rfl
abbrev nms5 : List ByteArray := [⟨#[112]⟩, ⟨#[97]⟩, ⟨#[113]⟩, ⟨#[98]⟩, ⟨#[114]⟩]
abbrev rl1 : Rl := ((false, (false, 0), (0, [(true, 0)])), [(false, (true, (false, 1), (2, [(true, 0), (false, 3)]))), (true, (false, (false, 0), (4, [])))])

set_option maxRecDepth 100000 in
set_option maxHeartbeats 16000000 in
theorem parse1 : parseL [] [112, 40, 88, 41, 32, 58, 45, 32, 97, 32, 115, 97, 121, 115, 32, 113, 40, 88, 44, 32, 98, 41, 44, 32, 110, 111, 116, 32, 114, 46] = ([rl1], nms5, 0, 0) := by
 unfold parseL
 rw [pwords1]
 rfl
theorem parse2 : parseL nms5 [112, 40] = ([], nms5, 2, 5) := by
 unfold parseL
 rw [pwords2]
 rfl
theorem parse3 : parseL nms5 [112, 40, 41, 32, 46] = ([], nms5, 2, 5) := by
 unfold parseL
 rw [pwords3]
 rfl
theorem parse4 : parseL nms5 [112, 32, 58, 45, 32, 46] = ([], nms5, 5, 5) := by
 unfold parseL
 rw [pwords4]
 rfl
theorem frontless {c : UInt8} (hc : okB c = true) : isBl c = false ∧ c ≠ 37 := by
 refine ⟨?_, by rintro rfl; exact absurd hc (by decide)⟩
 unfold isBl
 cases hh : (c == 32 || c == 9 || c == 10 || c == 13) with
 | false => rfl
 | true =>
  exfalso
  simp only [Bool.or_eq_true, beq_iff_eq] at hh
  rcases hh with ((rfl | rfl) | rfl) | rfl <;> exact absurd hc (by decide)
theorem plain_one (c : UInt8) (h1 : okB c = true) (h2 : ¬ (65 ≤ c.toNat ∧ c.toNat ≤ 90)) : plainB ⟨#[c]⟩ = true := by
 have hb : isBl c = false := by
  have h := frontless h1
  exact h.1
 have hl : letN [c] = 1 := by unfold letN; rw [List.takeWhile_cons, h1]; rfl
 have hk : kindL [c] = 1 := by
  unfold kindL
  rw [if_neg (by simp), if_neg (by simp)]
  show (if _ then 2 else 1) = 1
  rw [if_neg h2]
 have hz : blN false [c] = 0 := by rw [blN, if_neg (frontless h1).2, hb]; rfl
 have hw : wordN [c] = (1, 1) := by
  rw [wordN_let (markN_ok h1 []), if_neg (by rw [hl]; omega), hl]
  show (kindL [c], 1) = _
  rw [hk]
 have : wordsL [c] = ([(1, [c], 0)], 0, 0) := by
  refine wordsL_ok (by simp) ?_
  rw [lexG_word (l1 := [c]) (k := 1) (n := 1) (by rw [hz]; rfl) hw (by omega), hz]
  show ((_, _, _) :: (lexG _ ([] : List UInt8)).1, (lexG _ ([] : List UInt8)).2) = _
  rw [lexG_end (by decide)]
  rfl
 unfold plainB
 rw [show tb (⟨#[c]⟩ : ByteArray) = [c] from rfl, this]
 simp
theorem print1 : printL nms5 [rl1] = ([112, 40, 88, 48, 41, 32, 58, 45, 32, 97, 32, 115, 97, 121, 115, 32, 113, 40, 88, 48, 44, 32, 98, 41, 44, 32, 110, 111, 116, 32, 114, 46, 10], 0) := by
 have p0 : plainB ⟨#[112]⟩ = true := plain_one 112 (by decide) (by decide)
 have p1 : plainB ⟨#[97]⟩ = true := plain_one 97 (by decide) (by decide)
 have p2 : plainB ⟨#[113]⟩ = true := plain_one 113 (by decide) (by decide)
 have p3 : plainB ⟨#[98]⟩ = true := plain_one 98 (by decide) (by decide)
 have p4 : plainB ⟨#[114]⟩ = true := plain_one 114 (by decide) (by decide)
 have n0 : namedL nms5 0 = [112] := by unfold namedL; show (if plainB ⟨#[112]⟩ = true then _ else _) = _; rw [p0]; rfl
 have n1 : namedL nms5 1 = [97] := by unfold namedL; show (if plainB ⟨#[97]⟩ = true then _ else _) = _; rw [p1]; rfl
 have n2 : namedL nms5 2 = [113] := by unfold namedL; show (if plainB ⟨#[113]⟩ = true then _ else _) = _; rw [p2]; rfl
 have n3 : namedL nms5 3 = [98] := by unfold namedL; show (if plainB ⟨#[98]⟩ = true then _ else _) = _; rw [p3]; rfl
 have n4 : namedL nms5 4 = [114] := by unfold namedL; show (if plainB ⟨#[114]⟩ = true then _ else _) = _; rw [p4]; rfl
 have d0 : digitsL 0 = [48] := by rw [digitsL, dif_pos (by omega)]; rfl
 have hm : mayR rl1 = true := by decide
 have hk : knownR nms5 rl1 = true := by
  simp [knownR, knownB, termL, n0, n1, n2, n3, n4, d0]
 have hr : ruleL nms5 rl1 = [112, 40, 88, 48, 41, 32, 58, 45, 32, 97, 32, 115, 97, 121, 115, 32, 113, 40, 88, 48, 44, 32, 98, 41, 44, 32, 110, 111, 116, 32, 114, 46, 10] := by
  simp [ruleL, sayL, argsL, bodyL, condL, termL, n0, n1, n2, n3, n4, d0]
 rw [printL, hm, hk, hr]
 rfl
end Go.Proofs.YtoigpbajefkpoaaGreatDoor

set_option linter.unusedVariables false
set_option linter.unusedSimpArgs false
namespace Go.Proofs.YtoigpbajefkpoaaGreatDoor
open Go Go.RowKit

theorem good5 : Good 4096 nms5 := ⟨by decide, by decide, by decide⟩
theorem small1 : smallR [rl1] := by
 intro r hr
 rw [List.mem_singleton] at hr
 subst hr
 refine ⟨by decide, by decide, by decide⟩
theorem find5 : findO nms5 ⟨#[114]⟩ = some 4 := by decide
set_option maxRecDepth 100000 in
set_option maxHeartbeats 16000000 in
theorem pWorks_any {P : World → Prop} (ok : ParsesOk P) (w : World) (hP : P w) : Calls Tryz.prog 9 #[] w fun e w' => e = .returned (.bool true) ∧ Below w.heap.size w w' := by
 have HPW := Lib.hid hP
 clear hP
 go_enter Tryz.func9, Tryz.ntmps9
 repeat (first | go_skip | go_guarded | go_step)
 refine (tNew w).mono ?_
 rintro e w1 ⟨g, F, rfl, ht1, hf1, hb1⟩
 have HT := Lib.hid ht1
 have HF := Lib.hid hf1
 have HB := Lib.hid hb1
 clear ht1 hf1 hb1
 dsimp only
 repeat (first | go_skip | go_guarded | go_step)
 refine (ok.parse g F [] ⟨#[112, 40, 88, 41, 32, 58, 45, 32, 97, 32, 115, 97, 121, 115, 32, 113, 40, 88, 44, 32, 98, 41, 44, 32, 110, 111, 116, 32, 114, 46]⟩ w1 (ok.later _ _ HPW.out HB.out) HT.out ?hgood ?hsz).mono ?_
 case hgood => exact Good.nil 4096
 case hsz => decide
 rintro e w2 ⟨A, n, c, Q, rs, ns, y, z, F2, rfl, hnc, hn, hrd, ht2, hT2, hF2, hpa⟩
 rw [show tb ⟨#[112, 40, 88, 41, 32, 58, 45, 32, 97, 32, 115, 97, 121, 115, 32, 113, 40, 88, 44, 32, 98, 41, 44, 32, 110, 111, 116, 32, 114, 46]⟩ = [112, 40, 88, 41, 32, 58, 45, 32, 97, 32, 115, 97, 121, 115, 32, 113, 40, 88, 44, 32, 98, 41, 44, 32, 110, 111, 116, 32, 114, 46] from rfl, parse1] at hpa
 simp only [Prod.mk.injEq] at hpa
 obtain ⟨rfl, rfl, rfl, rfl⟩ := hpa
 have hn1 : n = 1 := (hrd w2 (Turn.refl _ _)).lenL.symm
 subst hn1
 have HR := Lib.hid (hrd w2 (Turn.refl _ _))
 have HT2 := Lib.hid ht2
 have HB2 := Lib.hid (HB.out.trans (hT2.below (fun k _ h => HF.out k h) HB.out.size))
 have HF2 := Lib.hid (show ∀ k, F2 k → w.heap.size ≤ k from fun k h => (hF2 k h).elim (HF.out k) (fun h => Nat.le_trans HB.out.size h))
 have HC := Lib.hid hnc
 clear hrd ht2 hT2 hF2 hnc hn
 dsimp only
 repeat (first | go_skip | go_guarded | go_step)
 refine (ok.print g F2 nms5 A 1 c Q [rl1] w2 (ok.later _ _ HPW.out HB2.out) HT2.out ?hgood ?hr ?hc ?hn ?hs ?hl).mono ?_
 case hgood => exact good5
 case hr => exact HR.out
 case hc => exact HC.out
 case hn => decide
 case hs => exact small1
 case hl => rw [print1]; decide
 rintro e w3 ⟨rfl, hb3⟩
 rw [print1]
 have HB3 := Lib.hid (HB2.out.trans (hb3.mono HB2.out.size))
 have HT3 := Lib.hid (HT2.out.later hb3)
 clear hb3
 dsimp only
 repeat (first | go_skip | go_guarded | go_step)
 refine (tFind g F2 nms5 ⟨#[114]⟩ w3 HT3.out (by decide)).mono ?_
 rintro e w3' ⟨rfl, rfl⟩
 rw [find5]
 dsimp only [Option.getD_some, Option.isSome_some]
 repeat (first | go_skip | go_guarded | go_step)
 refine (ok.parse g F2 nms5 ⟨#[112, 40]⟩ w3 (ok.later _ _ HPW.out HB3.out) HT3.out good5 (by decide)).mono ?_
 rintro e w4 ⟨A2, n2, c2, Q2, rs2, ns2, y2, z2, F4, rfl, hnc, hn, hrd, ht2, hT2, hF2, hpa⟩
 rw [show tb ⟨#[112, 40]⟩ = [112, 40] from rfl, parse2] at hpa
 simp only [Prod.mk.injEq] at hpa
 obtain ⟨rfl, rfl, rfl, rfl⟩ := hpa
 have HT4 := Lib.hid ht2
 have HB4 := Lib.hid (HB3.out.trans (hT2.below (fun k _ h => HF2.out k h) HB3.out.size))
 have HF4 := Lib.hid (show ∀ k, F4 k → w.heap.size ≤ k from fun k h => (hF2 k h).elim (HF2.out k) (fun h => Nat.le_trans HB3.out.size h))
 clear hrd ht2 hT2 hF2 hnc hn
 dsimp only
 repeat (first | go_skip | go_guarded | go_step)
 refine (ok.parse g F4 nms5 ⟨#[112, 40, 41, 32, 46]⟩ w4 (ok.later _ _ HPW.out HB4.out) HT4.out good5 (by decide)).mono ?_
 rintro e w5 ⟨A3, n3, c3, Q3, rs3, ns3, y3, z3, F5, rfl, hnc, hn, hrd, ht2, hT2, hF2, hpa⟩
 rw [show tb ⟨#[112, 40, 41, 32, 46]⟩ = [112, 40, 41, 32, 46] from rfl, parse3] at hpa
 simp only [Prod.mk.injEq] at hpa
 obtain ⟨rfl, rfl, rfl, rfl⟩ := hpa
 have HT5 := Lib.hid ht2
 have HB5 := Lib.hid (HB4.out.trans (hT2.below (fun k _ h => HF4.out k h) HB4.out.size))
 have HF5 := Lib.hid (show ∀ k, F5 k → w.heap.size ≤ k from fun k h => (hF2 k h).elim (HF4.out k) (fun h => Nat.le_trans HB4.out.size h))
 clear hrd ht2 hT2 hF2 hnc hn
 dsimp only
 repeat (first | go_skip | go_guarded | go_step)
 refine (ok.parse g F5 nms5 ⟨#[112, 32, 58, 45, 32, 46]⟩ w5 (ok.later _ _ HPW.out HB5.out) HT5.out good5 (by decide)).mono ?_
 rintro e w6 ⟨A4, n4, c4, Q4, rs4, ns4, y4, z4, F6, rfl, hnc, hn, hrd, ht2, hT2, hF2, hpa⟩
 rw [show tb ⟨#[112, 32, 58, 45, 32, 46]⟩ = [112, 32, 58, 45, 32, 46] from rfl, parse4] at hpa
 simp only [Prod.mk.injEq] at hpa
 obtain ⟨rfl, rfl, rfl, rfl⟩ := hpa
 have HT6 := Lib.hid ht2
 have HB6 := Lib.hid (HB5.out.trans (hT2.below (fun k _ h => HF5.out k h) HB5.out.size))
 have HF6 := Lib.hid (show ∀ k, F6 k → w.heap.size ≤ k from fun k h => (hF2 k h).elim (HF5.out k) (fun h => Nat.le_trans HB5.out.size h))
 clear hrd ht2 hT2 hF2 hnc hn
 dsimp only
 repeat (first | go_skip | go_guarded | go_step)
 refine (tLen g F6 nms5 w6 HT6.out).mono ?_
 rintro e w7 ⟨rfl, rfl⟩
 dsimp only
 repeat (first | go_skip | go_guarded | go_step)
 go_ret
 exact ⟨rfl, HB6.out⟩
end Go.Proofs.YtoigpbajefkpoaaGreatDoor

