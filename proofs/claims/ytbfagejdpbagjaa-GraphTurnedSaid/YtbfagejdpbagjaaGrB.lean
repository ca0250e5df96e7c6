/- Layer 9 (graph), the program's search: a node is come to. -/
import Derived.Test.YtbfagejdpbagjaaGrA
set_option linter.unusedVariables false
set_option linter.unusedSimpArgs false
namespace Go.Proofs.Ytbfagejdpbagjaa
open Go Go.RowKit

set_option maxRecDepth 100000 in
set_option maxHeartbeats 1000000 in
theorem comeTo_any (W0 : World) (n S LB : Nat) (m : Mem) (w : World) (s : Se) (v : Nat) (h : SeM W0 n S LB m w s) (hv : v < 4096) (hc : s.come ≤ 4096) (hto1 : s.todo.length ≤ 4096) (hop1 : s.opn.length ≤ 4096) :
    Calls Try.prog 38 #[.pointer (some ⟨S, 0, none⟩), ni v] w fun e w' => e = .returned (.tuple #[]) ∧ ∃ m', SeM W0 n S LB m' w' (comeL s v) := by
  have H := Lib.hid h
  have c2 := h.rd h.cCome
  have f2 := h.fz 12289
  clear h
  go_enter Try.func38, Try.ntmps38
  go_upto_region 1 with (fail)
  obtain ⟨W1, hW1, hb1, ht1⟩ : ∃ W1, W1 = w.setCell ⟨S, 12289, none⟩ (.int .i64 ((s.come : Int) + 1)) ∧ Bk W1 S 58 (m.cs.set 12289 (ni (s.come + 1))) ∧ Turn (fun k => k = S) w W1 :=
    ⟨_, rfl, H.out.blk.set_ _ _, (Turn.refl (fun k => k = S) w).setCell (p := ⟨S, 12289, none⟩) (fun _ => rfl) _⟩
  rw [← hW1]
  clear hW1 c2 f2
  have HB1 := Lib.hid hb1
  have HT1 := Lib.hid ht1
  have HC1 := Lib.hid (show (m.cs.set 12289 (ni (s.come + 1))).length = 12293 by rw [List.length_set]; exact H.out.len)
  have c2 : W1.cell? ⟨S, 12289, none⟩ = some (.int .i64 ((s.come : Int) + 1)) := by
    rw [hb1.cell, List.getElem?_set_self (by rw [H.out.len]; omega)]; rfl
  have f0 := hb1.frozen (v * 3)
  have f1 := hb1.frozen (v * 3 + 1)
  have f2 := hb1.frozen (v * 3 + 2)
  have g0 : ∃ u, W1.cell? ⟨S, v * 3, none⟩ = some u := ⟨_, by rw [hb1.cell, List.getElem?_eq_getElem (by rw [HC1.out]; omega)]⟩
  have g1 : ∃ u, W1.cell? ⟨S, v * 3 + 1, none⟩ = some u := ⟨_, by rw [hb1.cell, List.getElem?_eq_getElem (by rw [HC1.out]; omega)]⟩
  have g2 : ∃ u, W1.cell? ⟨S, v * 3 + 2, none⟩ = some u := ⟨_, by rw [hb1.cell, List.getElem?_eq_getElem (by rw [HC1.out]; omega)]⟩
  obtain ⟨u0, g0⟩ := g0
  obtain ⟨u1, g1⟩ := g1
  obtain ⟨u2, g2⟩ := g2
  clear hb1 ht1
  have hvi : (v : Int) < 4096 := by omega
  have hv0 : (0 : Int) ≤ (v : Int) := by omega
  go_still_tail 14, (by kernel_rfl)
  go_upto_region 2 with (fail)
  obtain ⟨W2, hW2, hb2, ht2⟩ : ∃ W2, W2 = (((W1.setCell ⟨S, v * 3, none⟩ (.int .i64 ((s.come : Int) + 1))).setCell ⟨S, v * 3 + 1, none⟩ (.int .i64 ((s.come : Int) + 1))).setCell ⟨S, v * 3 + 2, none⟩ (.bool false)).drew ∧
      Bk W2 S 58 ((((m.cs.set 12289 (ni (s.come + 1))).set (v * 3) (ni (s.come + 1))).set (v * 3 + 1) (ni (s.come + 1))).set (v * 3 + 2) (.bool false)) ∧ Turn (fun k => k = S) w W2 :=
    ⟨_, rfl, (((HB1.out.set_ _ _).set_ _ _).set_ _ _).drew, (((HT1.out.setCell (p := ⟨S, v * 3, none⟩) (fun _ => rfl) _).setCell (p := ⟨S, v * 3 + 1, none⟩) (fun _ => rfl) _).setCell (p := ⟨S, v * 3 + 2, none⟩) (fun _ => rfl) _).drew⟩
  rw [← hW2]
  obtain ⟨cs2, hcs2⟩ : ∃ cs2, cs2 = ((((m.cs.set 12289 (ni (s.come + 1))).set (v * 3) (ni (s.come + 1))).set (v * 3 + 1) (ni (s.come + 1))).set (v * 3 + 2) (.bool false)) := ⟨_, rfl⟩
  rw [← hcs2] at hb2
  clear hW2 HB1 HT1 c2 f0 f1 f2 g0 g1 g2 HC1
  have hl2 : cs2.length = 12293 := by rw [hcs2]; simp only [List.length_set]; exact H.out.len
  -- what stands where in the struct
  have hget : ∀ i, cs2[i]? = if i = v * 3 + 2 then some (.bool false) else if i = v * 3 + 1 ∨ i = v * 3 ∨ i = 12289 then some (ni (s.come + 1)) else m.cs[i]? := by
    intro i
    have hl := H.out.len
    rw [hcs2]
    simp only [List.getElem?_set, List.length_set, hl]
    by_cases h1 : i = v * 3 + 2
    · subst h1; simp; omega
    · rw [if_neg (fun e => h1 e.symm), if_neg h1]
      by_cases h2 : i = v * 3 + 1
      · subst h2; simp; omega
      · rw [if_neg (fun e => h2 e.symm)]
        by_cases h3 : i = v * 3
        · subst h3; simp; omega
        · rw [if_neg (fun e => h3 e.symm)]
          by_cases h4 : i = 12289
          · subst h4; simp
          · rw [if_neg (fun e => h4 e.symm), if_neg (by omega)]
  clear hcs2
  have HG := Lib.hid hget
  have HL := Lib.hid hl2
  have HB := Lib.hid hb2
  have HT := Lib.hid ht2
  have hlowS := H.out.ltS
  have hbase : W0.heap.size ≤ W2.heap.size := Nat.le_trans H.out.low ht2.size
  have c3 : W2.cell? ⟨S, 12290, none⟩ = some (.slice m.tA s.todo.length m.tc) := by
    rw [hb2.cell, hget, if_neg (by omega), if_neg (by omega)]; exact H.out.cTodo
  have hlit := run_litI (v : Int) W2
  have hZ0 : Below W2.heap.size W2 (W2.alloc (.cells #[.int .i64 (v : Int)] 3)) := (Below.refl _ _).alloc (Nat.le_refl _) _
  have HZ := Lib.hid (HT.out.then_ (Turn.ofBelow (G := fun k => k = S) hZ0) (fun _ _ h => h))
  have HTo := Lib.hid (turn_own HZ.out H.out.todo (fun k hk e => by have := (own_low H.out.todo hk).1; have := H.out.hS; omega))
  have HBZ := Lib.hid (hb2.alloc (.cells #[.int .i64 (v : Int)] 3))
  have hbZ : W0.heap.size ≤ (W2.alloc (.cells #[.int .i64 (v : Int)] 3)).heap.size := Nat.le_trans hbase hZ0.size
  clear hget hl2 hb2 ht2 hZ0 hbase
  go_upto_region 3 with (
      (at_builtin; refine appI _ rfl (.tmp 29) (.tmp 31) rfl W0.heap.size m.tA m.tc s.todo.length s.todo rfl HTo.out _ _ 1 1 [v] rfl (litI_rd v W2) (by omega) hbZ ?_
       intro A3 c3' Z hoZ htZ hfr
       have HO3 := Lib.hid hoZ
       have HT3 := Lib.hid htZ
       have HF3 := Lib.hid hfr
       have f3 := (htZ.bk HBZ.out (fun e => by have := (own_low H.out.todo e).1; have := H.out.hS; omega)).frozen 12290
       have c3z : Z.cell? ⟨S, 12290, none⟩ = some (.slice m.tA s.todo.length m.tc) := by
         rw [(htZ.bk HBZ.out (fun e => by have := (own_low H.out.todo e).1; have := H.out.hS; omega)).cell 12290, HG.out, if_neg (by omega), if_neg (by omega)]; exact H.out.cTodo
       clear hoZ htZ hfr hlit c3))
  obtain ⟨W3, hW3, hb3, ht3⟩ : ∃ W3, W3 = Z.setCell ⟨S, 12290, none⟩ (.slice A3 (s.todo.length + 1) c3') ∧ Bk W3 S 58 (cs2.set 12290 (.slice A3 (s.todo.length + 1) c3')) ∧ Turn (fun k => k = S) Z W3 :=
    ⟨_, rfl, (HT3.out.bk HBZ.out (fun e => by have := (own_low H.out.todo e).1; have := H.out.hS; omega)).set_ _ _, (Turn.refl (fun k => k = S) Z).setCell (p := ⟨S, 12290, none⟩) (fun _ => rfl) _⟩
  rw [← hW3]
  clear hW3 f3 c3z
  -- what turned so far
  have ht03 : Turn (fun k => k = S ∨ blockOf m.tA = some k) w W3 :=
    ((HZ.out.mono (fun k _ h => Or.inl h)).then_ HT3.out (fun k _ h => Or.inr h)).then_ ht3 (fun k _ h => Or.inl h)
  have ho3 : OwI W3 W0.heap.size A3 c3' (s.todo.length + 1) (s.todo ++ [v]) := turn_own ht3 HO3.out (fun k hk e => by have := (own_low HO3.out hk).1; have := H.out.hS; omega)
  have hop3 : OwI W3 W0.heap.size m.oA m.oc s.opn.length s.opn := turn_own ht03 H.out.opn (fun k hk e => by
    rcases e with e | e
    · have := (own_low H.out.opn hk).1; have := H.out.hS; omega
    · exact (H.out.ap1 k e).1 hk)
  have hbase3 : W0.heap.size ≤ W3.heap.size := Nat.le_trans H.out.low ht03.size
  have hf3 : blockOf A3 = blockOf m.tA ∨ ∃ k, blockOf A3 = some k ∧ w.heap.size ≤ k := by
    rcases HF3.out with e | e
    · exact .inl e
    · exact .inr ⟨_, e, HZ.out.size⟩
  have HF4 := Lib.hid hf3
  have HT4 := Lib.hid ht03
  have HO4 := Lib.hid ho3
  have HP4 := Lib.hid hop3
  have hl3 : (cs2.set 12290 (.slice A3 (s.todo.length + 1) c3')).length = 12293 := by rw [List.length_set]; exact HL.out
  have hg3 : ∀ i, (cs2.set 12290 (.slice A3 (s.todo.length + 1) c3'))[i]? = if i = 12290 then some (.slice A3 (s.todo.length + 1) c3') else if i = v * 3 + 2 then some (.bool false) else if i = v * 3 + 1 ∨ i = v * 3 ∨ i = 12289 then some (ni (s.come + 1)) else m.cs[i]? := by
    intro i
    rw [List.getElem?_set, HL.out]
    by_cases h1 : i = 12290
    · subst h1; simp
    · rw [if_neg (fun e => h1 e.symm), if_neg h1]; exact HG.out i
  obtain ⟨cs3, hcs3⟩ : ∃ cs3, cs3 = cs2.set 12290 (.slice A3 (s.todo.length + 1) c3') := ⟨_, rfl⟩
  rw [← hcs3] at hl3 hg3 hb3
  have HG3 := Lib.hid hg3
  have HL3 := Lib.hid hl3
  have HB3 := Lib.hid hb3
  have c4 : W3.cell? ⟨S, 12291, none⟩ = some (.slice m.oA s.opn.length m.oc) := by
    rw [hb3.cell, hg3, if_neg (by omega), if_neg (by omega), if_neg (by omega)]; exact H.out.cOpn
  have hlit := run_litI (v : Int) W3
  have hZ0 : Below W3.heap.size W3 (W3.alloc (.cells #[.int .i64 (v : Int)] 3)) := (Below.refl _ _).alloc (Nat.le_refl _) _
  have HZ5 := Lib.hid (HT4.out.then_ (Turn.ofBelow (G := fun k => k = S ∨ blockOf m.tA = some k) hZ0) (fun _ _ h => h))
  have HP5 := Lib.hid (show OwI (W3.alloc (.cells #[.int .i64 (v : Int)] 3)) W0.heap.size m.oA m.oc s.opn.length s.opn from ownBelow HP4.out hZ0 (Nat.le_refl _))
  have HO5 := Lib.hid (show OwI (W3.alloc (.cells #[.int .i64 (v : Int)] 3)) W0.heap.size A3 c3' (s.todo.length + 1) (s.todo ++ [v]) from ownBelow HO4.out hZ0 (Nat.le_refl _))
  have HB5 := Lib.hid (hb3.alloc (.cells #[.int .i64 (v : Int)] 3))
  have hbZ5 : W0.heap.size ≤ (W3.alloc (.cells #[.int .i64 (v : Int)] 3)).heap.size := Nat.le_trans hbase3 hZ0.size
  clear hcs3 hl3 hg3 hb3 ht03 ho3 hop3 hbase3 hf3 hZ0 HG HL HB HT HZ HTo HBZ hbZ HO3 HT3 HF3 ht3
  repeat (first
    | (at_builtin; refine appI _ rfl (.tmp 39) (.tmp 41) rfl W0.heap.size m.oA m.oc s.opn.length s.opn rfl HP5.out _ _ 1 1 [v] rfl (litI_rd v W3) (by omega) hbZ5 ?_
       intro A6 c6' Y hoY htY hfr
       have HO6 := Lib.hid hoY
       have HT6 := Lib.hid htY
       have HF6 := Lib.hid hfr
       have HB6 := Lib.hid (htY.bk HB5.out (fun e => by have := (own_low H.out.opn e).1; have := H.out.hS; omega))
       have f6 := HB6.out.frozen 12291
       have c6z : Y.cell? ⟨S, 12291, none⟩ = some (.slice m.oA s.opn.length m.oc) := by
         rw [HB6.out.cell 12291, HG3.out, if_neg (by omega), if_neg (by omega), if_neg (by omega)]; exact H.out.cOpn
       clear hoY htY hfr hlit c4)
    | go_skip | go_guarded | go_step)
  go_end0
  refine ⟨rfl, ⟨A3, c3', A6, c6', m.pA, m.pc, cs3.set 12291 (.slice A6 (s.opn.length + 1) c6'), m.lv, m.R⟩, ?_⟩
  have h := H.out
  obtain ⟨Y2, hY2⟩ : ∃ Y2, Y2 = Y.setCell ⟨S, 12291, none⟩ (.slice A6 (s.opn.length + 1) c6') := ⟨_, rfl⟩
  have tY : Turn (fun k => k = S) Y Y2 := by rw [hY2]; exact (Turn.refl (fun k => k = S) Y).setCell (p := ⟨S, 12291, none⟩) (fun _ => rfl) _
  have T : Turn (fun k => k = S ∨ blockOf m.tA = some k ∨ blockOf m.oA = some k) w Y2 :=
    ((HZ5.out.mono (fun k _ h => h.elim .inl fun h => .inr (.inl h))).then_ HT6.out (fun k _ h => .inr (.inr h))).then_ tY (fun k _ h => .inl h)
  have own1 : ∀ k, blockOf m.tA = some k → W0.heap.size ≤ k ∧ k < w.heap.size := fun k hk => own_low h.todo hk
  have own2 : ∀ k, blockOf m.oA = some k → W0.heap.size ≤ k ∧ k < w.heap.size := fun k hk => own_low h.opn hk
  have own3 : ∀ k, blockOf m.pA = some k → W0.heap.size ≤ k ∧ k < w.heap.size := fun k hk => own_low h.parts hk
  have hG : ∀ k, k < W0.heap.size → (k = S ∨ blockOf m.tA = some k ∨ blockOf m.oA = some k) → k = S := by
    intro k hk e
    rcases e with e | e | e
    · exact e
    · have := (own1 k e).1; omega
    · have := (own2 k e).1; omega
  have hS := h.hS
  have hget : ∀ i, (cs3.set 12291 (.slice A6 (s.opn.length + 1) c6'))[i]? = if i = 12291 then some (.slice A6 (s.opn.length + 1) c6') else if i = 12290 then some (.slice A3 (s.todo.length + 1) c3') else if i = v * 3 + 2 then some (.bool false) else if i = v * 3 + 1 ∨ i = v * 3 ∨ i = 12289 then some (ni (s.come + 1)) else m.cs[i]? := by
    intro i
    rw [List.getElem?_set, HL3.out]
    by_cases h1 : i = 12291
    · subst h1; simp
    · rw [if_neg (fun e => h1 e.symm), if_neg h1]; exact HG3.out i
  have hap : ∀ k, blockOf A3 = some k → blockOf m.tA = some k ∨ w.heap.size ≤ k := by
    intro k hk
    rcases HF4.out with e | ⟨j, e, hj⟩
    · exact .inl (e ▸ hk)
    · rw [e] at hk; cases hk; exact .inr hj
  have hap6 : ∀ k, blockOf A6 = some k → blockOf m.oA = some k ∨ W3.heap.size < k := by
    intro k hk
    rcases HF6.out with e | e
    · exact .inl (e ▸ hk)
    · rw [e] at hk; cases hk; exact .inr (by simp)
  have hw3 : w.heap.size ≤ W3.heap.size := HT4.out.size
  have hA3lt : ∀ k, blockOf A3 = some k → k < W3.heap.size := fun k hk => (own_low HO4.out hk).2
  have hA3ge : ∀ k, blockOf A3 = some k → W0.heap.size ≤ k := fun k hk => (own_low HO4.out hk).1
  have e1 : (comeL s v).todo = s.todo ++ [v] := rfl
  have e2 : (comeL s v).opn = s.opn ++ [v] := rfl
  rw [← hY2]
  refine ⟨?_, h.hS, h.hL, h.hSL, ?_, ?_, ?_, ?_, ?_, ?_, ?_, ?_, ?_, h.llen, h.lead, ?_, ?_, ?_, h.rlen, ?_, ?_, ?_, ?_⟩
  · exact h.frame.then_ T fun k hk e => .inl (hG k hk e)
  · rw [hY2]; exact HB6.out.set_ _ _
  · show (cs3.set 12291 _).length = _
    rw [List.length_set]; exact HL3.out
  · intro u hu
    show (cs3.set 12291 _)[u * 3]? = _ ∧ (cs3.set 12291 _)[u * 3 + 1]? = _ ∧ (cs3.set 12291 _)[u * 3 + 2]? = _
    rw [hget, hget, hget]
    by_cases e : u = v
    · subst e
      rw [show (comeL s u).far u = (s.come + 1, s.come + 1, false) from upd_same]
      refine ⟨?_, ?_, ?_⟩
      · rw [if_neg (by omega), if_neg (by omega), if_neg (by omega), if_pos (by omega)]
      · rw [if_neg (by omega), if_neg (by omega), if_neg (by omega), if_pos (by omega)]
      · rw [if_neg (by omega), if_neg (by omega), if_pos rfl]
    · rw [show (comeL s v).far u = s.far u from upd_other e]
      have := h.far u hu
      refine ⟨?_, ?_, ?_⟩
      · rw [if_neg (by omega), if_neg (by omega), if_neg (by omega), if_neg (by omega)]; exact this.1
      · rw [if_neg (by omega), if_neg (by omega), if_neg (by omega), if_neg (by omega)]; exact this.2.1
      · rw [if_neg (by omega), if_neg (by omega), if_neg (by omega), if_neg (by omega)]; exact this.2.2
  · show (cs3.set 12291 _)[12288]? = _
    rw [hget, if_neg (by omega), if_neg (by omega), if_neg (by omega), if_neg (by omega)]; exact h.cLeads
  · show (cs3.set 12291 _)[12289]? = _
    rw [hget, if_neg (by omega), if_neg (by omega), if_neg (by omega), if_pos (by omega)]; rfl
  · show (cs3.set 12291 _)[12290]? = _
    rw [hget, if_neg (by omega), if_pos rfl, e1, List.length_append]; rfl
  · show (cs3.set 12291 _)[12291]? = _
    rw [hget, if_pos rfl, e2, List.length_append]; rfl
  · show (cs3.set 12291 _)[12292]? = _
    rw [hget, if_neg (by omega), if_neg (by omega), if_neg (by omega), if_neg (by omega)]; exact h.cParts
  · refine T.bk h.lblk fun e => ?_
    have := h.hL
    rcases e with e | e | e
    · exact h.hSL e.symm
    · have := (own1 _ e).1; omega
    · have := (own2 _ e).1; omega
  · show OwI Y2 W0.heap.size A3 c3' (s.todo ++ [v]).length (s.todo ++ [v])
    rw [List.length_append]
    refine turn_own tY (turn_own HT6.out HO5.out fun k hk e => ?_) fun k hk e => ?_
    · have h1 := own2 k e
      rcases hap k hk with g | g
      · exact (h.ap1 k g).1 e
      · omega
    · have := hA3ge k hk; omega
  · show OwI Y2 W0.heap.size A6 c6' (s.opn ++ [v]).length (s.opn ++ [v])
    rw [List.length_append]
    refine turn_own tY HO6.out fun k hk e => ?_
    have := (own_low HO6.out hk).1; omega
  · refine turn_own T h.parts fun k hk e => ?_
    have h1 := own3 k hk
    rcases e with e | e | e
    · omega
    · exact (h.ap1 k e).2 hk
    · exact h.ap2 k e hk
  · intro i r p hr hp
    obtain ⟨g1, g2, g3, g4⟩ := h.row i r p hr hp
    have g5 := h.ap3 r (List.mem_of_getElem? hr)
    refine ⟨g1, Nat.lt_of_lt_of_le g2 T.size, g3, fun j x hx => (T.cell (p := ⟨r.1, j, none⟩) g2 ?_).trans (g4 j x hx)⟩
    rintro (e | e | e)
    · have : r.1 = S := e
      omega
    · exact g5.1 e
    · exact g5.2.1 e
  · intro k hk
    have h1 := hA3lt k hk
    refine ⟨fun e => ?_, fun e => ?_⟩
    · rcases hap6 k e with g | g
      · rcases hap k hk with q | q
        · exact (h.ap1 k q).1 g
        · have := own2 k g; omega
      · omega
    · have := own3 k e
      rcases hap k hk with q | q
      · exact (h.ap1 k q).2 e
      · omega
  · intro k hk e
    have := own3 k e
    rcases hap6 k hk with g | g
    · exact h.ap2 k g e
    · omega
  · intro r hr
    have g5 := h.ap3 r hr
    obtain ⟨i, hi, hri⟩ := List.getElem_of_mem hr
    have hlt : i < s.parts.length := by rw [← h.rlen]; exact hi
    have g := h.row i r s.parts[i] (by rw [List.getElem?_eq_getElem hi, hri]) (List.getElem?_eq_getElem hlt)
    refine ⟨fun e => ?_, fun e => ?_, g5.2.2⟩
    · rcases hap _ e with q | q
      · exact g5.1 q
      · omega
    · rcases hap6 _ e with q | q
      · exact g5.2.1 q
      · omega
end Go.Proofs.Ytbfagejdpbagjaa
