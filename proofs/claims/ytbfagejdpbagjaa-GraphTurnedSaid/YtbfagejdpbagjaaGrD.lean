/- Layer 9 (graph), the program's search: a node is left, and leads to one ahead of it. -/
import Derived.Test.YtbfagejdpbagjaaGrC
set_option linter.unusedVariables false
set_option linter.unusedSimpArgs false
namespace Go.Proofs.Ytbfagejdpbagjaa
open Go Go.RowKit

theorem ownSome {w : World} {base n c : Nat} {e : TypeId} {A : Option Addr} {xs : List Value} (h : w.ownsRow base e 1 (.slice A n c) n xs) (hn : 0 < n) : ∃ g, A = some ⟨g, 0, none⟩ ∧ base ≤ g ∧ g < w.heap.size ∧ n ≤ c ∧ (∀ j u, xs[j]? = some u → w.cell? ⟨g, j, none⟩ = some u) ∧ (∀ j, w.frozen? ⟨g, j, none⟩ = false) := by
  rcases h.2 with ⟨_, h0⟩ | ⟨g, cap, cur, h1, h2, h3, h4, h5, h6, h7⟩
  · omega
  · simp only [Value.slice.injEq, true_and] at h1
    obtain ⟨rfl, rfl⟩ := h1
    refine ⟨g, rfl, h2, (Array.getElem?_eq_some_iff.1 h3).1, h4, fun j u hu => ?_, fun j => by simp [World.frozen?, h3]⟩
    rw [cell_of_row w g j cur e (0, 0) h3, ← Array.getElem?_toList]
    rw [← h7, List.getElem?_take] at hu
    split at hu
    · exact hu
    · cases hu
theorem SeM.drew {W0 w : World} {n S LB : Nat} {m : Mem} {s : Se} (h : SeM W0 n S LB m w s) : SeM W0 n S LB m w.drew s :=
  ⟨h.frame.drew, h.hS, h.hL, h.hSL, h.blk, h.len, h.far, h.cLeads, h.cCome, h.cTodo, h.cOpn, h.cParts, h.lblk, h.llen, h.lead, h.todo, h.opn, h.parts, h.rlen, h.row, h.ap1, h.ap2, h.ap3⟩
theorem drewN_succ (w : World) (q : Nat) : w.drewN (q + 1) = (w.drewN q).drew := by unfold World.drewN World.drew; simp [Nat.add_assoc]
theorem SeM.drewN {W0 w : World} {n S LB : Nat} {m : Mem} {s : Se} (h : SeM W0 n S LB m w s) : ∀ q, SeM W0 n S LB m (w.drewN q) s
  | 0 => h
  | q + 1 => by rw [drewN_succ]; exact (h.drewN q).drew
/-- What turns where one of the struct's cells behind 'far' is stored to. -/
theorem SeM.cell_turn {W0 w : World} {n S LB : Nat} {m : Mem} {s : Se} (h : SeM W0 n S LB m w s) (i : Nat) (u : Value) : Turn (fun k => k = S) w (w.setCell ⟨S, i, none⟩ u) := (Turn.refl (fun k => k = S) w).setCell (p := ⟨S, i, none⟩) (fun _ => rfl) _
theorem SeM.own_ne {W0 w : World} {n S LB : Nat} {m : Mem} {s : Se} (h : SeM W0 n S LB m w s) : (∀ k, blockOf m.tA = some k → k ≠ S ∧ k ≠ LB) ∧ (∀ k, blockOf m.oA = some k → k ≠ S ∧ k ≠ LB) ∧ (∀ k, blockOf m.pA = some k → k ≠ S ∧ k ≠ LB) := by
  have h1 := h.hS
  have h2 := h.hL
  refine ⟨fun k hk => ?_, fun k hk => ?_, fun k hk => ?_⟩
  · have := (own_low h.todo hk).1; omega
  · have := (own_low h.opn hk).1; omega
  · have := (own_low h.parts hk).1; omega
/-- The struct's block alone turned. -/
theorem SeM.again {W0 w w' : World} {n S LB : Nat} {m : Mem} {s : Se} (h : SeM W0 n S LB m w s) (T : Turn (fun k => k = S) w w') {cs : List Value} {s' : Se}
    (hb : Bk w' S 58 cs) (hl : cs.length = 12293) (e1 : s'.leads = s.leads) (e2 : s'.parts = s.parts)
    (hfar : ∀ v, v < 4096 → cs[v * 3]? = some (ni (s'.far v).1) ∧ cs[v * 3 + 1]? = some (ni (s'.far v).2.1) ∧ cs[v * 3 + 2]? = some (.bool (s'.far v).2.2))
    (h0 : cs[12288]? = m.cs[12288]?) (h1 : cs[12289]? = some (ni s'.come)) (h2 : cs[12290]? = some (.slice m.tA s'.todo.length m.tc)) (h3 : cs[12291]? = some (.slice m.oA s'.opn.length m.oc)) (h4 : cs[12292]? = m.cs[12292]?)
    (ht : OwI w W0.heap.size m.tA m.tc s'.todo.length s'.todo) (ho : OwI w W0.heap.size m.oA m.oc s'.opn.length s'.opn) :
    SeM W0 n S LB { m with cs := cs } w' s' := by
  obtain ⟨n1, n2, n3⟩ := h.own_ne
  refine ⟨h.frame.then_ T fun k _ e => .inl e, h.hS, h.hL, h.hSL, hb, hl, hfar, h0.trans h.cLeads, h1, h2, h3, ?_, T.bk h.lblk fun e => h.hSL e.symm, h.llen, ?_, turn_own T ht fun k hk e => (n1 k hk).1 e, turn_own T ho fun k hk e => (n2 k hk).1 e, ?_, ?_, ?_, h.ap1, h.ap2, h.ap3⟩
  · rw [e2]; exact h4.trans h.cParts
  · rw [e1]; exact h.lead
  · rw [e2]; exact turn_own T h.parts fun k hk e => (n3 k hk).1 e
  · rw [e2]; exact h.rlen
  · intro i r p hr hp
    rw [e2] at hp
    obtain ⟨g1, g2, g3, g4⟩ := h.row i r p hr hp
    refine ⟨g1, Nat.lt_of_lt_of_le g2 T.size, g3, fun j x hx => (T.cell (p := ⟨r.1, j, none⟩) g2 ?_).trans (g4 j x hx)⟩
    intro e
    have e' : r.1 = S := e
    have := h.hS
    omega
/-- The last of todo is taken off. -/
theorem SeM.pop {W0 w : World} {n S LB : Nat} {m : Mem} {s : Se} (h : SeM W0 n S LB m w s) {l : List Nat} {v : Nat} (ht : s.todo = l ++ [v]) :
    SeM W0 n S LB { m with cs := m.cs.set 12290 (.slice m.tA l.length m.tc) } ((w.setCell ⟨S, 12290, none⟩ (.slice m.tA l.length m.tc)).drew) { s with todo := l } := by
  refine SeM.drew (h.again (h.cell_turn _ _) (h.blk.set_ _ _) (by rw [List.length_set]; exact h.len) rfl rfl ?_ ?_ ?_ ?_ ?_ ?_ ?_ h.opn)
  · intro u hu
    rw [List.getElem?_set_ne (by omega), List.getElem?_set_ne (by omega), List.getElem?_set_ne (by omega)]
    exact h.far u hu
  · rw [List.getElem?_set_ne (by omega)]
  · rw [List.getElem?_set_ne (by omega)]; exact h.cCome
  · rw [List.getElem?_set_self (by rw [h.len]; omega)]
  · rw [List.getElem?_set_ne (by omega)]; exact h.cOpn
  · rw [List.getElem?_set_ne (by omega)]
  · have := h.todo.cut (k := l.length) (by rw [ht]; simp)
    rw [ht, List.take_left] at this
    exact this
/-- What turned is none of the search's. -/
theorem SeM.keep {G : Nat → Prop} {W0 w w' : World} {n S LB : Nat} {m : Mem} {s : Se} (h : SeM W0 n S LB m w s) (T : Turn G w w') (g1 : ∀ k, G k → W0.heap.size ≤ k) (g2 : ∀ k, G k → blockOf m.tA ≠ some k ∧ blockOf m.oA ≠ some k ∧ blockOf m.pA ≠ some k ∧ ∀ r ∈ m.R, r.1 ≠ k) : SeM W0 n S LB m w' s := by
  have hS := h.hS
  have hL := h.hL
  refine ⟨h.frame.then_ T fun k hk e => by have := g1 k e; omega, h.hS, h.hL, h.hSL, T.bk h.blk fun e => by have := g1 _ e; omega, h.len, h.far, h.cLeads, h.cCome, h.cTodo, h.cOpn, h.cParts, T.bk h.lblk fun e => by have := g1 _ e; omega, h.llen, h.lead, turn_own T h.todo fun k hk e => (g2 k e).1 hk, turn_own T h.opn fun k hk e => (g2 k e).2.1 hk, turn_own T h.parts fun k hk e => (g2 k e).2.2.1 hk, h.rlen, ?_, h.ap1, h.ap2, h.ap3⟩
  intro i r p hr hp
  obtain ⟨q1, q2, q3, q4⟩ := h.row i r p hr hp
  exact ⟨q1, Nat.lt_of_lt_of_le q2 T.size, q3, fun j x hx => (T.cell (p := ⟨r.1, j, none⟩) q2 fun e => (g2 _ e).2.2.2 r (List.mem_of_getElem? hr) rfl).trans (q4 j x hx)⟩
theorem SeM.later {W0 w w' : World} {n S LB : Nat} {m : Mem} {s : Se} (h : SeM W0 n S LB m w s) (hb : Below w.heap.size w w') : SeM W0 n S LB m w' s :=
  h.keep (G := fun _ => False) (Turn.ofBelow hb) (fun _ e => e.elim) (fun _ e => e.elim)
theorem SeM.rows_lt {W0 w : World} {n S LB : Nat} {m : Mem} {s : Se} (h : SeM W0 n S LB m w s) : ∀ r ∈ m.R, r.1 < w.heap.size := by
  intro r hr
  obtain ⟨i, hi, hri⟩ := List.getElem_of_mem hr
  have hlt : i < s.parts.length := by rw [← h.rlen]; exact hi
  exact (h.row i r s.parts[i] (by rw [List.getElem?_eq_getElem hi, hri]) (List.getElem?_eq_getElem hlt)).2.1
/-- Those behind are taken off 'open'. -/
theorem SeM.popO {W0 w : World} {n S LB : Nat} {m : Mem} {s : Se} (h : SeM W0 n S LB m w s) {pre post : List Nat} (ho : s.opn = pre ++ post) :
    SeM W0 n S LB { m with cs := m.cs.set 12291 (.slice m.oA pre.length m.oc) } (w.setCell ⟨S, 12291, none⟩ (.slice m.oA pre.length m.oc)) { s with opn := pre } := by
  refine h.again (h.cell_turn _ _) (h.blk.set_ _ _) (by rw [List.length_set]; exact h.len) rfl rfl ?_ ?_ ?_ ?_ ?_ ?_ h.todo ?_
  · intro u hu
    rw [List.getElem?_set_ne (by omega), List.getElem?_set_ne (by omega), List.getElem?_set_ne (by omega)]
    exact h.far u hu
  · rw [List.getElem?_set_ne (by omega)]
  · rw [List.getElem?_set_ne (by omega)]; exact h.cCome
  · rw [List.getElem?_set_ne (by omega)]; exact h.cTodo
  · rw [List.getElem?_set_self (by rw [h.len]; omega)]
  · rw [List.getElem?_set_ne (by omega)]
  · have := h.opn.cut (k := pre.length) (by rw [ho]; simp)
    rw [ho, List.take_left] at this
    exact this
/-- What 'far' says of one node is turned. -/
theorem SeM.farSet {W0 w : World} {n S LB : Nat} {m : Mem} {s : Se} (h : SeM W0 n S LB m w s) {x : Nat} (hx : x < 4096) (c b : Nat) (d : Bool) :
    SeM W0 n S LB { m with cs := ((m.cs.set (x * 3) (ni c)).set (x * 3 + 1) (ni b)).set (x * 3 + 2) (.bool d) } (((w.setCell ⟨S, x * 3, none⟩ (ni c)).setCell ⟨S, x * 3 + 1, none⟩ (ni b)).setCell ⟨S, x * 3 + 2, none⟩ (.bool d)) { s with far := upd s.far x (c, b, d) } := by
  have hl := h.len
  refine h.again (((h.cell_turn _ _).setCell (p := ⟨S, x * 3 + 1, none⟩) (fun _ => rfl) _).setCell (p := ⟨S, x * 3 + 2, none⟩) (fun _ => rfl) _) (((h.blk.set_ _ _).set_ _ _).set_ _ _) (by simp only [List.length_set]; exact h.len) rfl rfl ?_ ?_ ?_ ?_ ?_ ?_ h.todo h.opn
  · intro u hu
    by_cases e : u = x
    · subst e
      rw [show ({ s with far := upd s.far u (c, b, d) } : Se).far u = (c, b, d) from upd_same]
      refine ⟨?_, ?_, ?_⟩
      · rw [List.getElem?_set_ne (by omega), List.getElem?_set_ne (by omega), List.getElem?_set_self (by omega)]
      · rw [List.getElem?_set_ne (by omega), List.getElem?_set_self (by simp only [List.length_set]; omega)]
      · rw [List.getElem?_set_self (by simp only [List.length_set]; omega)]
    · rw [show ({ s with far := upd s.far x (c, b, d) } : Se).far u = s.far u from upd_other e]
      have := h.far u hu
      refine ⟨?_, ?_, ?_⟩
      · rw [List.getElem?_set_ne (by omega), List.getElem?_set_ne (by omega), List.getElem?_set_ne (by omega)]; exact this.1
      · rw [List.getElem?_set_ne (by omega), List.getElem?_set_ne (by omega), List.getElem?_set_ne (by omega)]; exact this.2.1
      · rw [List.getElem?_set_ne (by omega), List.getElem?_set_ne (by omega), List.getElem?_set_ne (by omega)]; exact this.2.2
  · rw [List.getElem?_set_ne (by omega), List.getElem?_set_ne (by omega), List.getElem?_set_ne (by omega)]
  · rw [List.getElem?_set_ne (by omega), List.getElem?_set_ne (by omega), List.getElem?_set_ne (by omega)]; exact h.cCome
  · rw [List.getElem?_set_ne (by omega), List.getElem?_set_ne (by omega), List.getElem?_set_ne (by omega)]; exact h.cTodo
  · rw [List.getElem?_set_ne (by omega), List.getElem?_set_ne (by omega), List.getElem?_set_ne (by omega)]; exact h.cOpn
  · rw [List.getElem?_set_ne (by omega), List.getElem?_set_ne (by omega), List.getElem?_set_ne (by omega)]
set_option maxRecDepth 100000 in
set_option maxHeartbeats 1000000 in
theorem leave1_any (W0 : World) (n S LB : Nat) (m : Mem) (w : World) (s : Se) (v : Nat) (l : List Nat) (h : SeM W0 n S LB m w s) (hv : v < 4096) (ht : s.todo = l ++ [v]) (hb : (s.far v).2.1 < (s.far v).1) (hto1 : s.todo.length ≤ 4096) :
    Calls Try.prog 39 #[.pointer (some ⟨S, 0, none⟩), ni v] w fun e w' => e = .returned (.tuple #[]) ∧ ∃ m', SeM W0 n S LB m' w' { s with todo := l } := by
  have H := Lib.hid h
  have hk : s.todo.length = l.length + 1 := by rw [ht]; simp
  have htodo := h.todo
  rw [hk] at htodo
  obtain ⟨gT, hA, hg1, hg2, htc, _, _⟩ := ownSome htodo (by omega)
  have ct := h.rd h.cTodo
  rw [hk, hA] at ct
  obtain ⟨kt, hkt⟩ : ∃ kt, kt = l.length := ⟨_, rfl⟩
  rw [← hkt] at ct htc hk
  have HK := Lib.hid hkt
  have HKK := Lib.hid hk
  have HTO := Lib.hid htodo
  have HA := Lib.hid hA
  have HG1 := Lib.hid hg1
  have HTT := Lib.hid ht
  have HBB := Lib.hid hb
  have hkt2 : kt ≤ 4096 := by omega
  have ft := h.fz 12290
  obtain ⟨tc, htcc⟩ : ∃ tc, tc = m.tc := ⟨_, rfl⟩
  rw [← htcc] at ct htc
  have HTC := Lib.hid htcc
  clear h hkt hk htodo hA hg1 hg2 ht hb hto1 htcc
  have hwr : IntKind.i64.wrap (kt : Int) = (kt : Int) := by rw [IntKind.wrap_i64]; omega
  have hk1 : (kt : Int) ≤ (tc : Int) := by omega
  have hk0 : (0 : Int) ≤ (kt : Int) := by omega
  go_enter Try.func39, Try.ntmps39
  repeat (first | go_skip | go_guarded | go_step)
  go_still_tail 14, (by kernel_rfl)
  go_upto_region 1 with (fail)
  obtain ⟨m1, W1, hW1, hm1⟩ : ∃ m1 W1, W1 = (w.setCell ⟨S, 12290, none⟩ (.slice (some ⟨gT, 0, none⟩) kt tc)).drew ∧ SeM W0 n S LB m1 W1 { s with todo := l } :=
    ⟨_, _, rfl, by have := H.out.pop HTT.out; rw [HA.out, ← HK.out, ← HTC.out] at this; exact this⟩
  rw [← hW1]
  have HM1 := Lib.hid hm1
  obtain ⟨c1, c2⟩ := (hm1.far v hv)
  have hfb := fun q => (hm1.drewN q).rd c2.1
  have hfc := fun q => (hm1.drewN q).rd c1
  have hvi : (v : Int) < 4096 := by omega
  have hv0 : (0 : Int) ≤ (v : Int) := by omega
  have hdec : decide ((s.far v).2.1 < (s.far v).1) = true := decide_eq_true HBB.out
  clear hW1 hm1 ct ft c1 c2 hwr hk1 hk0
  dsimp only at hfb hfc
  go_quiet (fail)
  repeat (first | go_skip | go_guarded | go_step)
  refine bodyPost_ret (results_none rfl _ _ _) rfl ?_
  exact ⟨rfl, m1, HM1.out.drewN nq⟩
end Go.Proofs.Ytbfagejdpbagjaa
