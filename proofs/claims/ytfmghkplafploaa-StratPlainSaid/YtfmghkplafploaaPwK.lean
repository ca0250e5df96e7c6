/- Texts, packed: GrD GrE -/
import Derived.Test.YtfmghkplafploaaPwJ
set_option linter.unusedVariables false
set_option linter.unusedSimpArgs false
namespace Go.Proofs.Ytfmghkplafploaa
open Go Go.RowKit

theorem ownSome {w : World} {base n c : Nat} {e : TypeId} {A : Option Addr} {xs : List Value} (h : w.ownsRow base e 1 (.slice A n c) n xs) (hn : 0 < n) : ∃ g, A = some ⟨g, 0, none⟩ ∧ base ≤ g ∧ g < w.heap.size ∧ n ≤ c ∧ (∀ j u, xs[j]? = some u → w.cell? ⟨g, j, none⟩ = some u) ∧ (∀ j, w.frozen? ⟨g, j, none⟩ = false) := by
  rcases h.2 with ⟨_, h0⟩ | ⟨g, cap, cur, h1, h2, h3, h4, h5, h6, h7⟩
  · omega
  · simp only [Value.slice.injEq, true_and] at h1
    obtain ⟨rfl, rfl⟩ := h1
    refine ⟨g, rfl, h2, (Array.getElem?_eq_some_iff.1 h3).1, h4, fun j u hu => ?_, fun j => by simp [World.frozen?, h3]⟩
    rw [cell_of_row w g j cur e (0, 0) h3, ← Array.getElem?_toList]
    rw [← h7, List.getElem?_take] at hu
    split at hu
    · exact hu
    · cases hu
theorem SeM.drew {W0 w : World} {n S LB : Nat} {m : Mem} {s : Se} (h : SeM W0 n S LB m w s) : SeM W0 n S LB m w.drew s :=
  ⟨h.frame.drew, h.hS, h.hL, h.hSL, h.blk, h.len, h.far, h.cLeads, h.cCome, h.cTodo, h.cOpn, h.cParts, h.lblk, h.llen, h.lead, h.todo, h.opn, h.parts, h.rlen, h.row, h.ap1, h.ap2, h.ap3⟩
theorem drewN_succ (w : World) (q : Nat) : w.drewN (q + 1) = (w.drewN q).drew := by unfold World.drewN World.drew; simp [Nat.add_assoc]
theorem SeM.drewN {W0 w : World} {n S LB : Nat} {m : Mem} {s : Se} (h : SeM W0 n S LB m w s) : ∀ q, SeM W0 n S LB m (w.drewN q) s
  | 0 => h
  | q + 1 => by rw [drewN_succ]; exact (h.drewN q).drew
/-- What turns where one of the struct's cells behind 'far' is stored to. -/
theorem SeM.cell_turn {W0 w : World} {n S LB : Nat} {m : Mem} {s : Se} (h : SeM W0 n S LB m w s) (i : Nat) (u : Value) : Turn (fun k => k = S) w (w.setCell ⟨S, i, none⟩ u) := (Turn.refl (fun k => k = S) w).setCell (p := ⟨S, i, none⟩) (fun _ => rfl) _
theorem SeM.own_ne {W0 w : World} {n S LB : Nat} {m : Mem} {s : Se} (h : SeM W0 n S LB m w s) : (∀ k, blockOf m.tA = some k → k ≠ S ∧ k ≠ LB) ∧ (∀ k, blockOf m.oA = some k → k ≠ S ∧ k ≠ LB) ∧ (∀ k, blockOf m.pA = some k → k ≠ S ∧ k ≠ LB) := by
  have h1 := h.hS
  have h2 := h.hL
  refine ⟨fun k hk => ?_, fun k hk => ?_, fun k hk => ?_⟩
  · have := (own_low h.todo hk).1; omega
  · have := (own_low h.opn hk).1; omega
  · have := (own_low h.parts hk).1; omega
/-- The struct's block alone turned. -/
theorem SeM.again {W0 w w' : World} {n S LB : Nat} {m : Mem} {s : Se} (h : SeM W0 n S LB m w s) (T : Turn (fun k => k = S) w w') {cs : List Value} {s' : Se}
    (hb : Bk w' S 94 cs) (hl : cs.length = 12293) (e1 : s'.leads = s.leads) (e2 : s'.parts = s.parts)
    (hfar : ∀ v, v < 4096 → cs[v * 3]? = some (ni (s'.far v).1) ∧ cs[v * 3 + 1]? = some (ni (s'.far v).2.1) ∧ cs[v * 3 + 2]? = some (.bool (s'.far v).2.2))
    (h0 : cs[12288]? = m.cs[12288]?) (h1 : cs[12289]? = some (ni s'.come)) (h2 : cs[12290]? = some (.slice m.tA s'.todo.length m.tc)) (h3 : cs[12291]? = some (.slice m.oA s'.opn.length m.oc)) (h4 : cs[12292]? = m.cs[12292]?)
    (ht : OwI w W0.heap.size m.tA m.tc s'.todo.length s'.todo) (ho : OwI w W0.heap.size m.oA m.oc s'.opn.length s'.opn) :
    SeM W0 n S LB { m with cs := cs } w' s' := by
  obtain ⟨n1, n2, n3⟩ := h.own_ne
  refine ⟨h.frame.then_ T fun k _ e => .inl e, h.hS, h.hL, h.hSL, hb, hl, hfar, h0.trans h.cLeads, h1, h2, h3, ?_, T.bk h.lblk fun e => h.hSL e.symm, h.llen, ?_, turn_own T ht fun k hk e => (n1 k hk).1 e, turn_own T ho fun k hk e => (n2 k hk).1 e, ?_, ?_, ?_, h.ap1, h.ap2, h.ap3⟩
  · rw [e2]; exact h4.trans h.cParts
  · rw [e1]; exact h.lead
  · rw [e2]; exact turn_own T h.parts fun k hk e => (n3 k hk).1 e
  · rw [e2]; exact h.rlen
  · intro i r p hr hp
    rw [e2] at hp
    obtain ⟨g1, g2, g3, g4⟩ := h.row i r p hr hp
    refine ⟨g1, Nat.lt_of_lt_of_le g2 T.size, g3, fun j x hx => (T.cell (p := ⟨r.1, j, none⟩) g2 ?_).trans (g4 j x hx)⟩
    intro e
    have e' : r.1 = S := e
    have := h.hS
    omega
/-- The last of todo is taken off. -/
theorem SeM.pop {W0 w : World} {n S LB : Nat} {m : Mem} {s : Se} (h : SeM W0 n S LB m w s) {l : List Nat} {v : Nat} (ht : s.todo = l ++ [v]) :
    SeM W0 n S LB { m with cs := m.cs.set 12290 (.slice m.tA l.length m.tc) } ((w.setCell ⟨S, 12290, none⟩ (.slice m.tA l.length m.tc)).drew) { s with todo := l } := by
  refine SeM.drew (h.again (h.cell_turn _ _) (h.blk.set_ _ _) (by rw [List.length_set]; exact h.len) rfl rfl ?_ ?_ ?_ ?_ ?_ ?_ ?_ h.opn)
  · intro u hu
    rw [List.getElem?_set_ne (by omega), List.getElem?_set_ne (by omega), List.getElem?_set_ne (by omega)]
    exact h.far u hu
  · rw [List.getElem?_set_ne (by omega)]
  · rw [List.getElem?_set_ne (by omega)]; exact h.cCome
  · rw [List.getElem?_set_self (by rw [h.len]; omega)]
  · rw [List.getElem?_set_ne (by omega)]; exact h.cOpn
  · rw [List.getElem?_set_ne (by omega)]
  · have := h.todo.cut (k := l.length) (by rw [ht]; simp)
    rw [ht, List.take_left] at this
    exact this
/-- What turned is none of the search's. -/
theorem SeM.keep {G : Nat → Prop} {W0 w w' : World} {n S LB : Nat} {m : Mem} {s : Se} (h : SeM W0 n S LB m w s) (T : Turn G w w') (g1 : ∀ k, G k → W0.heap.size ≤ k) (g2 : ∀ k, G k → blockOf m.tA ≠ some k ∧ blockOf m.oA ≠ some k ∧ blockOf m.pA ≠ some k ∧ ∀ r ∈ m.R, r.1 ≠ k) : SeM W0 n S LB m w' s := by
  have hS := h.hS
  have hL := h.hL
  refine ⟨h.frame.then_ T fun k hk e => by have := g1 k e; omega, h.hS, h.hL, h.hSL, T.bk h.blk fun e => by have := g1 _ e; omega, h.len, h.far, h.cLeads, h.cCome, h.cTodo, h.cOpn, h.cParts, T.bk h.lblk fun e => by have := g1 _ e; omega, h.llen, h.lead, turn_own T h.todo fun k hk e => (g2 k e).1 hk, turn_own T h.opn fun k hk e => (g2 k e).2.1 hk, turn_own T h.parts fun k hk e => (g2 k e).2.2.1 hk, h.rlen, ?_, h.ap1, h.ap2, h.ap3⟩
  intro i r p hr hp
  obtain ⟨q1, q2, q3, q4⟩ := h.row i r p hr hp
  exact ⟨q1, Nat.lt_of_lt_of_le q2 T.size, q3, fun j x hx => (T.cell (p := ⟨r.1, j, none⟩) q2 fun e => (g2 _ e).2.2.2 r (List.mem_of_getElem? hr) rfl).trans (q4 j x hx)⟩
theorem SeM.later {W0 w w' : World} {n S LB : Nat} {m : Mem} {s : Se} (h : SeM W0 n S LB m w s) (hb : Below w.heap.size w w') : SeM W0 n S LB m w' s :=
  h.keep (G := fun _ => False) (Turn.ofBelow hb) (fun _ e => e.elim) (fun _ e => e.elim)
theorem SeM.rows_lt {W0 w : World} {n S LB : Nat} {m : Mem} {s : Se} (h : SeM W0 n S LB m w s) : ∀ r ∈ m.R, r.1 < w.heap.size := by
  intro r hr
  obtain ⟨i, hi, hri⟩ := List.getElem_of_mem hr
  have hlt : i < s.parts.length := by rw [← h.rlen]; exact hi
  exact (h.row i r s.parts[i] (by rw [List.getElem?_eq_getElem hi, hri]) (List.getElem?_eq_getElem hlt)).2.1
/-- Those behind are taken off 'open'. -/
theorem SeM.popO {W0 w : World} {n S LB : Nat} {m : Mem} {s : Se} (h : SeM W0 n S LB m w s) {pre post : List Nat} (ho : s.opn = pre ++ post) :
    SeM W0 n S LB { m with cs := m.cs.set 12291 (.slice m.oA pre.length m.oc) } (w.setCell ⟨S, 12291, none⟩ (.slice m.oA pre.length m.oc)) { s with opn := pre } := by
  refine h.again (h.cell_turn _ _) (h.blk.set_ _ _) (by rw [List.length_set]; exact h.len) rfl rfl ?_ ?_ ?_ ?_ ?_ ?_ h.todo ?_
  · intro u hu
    rw [List.getElem?_set_ne (by omega), List.getElem?_set_ne (by omega), List.getElem?_set_ne (by omega)]
    exact h.far u hu
  · rw [List.getElem?_set_ne (by omega)]
  · rw [List.getElem?_set_ne (by omega)]; exact h.cCome
  · rw [List.getElem?_set_ne (by omega)]; exact h.cTodo
  · rw [List.getElem?_set_self (by rw [h.len]; omega)]
  · rw [List.getElem?_set_ne (by omega)]
  · have := h.opn.cut (k := pre.length) (by rw [ho]; simp)
    rw [ho, List.take_left] at this
    exact this
/-- What 'far' says of one node is turned. -/
theorem SeM.farSet {W0 w : World} {n S LB : Nat} {m : Mem} {s : Se} (h : SeM W0 n S LB m w s) {x : Nat} (hx : x < 4096) (c b : Nat) (d : Bool) :
    SeM W0 n S LB { m with cs := ((m.cs.set (x * 3) (ni c)).set (x * 3 + 1) (ni b)).set (x * 3 + 2) (.bool d) } (((w.setCell ⟨S, x * 3, none⟩ (ni c)).setCell ⟨S, x * 3 + 1, none⟩ (ni b)).setCell ⟨S, x * 3 + 2, none⟩ (.bool d)) { s with far := upd s.far x (c, b, d) } := by
  have hl := h.len
  refine h.again (((h.cell_turn _ _).setCell (p := ⟨S, x * 3 + 1, none⟩) (fun _ => rfl) _).setCell (p := ⟨S, x * 3 + 2, none⟩) (fun _ => rfl) _) (((h.blk.set_ _ _).set_ _ _).set_ _ _) (by simp only [List.length_set]; exact h.len) rfl rfl ?_ ?_ ?_ ?_ ?_ ?_ h.todo h.opn
  · intro u hu
    by_cases e : u = x
    · subst e
      rw [show ({ s with far := upd s.far u (c, b, d) } : Se).far u = (c, b, d) from upd_same]
      refine ⟨?_, ?_, ?_⟩
      · rw [List.getElem?_set_ne (by omega), List.getElem?_set_ne (by omega), List.getElem?_set_self (by omega)]
      · rw [List.getElem?_set_ne (by omega), List.getElem?_set_self (by simp only [List.length_set]; omega)]
      · rw [List.getElem?_set_self (by simp only [List.length_set]; omega)]
    · rw [show ({ s with far := upd s.far x (c, b, d) } : Se).far u = s.far u from upd_other e]
      have := h.far u hu
      refine ⟨?_, ?_, ?_⟩
      · rw [List.getElem?_set_ne (by omega), List.getElem?_set_ne (by omega), List.getElem?_set_ne (by omega)]; exact this.1
      · rw [List.getElem?_set_ne (by omega), List.getElem?_set_ne (by omega), List.getElem?_set_ne (by omega)]; exact this.2.1
      · rw [List.getElem?_set_ne (by omega), List.getElem?_set_ne (by omega), List.getElem?_set_ne (by omega)]; exact this.2.2
  · rw [List.getElem?_set_ne (by omega), List.getElem?_set_ne (by omega), List.getElem?_set_ne (by omega)]
  · rw [List.getElem?_set_ne (by omega), List.getElem?_set_ne (by omega), List.getElem?_set_ne (by omega)]; exact h.cCome
  · rw [List.getElem?_set_ne (by omega), List.getElem?_set_ne (by omega), List.getElem?_set_ne (by omega)]; exact h.cTodo
  · rw [List.getElem?_set_ne (by omega), List.getElem?_set_ne (by omega), List.getElem?_set_ne (by omega)]; exact h.cOpn
  · rw [List.getElem?_set_ne (by omega), List.getElem?_set_ne (by omega), List.getElem?_set_ne (by omega)]
set_option maxRecDepth 100000 in
set_option maxHeartbeats 1000000 in
theorem leave1_any (W0 : World) (n S LB : Nat) (m : Mem) (w : World) (s : Se) (v : Nat) (l : List Nat) (h : SeM W0 n S LB m w s) (hv : v < 4096) (ht : s.todo = l ++ [v]) (hb : (s.far v).2.1 < (s.far v).1) (hto1 : s.todo.length ≤ 4096) :
    Calls Try.prog 62 #[.pointer (some ⟨S, 0, none⟩), ni v] w fun e w' => e = .returned (.tuple #[]) ∧ ∃ m', SeM W0 n S LB m' w' { s with todo := l } := by
  have H := Lib.hid h
  have hk : s.todo.length = l.length + 1 := by rw [ht]; simp
  have htodo := h.todo
  rw [hk] at htodo
  obtain ⟨gT, hA, hg1, hg2, htc, _, _⟩ := ownSome htodo (by omega)
  have ct := h.rd h.cTodo
  rw [hk, hA] at ct
  obtain ⟨kt, hkt⟩ : ∃ kt, kt = l.length := ⟨_, rfl⟩
  rw [← hkt] at ct htc hk
  have HK := Lib.hid hkt
  have HKK := Lib.hid hk
  have HTO := Lib.hid htodo
  have HA := Lib.hid hA
  have HG1 := Lib.hid hg1
  have HTT := Lib.hid ht
  have HBB := Lib.hid hb
  have hkt2 : kt ≤ 4096 := by omega
  have ft := h.fz 12290
  obtain ⟨tc, htcc⟩ : ∃ tc, tc = m.tc := ⟨_, rfl⟩
  rw [← htcc] at ct htc
  have HTC := Lib.hid htcc
  clear h hkt hk htodo hA hg1 hg2 ht hb hto1 htcc
  have hwr : IntKind.i64.wrap (kt : Int) = (kt : Int) := by rw [IntKind.wrap_i64]; omega
  have hk1 : (kt : Int) ≤ (tc : Int) := by omega
  have hk0 : (0 : Int) ≤ (kt : Int) := by omega
  go_enter Try.func62, Try.ntmps62
  repeat (first | go_skip | go_guarded | go_step)
  go_still_tail 14, (by kernel_rfl)
  go_upto_region 1 with (fail)
  obtain ⟨m1, W1, hW1, hm1⟩ : ∃ m1 W1, W1 = (w.setCell ⟨S, 12290, none⟩ (.slice (some ⟨gT, 0, none⟩) kt tc)).drew ∧ SeM W0 n S LB m1 W1 { s with todo := l } :=
    ⟨_, _, rfl, by have := H.out.pop HTT.out; rw [HA.out, ← HK.out, ← HTC.out] at this; exact this⟩
  rw [← hW1]
  have HM1 := Lib.hid hm1
  obtain ⟨c1, c2⟩ := (hm1.far v hv)
  have hfb := fun q => (hm1.drewN q).rd c2.1
  have hfc := fun q => (hm1.drewN q).rd c1
  have hvi : (v : Int) < 4096 := by omega
  have hv0 : (0 : Int) ≤ (v : Int) := by omega
  have hdec : decide ((s.far v).2.1 < (s.far v).1) = true := decide_eq_true HBB.out
  clear hW1 hm1 ct ft c1 c2 hwr hk1 hk0
  dsimp only at hfb hfc
  go_quiet (fail)
  repeat (first | go_skip | go_guarded | go_step)
  refine bodyPost_ret (results_none rfl _ _ _) rfl ?_
  exact ⟨rfl, m1, HM1.out.drewN nq⟩
end Go.Proofs.Ytfmghkplafploaa

set_option linter.unusedVariables false
set_option linter.unusedSimpArgs false
namespace Go.Proofs.Ytfmghkplafploaa
open Go Go.RowKit

/-- A part is put behind the others. -/
theorem SeM.push {W0 w w7 : World} {n S LB : Nat} {m : Mem} {s : Se} (h : SeM W0 n S LB m w s) {A7 : Option Addr} {c7 g c base : Nat} {p : List Nat} (T : Turn (fun k => blockOf m.pA = some k) w w7)
    (ho : w7.ownsRow W0.heap.size 43 1 (.slice A7 (s.parts.length + 1) c7) (s.parts.length + 1) (((m.R.zip s.parts).map fun x => .slice (some ⟨x.1.1, 0, none⟩) x.2.length x.1.2) ++ [.slice (some ⟨g, 0, none⟩) p.length c]))
    (hf : blockOf A7 = blockOf m.pA ∨ blockOf A7 = some w.heap.size) (hp : OwI w base (some ⟨g, 0, none⟩) c p.length p) (hp0 : 0 < p.length) (hb : W0.heap.size ≤ g)
    (h1 : blockOf m.tA ≠ some g) (h2 : blockOf m.oA ≠ some g) (h3 : blockOf m.pA ≠ some g) :
    ∃ m', SeM W0 n S LB m' (w7.setCell ⟨S, 12292, none⟩ (.slice A7 (s.parts.length + 1) c7)) { s with parts := s.parts ++ [p] } := by
  refine ⟨{ m with cs := m.cs.set 12292 (.slice A7 (s.parts.length + 1) c7), pA := A7, pc := c7, R := m.R ++ [(g, c)] }, ?_⟩
  obtain ⟨n1, n2, n3⟩ := h.own_ne
  have hS := h.hS
  have hL := h.hL
  have hlo := h.low
  have hl := h.len
  obtain ⟨w8, hw8⟩ : ∃ w8, w8 = w7.setCell ⟨S, 12292, none⟩ (.slice A7 (s.parts.length + 1) c7) := ⟨_, rfl⟩
  have T8 : Turn (fun k => k = S) w7 w8 := by rw [hw8]; exact (Turn.refl (fun k => k = S) w7).setCell (p := ⟨S, 12292, none⟩) (fun _ => rfl) _
  have TT : Turn (fun k => k = S ∨ blockOf m.pA = some k) w w8 := (T.mono fun k _ e => .inr e).then_ T8 fun k _ e => .inl e
  have b3 : ∀ k, blockOf m.pA = some k → W0.heap.size ≤ k := fun k hk => (own_low h.parts hk).1
  have hbk : Bk w7 S 94 m.cs := T.bk h.blk fun e => (n3 S e).1 rfl
  obtain ⟨_, hg, _, hglt, hpc, hpcell, _⟩ := ownSome hp hp0
  cases hg
  rw [← hw8]
  have hget : ∀ i, i ≠ 12292 → (m.cs.set 12292 (.slice A7 (s.parts.length + 1) c7))[i]? = m.cs[i]? := fun i hi => List.getElem?_set_ne (fun e => hi e.symm)
  refine ⟨h.frame.then_ TT fun k hk e => ?_, h.hS, h.hL, h.hSL, ?_, by rw [List.length_set]; exact h.len, ?_, ?_, ?_, ?_, ?_, ?_, TT.bk h.lblk ?_, h.llen, h.lead, turn_own TT h.todo ?_, turn_own TT h.opn ?_, ?_, ?_, ?_, ?_, ?_, ?_⟩
  · rcases e with e | e
    · exact .inl e
    · have := b3 k e; omega
  · rw [hw8]; exact hbk.set_ _ _
  · intro v hv
    show (m.cs.set 12292 _)[v * 3]? = _ ∧ (m.cs.set 12292 _)[v * 3 + 1]? = _ ∧ (m.cs.set 12292 _)[v * 3 + 2]? = _
    rw [hget _ (by omega), hget _ (by omega), hget _ (by omega)]; exact h.far v hv
  · exact (hget _ (by omega)).trans h.cLeads
  · exact (hget _ (by omega)).trans h.cCome
  · exact (hget _ (by omega)).trans h.cTodo
  · exact (hget _ (by omega)).trans h.cOpn
  · show (m.cs.set 12292 _)[12292]? = some (.slice A7 (s.parts ++ [p]).length c7)
    rw [List.getElem?_set_self (by omega), List.length_append]; rfl
  · rintro (e | e)
    · exact h.hSL e.symm
    · exact (n3 LB e).2 rfl
  · rintro k hk (e | e)
    · exact (n1 k hk).1 e
    · exact (h.ap1 k hk).2 e
  · rintro k hk (e | e)
    · exact (n2 k hk).1 e
    · exact h.ap2 k hk e
  · show w8.ownsRow W0.heap.size 43 1 (.slice A7 (s.parts ++ [p]).length c7) (s.parts ++ [p]).length (((m.R ++ [(g, c)]).zip (s.parts ++ [p])).map fun x => .slice (some ⟨x.1.1, 0, none⟩) x.2.length x.1.2)
    rw [List.zip_append h.rlen, List.map_append, List.length_append]
    refine turn_own T8 ho fun k hk e => ?_
    have := (own_low ho hk).1
    omega
  · show (m.R ++ [(g, c)]).length = (s.parts ++ [p]).length
    rw [List.length_append, List.length_append, h.rlen]; rfl
  · intro i r q hr hq
    by_cases hi : i < m.R.length
    · rw [List.getElem?_append_left hi] at hr
      rw [List.getElem?_append_left (by rw [← h.rlen]; exact hi)] at hq
      obtain ⟨q1, q2, q3, q4⟩ := h.row i r q hr hq
      refine ⟨q1, Nat.lt_of_lt_of_le q2 TT.size, q3, fun j x hx => (TT.cell (p := ⟨r.1, j, none⟩) q2 ?_).trans (q4 j x hx)⟩
      rintro (e | e)
      · have : r.1 = S := e
        omega
      · exact (h.ap3 r (List.mem_of_getElem? hr)).2.2 e
    · have hlt := (List.getElem?_eq_some_iff.1 hr).1
      simp only [List.length_append, List.length_singleton] at hlt
      obtain rfl : i = m.R.length := by omega
      rw [List.getElem?_append_right (Nat.le_refl _), Nat.sub_self] at hr
      rw [List.getElem?_append_right (by rw [h.rlen]; exact Nat.le_refl _), h.rlen, Nat.sub_self] at hq
      simp only [List.getElem?_cons_zero, Option.some.injEq] at hr hq
      subst hr hq
      refine ⟨hb, Nat.lt_of_lt_of_le hglt TT.size, hpc, fun j x hx => (TT.cell (p := ⟨g, j, none⟩) hglt ?_).trans (hpcell j (ni x) (by rw [List.getElem?_map, hx]; rfl))⟩
      rintro (e | e)
      · have : g = S := e
        omega
      · exact h3 e
  · intro k hk
    refine ⟨(h.ap1 k hk).1, fun e => ?_⟩
    have e' : blockOf A7 = some k := e
    rcases hf with q | q
    · exact (h.ap1 k hk).2 (q ▸ e')
    · rw [q] at e'; cases e'; have := (own_low h.todo hk).2; omega
  · intro k hk e
    have e' : blockOf A7 = some k := e
    rcases hf with q | q
    · exact h.ap2 k hk (q ▸ e')
    · rw [q] at e'; cases e'; have := (own_low h.opn hk).2; omega
  · intro r hr
    have hr' : r ∈ m.R ++ [(g, c)] := hr
    rcases List.mem_append.1 hr' with k | k
    · have := h.ap3 r k
      refine ⟨this.1, this.2.1, fun e => ?_⟩
      have e' : blockOf A7 = some r.1 := e
      rcases hf with q | q
      · exact this.2.2 (q ▸ e')
      · rw [q] at e'
        have h5 := Option.some.inj e'
        have := h.rows_lt r k
        omega
    · simp only [List.mem_singleton] at k
      subst k
      refine ⟨h1, h2, fun e => ?_⟩
      have e' : blockOf A7 = some g := e
      rcases hf with q | q
      · exact h3 (q ▸ e')
      · rw [q] at e'
        have h5 := Option.some.inj e'
        omega
set_option maxRecDepth 100000 in
set_option maxHeartbeats 2000000 in
theorem leave2_any (W0 : World) (n S LB : Nat) (m : Mem) (w : World) (s : Se) (v : Nat) (l : List Nat) (h : SeM W0 n S LB m w s) (hv : v < 4096) (ht : s.todo = l ++ [v]) (hb : ¬ (s.far v).2.1 < (s.far v).1) {pre post : List Nat} (hoo : s.opn = pre ++ v :: post) (hnp : v ∉ post) (hop1 : s.opn.length ≤ 4096) (hpa : s.parts.length ≤ 4096) (hll : ∀ x ∈ s.opn, x < 4096) (hto1 : s.todo.length ≤ 4096) :
    Calls Try.prog 62 #[.pointer (some ⟨S, 0, none⟩), ni v] w fun e w' => e = .returned (.tuple #[]) ∧ ∃ m', SeM W0 n S LB m' w' { s with todo := l, opn := pre, far := fun u => if u ∈ v :: post then dark else s.far u, parts := s.parts ++ [(v :: post).mergeSort (fun x y => decide (x ≤ y))] } := by
  have H := Lib.hid h
  have hk : s.todo.length = l.length + 1 := by rw [ht]; simp
  have htodo := h.todo
  rw [hk] at htodo
  obtain ⟨gT, hA, hg1, hg2, htc, hcl0, hfz0⟩ := ownSome htodo (by omega)
  have ct := h.rd h.cTodo
  rw [hk, hA] at ct
  obtain ⟨kt, hkt⟩ : ∃ kt, kt = l.length := ⟨_, rfl⟩
  rw [← hkt] at ct htc hk
  have HK := Lib.hid hkt
  have HKK := Lib.hid hk
  have HTO := Lib.hid htodo
  have HA := Lib.hid hA
  have HG1 := Lib.hid hg1
  have HTT := Lib.hid ht
  have HBB := Lib.hid hb
  have hkt2 : kt ≤ 4096 := by omega
  have ft := h.fz 12290
  obtain ⟨tc, htcc⟩ : ∃ tc, tc = m.tc := ⟨_, rfl⟩
  rw [← htcc] at ct htc
  have HTC := Lib.hid htcc
  have HOO := Lib.hid hoo
  have HNP := Lib.hid hnp
  have HPA := Lib.hid hpa
  have HOL := Lib.hid hop1
  have HLL := Lib.hid hll
  clear hll
  clear hoo hnp hpa hop1
  clear hcl0 hfz0
  clear h hkt hk htodo hA hg1 hg2 ht hb hto1 htcc
  have hwr : IntKind.i64.wrap (kt : Int) = (kt : Int) := by rw [IntKind.wrap_i64]; omega
  have hk1 : (kt : Int) ≤ (tc : Int) := by omega
  have hk0 : (0 : Int) ≤ (kt : Int) := by omega
  go_enter Try.func62, Try.ntmps62
  repeat (first | go_skip | go_guarded | go_step)
  go_still_tail 14, (by kernel_rfl)
  go_upto_region 1 with (fail)
  obtain ⟨m1, W1, hW1, hm1⟩ : ∃ m1 W1, W1 = (w.setCell ⟨S, 12290, none⟩ (.slice (some ⟨gT, 0, none⟩) kt tc)).drew ∧ SeM W0 n S LB m1 W1 { s with todo := l } :=
    ⟨_, _, rfl, by have := H.out.pop HTT.out; rw [HA.out, ← HK.out, ← HTC.out] at this; exact this⟩
  rw [← hW1]
  have HM1 := Lib.hid hm1
  obtain ⟨c1, c2⟩ := (hm1.far v hv)
  have hfb := fun q => (hm1.drewN q).rd c2.1
  have hfc := fun q => (hm1.drewN q).rd c1
  have hvi : (v : Int) < 4096 := by omega
  have hv0 : (0 : Int) ≤ (v : Int) := by omega
  have hdec : decide ((s.far v).2.1 < (s.far v).1) = false := decide_eq_false HBB.out
  clear hW1 hm1 ct ft c1 c2 hwr hk1 hk0
  dsimp only at hfb hfc
  go_quiet (fail)
  obtain ⟨W2, hW2⟩ : ∃ W2, W2 = W1.drewN nq := ⟨_, rfl⟩
  rw [← hW2]
  have HM2 := Lib.hid (show SeM W0 n S LB m1 W2 { s with todo := l } by rw [hW2]; exact HM1.out.drewN nq)
  clear hW2 hfb hfc HM1 hdec HBB HK HKK HTO HA HG1 HTC htc hkt2
  obtain ⟨kp, hkp⟩ : ∃ kp, kp = pre.length := ⟨_, rfl⟩
  obtain ⟨kq, hkq⟩ : ∃ kq, kq = post.length := ⟨_, rfl⟩
  have hN : s.opn.length = kp + kq + 1 := by rw [HOO.out, hkp, hkq]; simp; omega
  have hopn := HM2.out.opn
  have cO := HM2.out.rd HM2.out.cOpn
  dsimp only at hopn cO
  rw [hN] at hopn cO
  have hbnd : kp + kq + 1 ≤ 4096 := by rw [← hN]; exact HOL.out
  obtain ⟨gO, hA, hg1, hg2, hoc, hcl, hfz⟩ := ownSome hopn (by omega)
  rw [hA] at cO
  obtain ⟨oc, hocc⟩ : ∃ oc, oc = m1.oc := ⟨_, rfl⟩
  rw [← hocc] at cO hoc
  have HKP := Lib.hid hkp
  have HKQ := Lib.hid hkq
  have HN := Lib.hid hN
  have HA := Lib.hid hA
  have HOC := Lib.hid hocc
  have HCL := Lib.hid (show ∀ j x, s.opn[j]? = some x → W2.cell? ⟨gO, j, none⟩ = some (ni x) from fun j x hx => hcl j _ (by rw [List.getElem?_map, hx]; rfl))
  clear hkp hkq hN hopn hA hg1 hg2 hocc hcl hfz
  repeat (first | go_skip | go_guarded | go_step)
  go_loop [4] (fun t => ∃ k : Nat, kp ≤ k ∧ k ≤ kp + kq ∧ t = .int .i64 (k : Int)) (fun t => (intOf t).toNat)
  case atStart => exact ⟨kp + kq, by omega, by omega, by go_num⟩
  case round =>
    obtain ⟨k, hk1, hk2, rfl⟩ := hrel
    have hlt : k < s.opn.length := by rw [HN.out]; omega
    obtain ⟨x, hx⟩ : ∃ x, s.opn[k]? = some x := ⟨_, List.getElem?_eq_getElem hlt⟩
    have cx := HCL.out k x hx
    have HX := Lib.hid hx
    clear hx hlt
    by_cases hkk : k = kp
    · subst hkk
      obtain rfl : v = x := by
        have := HX.out
        rw [HOO.out, HKP.out, List.getElem?_append_right (Nat.le_refl _), Nat.sub_self] at this
        simpa using this
      have hxi : ((v : Int) != (v : Int)) = false := by simp
      have hw1 : k < oc := by omega
      repeat (first | go_skip | go_guarded | go_step)
      have hq : k + kq + 1 - k = kq + 1 := by omega
      rw [hq]
      clear hq
      refine (clone_any gO k (kq + 1) (oc - k) (v :: post) W2 (by rw [HKQ.out]; rfl) (by omega) (by omega) (fun j x hj => HCL.out (k + j) x (by
        rw [HOO.out, HKP.out, List.getElem?_append_right (by omega), Nat.add_sub_cancel_left]; exact hj))).mono ?_
      rintro e W3 ⟨A3, c3, rfl, ho3, hb3⟩
      have HP3 := Lib.hid ho3
      have HM3 := Lib.hid (HM2.out.later hb3)
      have HW3 := Lib.hid hb3.size
      have cO3 : W3.cell? ⟨S, 12291, none⟩ = some (.slice (some ⟨gO, 0, none⟩) (k + kq + 1) oc) := (hb3.cell HM2.out.ltS).trans cO
      have fO3 := HM3.out.fz 12291
      have hk5 : (k : Int) ≤ (oc : Int) := by omega
      clear ho3 hb3 cO cx
      dsimp only
      go_upto_region 7 with (fail)
      obtain ⟨cs4, W4, hW4, hm4⟩ : ∃ cs4 W4, W4 = W3.setCell ⟨S, 12291, none⟩ (.slice (some ⟨gO, 0, none⟩) k oc) ∧ SeM W0 n S LB { m1 with cs := cs4 } W4 { s with todo := l, opn := pre } :=
        ⟨_, _, rfl, by
          have e : Value.slice m1.oA pre.length m1.oc = .slice (some ⟨gO, 0, none⟩) k oc := by rw [HA.out, ← HKP.out, ← HOC.out]
          have := HM3.out.popO (pre := pre) (post := v :: post) HOO.out
          rw [e] at this
          exact this⟩
      rw [← hW4]
      have HP4 := Lib.hid (show OwI W4 W2.heap.size A3 c3 (kq + 1) (v :: post) by
        rw [hW4]; exact turn_own (HM3.out.cell_turn _ _) HP3.out (fun j hj e => by have := (own_low HP3.out hj).1; have := HM2.out.ltS; omega))
      have HM4 := Lib.hid hm4
      have HS4 := Lib.hid (show W3.heap.size = W4.heap.size by rw [hW4]; simp)
      clear hW4 hm4 cO3 fO3 hk5 hxi HX hk1 hk2 hoc hw1 HP3
      obtain ⟨gP, hgP, hgP1, hgP2, hgPc, _, _⟩ := ownSome HP4.out (by omega)
      subst hgP
      have HGP := Lib.hid hgP1
      clear hgP1 hgP2
      repeat (first | go_skip | go_guarded | go_step)
      go_loopw [72] (fun q wr => ∃ (j : Nat) (cs : List Value), j ≤ kq + 1 ∧ q = .int .i64 (j : Int) ∧ OwI wr W2.heap.size (some ⟨gP, 0, none⟩) c3 (kq + 1) (v :: post) ∧ SeM W0 n S LB { m1 with cs := cs } wr { s with todo := l, opn := pre, far := fun u => if u ∈ (v :: post).take j then dark else s.far u }) (fun q _ => kq + 1 - (intOf q).toNat)
      case atStart => exact ⟨0, cs4, by omega, rfl, HP4.out, by simpa using HM4.out⟩
      case round =>
        rename World => wr
        obtain ⟨j, cs, hj, rfl, hop, hms⟩ := hrel
        have HOP := Lib.hid hop
        have HMS := Lib.hid hms
        obtain ⟨_, hgq, _, hgq2, _, hcq, hfq⟩ := ownSome hop (by omega)
        cases hgq
        have HCQ := Lib.hid hcq
        clear hop hms hcq hfq hgq2
        by_cases hlt : j < kq + 1
        · obtain ⟨x, hx⟩ : ∃ x, (v :: post)[j]? = some x := ⟨_, List.getElem?_eq_getElem (by simp only [List.length_cons, ← HKQ.out]; omega)⟩
          have cx := HCQ.out j (ni x) (by rw [List.getElem?_map, hx]; rfl)
          have hx4 : x < 4096 := HLL.out x (by rw [HOO.out]; exact List.mem_append_right _ (List.mem_of_getElem? hx))
          have HX := Lib.hid hx
          have hji : (j : Int) < (kq : Int) + 1 := by omega
          have hxi : (x : Int) < 4096 := by omega
          obtain ⟨y1, y2, y3⟩ := HMS.out.far x hx4
          have z1 := HMS.out.rd y1
          have z2 := HMS.out.rd y2
          have z3 := HMS.out.rd y3
          have z4 := HMS.out.fz (x * 3)
          have z5 := HMS.out.fz (x * 3 + 1)
          have z6 := HMS.out.fz (x * 3 + 2)
          clear hx y1 y2 y3
          dsimp only at z1 z2 z3
          repeat (first | go_skip | go_guarded | go_step)
          have hfeq : (fun u => if u ∈ (v :: post).take (j + 1) then dark else s.far u) = upd (fun u => if u ∈ (v :: post).take j then dark else s.far u) x (0, 0, true) := by
            funext u
            have e : (v :: post).take (j + 1) = (v :: post).take j ++ [x] := by rw [List.take_add_one, HX.out]; rfl
            by_cases hu : u = x
            · subst hu
              rw [upd_same, if_pos (by rw [e]; simp)]; rfl
            · rw [upd_other hu]
              have : u ∈ (v :: post).take (j + 1) ↔ u ∈ (v :: post).take j := by rw [e]; simp [hu]
              by_cases hm : u ∈ (v :: post).take j
              · rw [if_pos hm, if_pos (this.2 hm)]
              · rw [if_neg hm, if_neg (fun k => hm (this.1 k))]
          have hfs := HMS.out.farSet hx4 0 0 true
          have T := ((HMS.out.cell_turn (x * 3) (ni 0)).setCell (p := ⟨S, x * 3 + 1, none⟩) (fun _ => rfl) (ni 0)).setCell (p := ⟨S, x * 3 + 2, none⟩) (fun _ => rfl) (.bool true)
          refine ⟨⟨j + 1, ((cs.set (x * 3) (ni 0)).set (x * 3 + 1) (ni 0)).set (x * 3 + 2) (.bool true), by omega, by go_num, turn_own T HOP.out (fun i hi e => by have := (own_low HOP.out hi).1; have := HM2.out.ltS; omega), ?_⟩, by simp [intOf]; omega⟩
          rw [hfeq]
          exact hfs
        · obtain rfl : j = kq + 1 := by omega
          have hji : ¬ (kq : Int) + 1 < (kq : Int) + 1 := by omega
          repeat (first | go_skip | go_guarded | go_step)
          refine (sort_any _ c3 (kq + 1) (v :: post) wr W2.heap.size HOP.out (by omega) (by omega)).mono ?_
          rintro e W6 ⟨rfl, ho6, ht6⟩
          have hMS := HMS.out
          rw [List.take_of_length_le (by rw [List.length_cons, ← HKQ.out]; exact Nat.le_refl _)] at hMS
          have b1 : ∀ k, blockOf m1.tA = some k → k < W2.heap.size := fun k hk => (own_low HM2.out.todo hk).2
          have b2 : ∀ k, blockOf m1.oA = some k → k < W2.heap.size := fun k hk => (own_low HM2.out.opn hk).2
          have b3 : ∀ k, blockOf m1.pA = some k → k < W2.heap.size := fun k hk => (own_low HM2.out.parts hk).2
          have b4 := HM2.out.rows_lt
          have hgp := HGP.out
          have hM6 := hMS.keep ht6 (fun k hk => by rw [blockOf_some] at hk; obtain rfl := Option.some.inj hk; exact Nat.le_trans HM2.out.low hgp) (fun k hk => by
            rw [blockOf_some] at hk
            obtain rfl := Option.some.inj hk
            exact ⟨fun e => by have := b1 _ e; omega, fun e => by have := b2 _ e; omega, fun e => by have := b3 _ e; omega, fun r hr e => by have := b4 r hr; omega⟩)
          have HM6 := Lib.hid hM6
          have HO6 := Lib.hid ho6
          have HB1 := Lib.hid b1
          have HB2 := Lib.hid b2
          have HB3 := Lib.hid b3
          have HB4 := Lib.hid b4
          have hpl : s.parts.length ≤ 4096 := HPA.out
          have cP := HM6.out.rd HM6.out.cParts
          dsimp only at cP
          have hlit := run_litS (some ⟨gP, 0, none⟩) (kq + 1) c3 W6
          obtain ⟨gl, hgl⟩ : ∃ gl, gl = W6.heap.size := ⟨_, rfl⟩
          have hZ0 : Below W6.heap.size W6 (W6.alloc (.cells #[.slice (some ⟨gP, 0, none⟩) (kq + 1) c3] 43)) := (Below.refl _ _).alloc (Nat.le_refl _) _
          have HMZ := Lib.hid (HM6.out.later hZ0)
          have HOZ := Lib.hid (show OwI (W6.alloc (.cells #[.slice (some ⟨gP, 0, none⟩) (kq + 1) c3] 43)) W2.heap.size (some ⟨gP, 0, none⟩) c3 (kq + 1) _ from ownBelow HO6.out hZ0 (Nat.le_refl _))
          have hbZ := HMZ.out.low
          clear hgl
          clear hMS b1 b2 b3 b4 hM6 ho6 ht6 hgp hZ0
          dsimp only
          repeat (first
            | (at_builtin; refine appS _ rfl (.tmp 89) (.tmp 91) rfl W0.heap.size m1.pA m1.pc s.parts.length _ rfl HMZ.out.parts _ _ 1 1 [.slice (some ⟨gP, 0, none⟩) (kq + 1) c3] rfl (litS_rd _ _ _ W6) (by simp [Value.oneCell']) (by omega) hbZ ?_
               intro A7 c7 W7 ho7 ht7 hf7
               have HO7 := Lib.hid ho7
               have HT7 := Lib.hid ht7
               have HF7 := Lib.hid hf7
               have hb7 := ht7.bk HMZ.out.blk (fun e => (HMZ.out.own_ne.2.2 S e).1 rfl)
               have cP7 : W7.cell? ⟨S, 12292, none⟩ = some (.slice m1.pA s.parts.length m1.pc) := (hb7.cell 12292).trans HMZ.out.cParts
               have fP7 := hb7.frozen 12292
               have HB7 := Lib.hid hb7
               clear ho7 ht7 hf7 hb7 cP hlit)
            | go_skip | go_guarded | go_step)
          go_end0
          have hpos : 0 < kq + 1 := by omega
          have hlenp : ((v :: post).mergeSort (fun x y => decide (x ≤ y))).length = kq + 1 := by rw [List.length_mergeSort, List.length_cons, HKQ.out]
          have hgp := HGP.out
          refine ⟨rfl, HMZ.out.push (g := gP) (c := c3) (base := W2.heap.size) HT7.out (by rw [hlenp]; exact HO7.out) HF7.out (by rw [hlenp]; exact HOZ.out) (by rw [hlenp]; exact hpos) (Nat.le_trans HM2.out.low hgp) (fun e => ?_) (fun e => ?_) (fun e => ?_)⟩
          · have := HB1.out _ e; omega
          · have := HB2.out _ e; omega
          · have := HB3.out _ e; omega
    · have hxv : x ≠ v := by
        intro e
        have h1 := HX.out
        rw [HOO.out, List.getElem?_append_right (by rw [← HKP.out]; omega), ← HKP.out, e] at h1
        obtain ⟨j, hj⟩ : ∃ j, k - kp = j + 1 := ⟨k - kp - 1, by omega⟩
        rw [hj, List.getElem?_cons_succ] at h1
        exact HNP.out (List.mem_of_getElem? h1)
      have hxi : ((x : Int) != (v : Int)) = true := by simp; omega
      have hk3 : 1 ≤ k := by omega
      repeat (first | go_skip | go_guarded | go_step)
      go_round
      case rel => exact ⟨k - 1, by omega, by omega, by go_num⟩
      case measure => simp [intOf]; omega
end Go.Proofs.Ytfmghkplafploaa

