/- Layer 9 (graph), the program's search: how it begins. -/
import Derived.Test.YtbfagejdpbagjaaGrF
import Derived.Deep.RegionHeld3
set_option linter.unusedVariables false
set_option linter.unusedSimpArgs false
namespace Go.Proofs.Ytbfagejdpbagjaa
open Go Go.RowKit

def far0 : List Value := (List.replicate 4096 [Value.int .i64 0, Value.int .i64 0, Value.bool false]).flatten
def seZ (A : Option Addr) (k c : Nat) : List Value := far0 ++ [.slice A k c, .int .i64 0, .slice none 0 0, .slice none 0 0, .slice none 0 0]
set_option maxRecDepth 1000000 in
theorem built58 (A : Option Addr) (k c : Nat) : Try.prog.built 58 [(1, .slice A k c)] = some (seZ A k c).toArray := by kernel_rfl
theorem far0_len : far0.length = 12288 := by
  unfold far0
  rw [List.length_flatten, List.map_replicate, List.sum_replicate_nat]
  rfl
/-! ### Edges in memory -/
def edC (e : Int × Int) : List Value := [.int .i64 e.1, .int .i64 e.2]
/-- A row of edges that is read; it lies below block B. -/
def RdE (w : World) (B : Nat) (A : Option Addr) (n : Nat) (E : List (Int × Int)) : Prop := Rd w B 2 A n (E.flatMap edC)
def ei (E : List (Nat × Nat)) : List (Int × Int) := E.map fun e => ((e.1 : Int), (e.2 : Int))
theorem ei_len (E : List (Nat × Nat)) : (ei E).length = E.length := by simp [ei]
theorem edFlat_len : ∀ E : List (Int × Int), (E.flatMap edC).length = E.length * 2
  | [] => rfl
  | e :: E => by rw [List.flatMap_cons, List.length_append, edFlat_len E, List.length_cons]; simp [edC]; omega
theorem edFlat_at : ∀ (E : List (Int × Int)) (i : Nat) (e : Int × Int), E[i]? = some e → (E.flatMap edC)[i * 2]? = some (.int .i64 e.1) ∧ (E.flatMap edC)[i * 2 + 1]? = some (.int .i64 e.2)
  | [], i, e, h => by simp at h
  | x :: E, 0, e, h => by
    simp only [List.getElem?_cons_zero, Option.some.injEq] at h
    subst h
    exact ⟨rfl, rfl⟩
  | x :: E, i + 1, e, h => by
    rw [List.getElem?_cons_succ] at h
    have := edFlat_at E i e h
    have e1 : (i + 1) * 2 = (i * 2) + 1 + 1 := by omega
    have e2 : (i + 1) * 2 + 1 = (i * 2 + 1) + 1 + 1 := by omega
    rw [List.flatMap_cons, e2, e1]
    exact this
theorem RdE.len {w : World} {B n : Nat} {A : Option Addr} {E : List (Int × Int)} (h : RdE w B A n E) : E.length = n := by
  have := h.1
  rw [edFlat_len] at this
  omega
theorem RdE.at_ {w : World} {B n : Nat} {A : Option Addr} {E : List (Int × Int)} (h : RdE w B A n E) {i : Nat} (hi : i < n) :
    ∃ b o e, A = some ⟨b, o, none⟩ ∧ b < B ∧ E[i]? = some e ∧ w.cell? ⟨b, o + i * 2, none⟩ = some (.int .i64 e.1) ∧ w.cell? ⟨b, o + i * 2 + 1, none⟩ = some (.int .i64 e.2) := by
  obtain ⟨b, o, hA, hb, hc⟩ := h.2 (by omega)
  have hl := h.len
  have he : E[i]? = some (E[i]'(by omega)) := List.getElem?_eq_getElem _
  obtain ⟨h1, h2⟩ := edFlat_at E i _ he
  refine ⟨b, o, _, hA, hb, he, hc _ _ h1, ?_⟩
  rw [Nat.add_assoc]
  exact hc _ _ h2
theorem RdE.below {w w' : World} {B n : Nat} {A : Option Addr} {E : List (Int × Int)} (h : RdE w B A n E) (hb : Below B w w') : RdE w' B A n E := Rd.below h hb
theorem RdE.more {w : World} {B B' n : Nat} {A : Option Addr} {E : List (Int × Int)} (h : RdE w B A n E) (hb : B ≤ B') : RdE w B' A n E := Rd.more h hb
theorem ei_at {E : List (Nat × Nat)} {i : Nat} {e : Int × Int} (h : (ei E)[i]? = some e) : ∃ x : Nat × Nat, E[i]? = some x ∧ e = ((x.1 : Int), (x.2 : Int)) := by
  unfold ei at h
  rw [List.getElem?_map] at h
  cases hx : E[i]? with
  | none => rw [hx] at h; cases h
  | some x => rw [hx] at h; exact ⟨x, rfl, by simpa using h.symm⟩

/-! ### Where the edges lead, in memory, as they are gathered -/
def outs (E : List (Nat × Nat)) (u : Nat) : List Nat := (E.filter fun e => e.1 == u).map (·.2)
theorem mem_outs {E : List (Nat × Nat)} {u v : Nat} : v ∈ outs E u ↔ (u, v) ∈ E := by
  unfold outs
  constructor
  · intro h
    obtain ⟨⟨a, b⟩, h1, h2⟩ := List.mem_map.1 h
    obtain ⟨h3, h4⟩ := List.mem_filter.1 h1
    have e1 : a = u := by simpa using h4
    have e2 : b = v := h2
    subst e1 e2
    exact h3
  · intro h
    exact List.mem_map.2 ⟨(u, v), List.mem_filter.2 ⟨h, by simp⟩, rfl⟩
theorem outs_snoc (E : List (Nat × Nat)) (a b u : Nat) : outs (E ++ [(a, b)]) u = if u = a then outs E u ++ [b] else outs E u := by
  unfold outs
  rw [List.filter_append, List.map_append]
  by_cases h : u = a
  · subst h; simp
  · have : ((a, b) :: ([] : List (Nat × Nat))).filter (fun e => e.1 == u) = [] := by
      simp; exact fun e => h e.symm
    rw [this, if_neg h]; simp
theorem outs_len (E : List (Nat × Nat)) (u : Nat) : (outs E u).length ≤ E.length := by
  unfold outs
  rw [List.length_map]
  exact List.length_filter_le _ _
structure Fil (w : World) (n S LB : Nat) (fA : Nat → Option Addr) (fc : Nat → Nat) (lv : List Value) (L : Nat → List Nat) (wr : World) : Prop where
  below : Below w.heap.size w wr
  hL : w.heap.size ≤ LB
  hS : LB < S
  blk : Bk wr S 58 (seZ (some ⟨LB, 0, none⟩) n n)
  lblk : Bk wr LB 33 lv
  llen : lv.length = n
  lead : ∀ u, u < n → lv[u]? = some (.slice (fA u) (L u).length (fc u)) ∧ OwI wr (S + 1) (fA u) (fc u) (L u).length (L u)
  ap : ∀ u v k, u < n → v < n → u ≠ v → blockOf (fA u) = some k → blockOf (fA v) ≠ some k
theorem seZ_at (A : Option Addr) (k c : Nat) : (seZ A k c)[12288]? = some (.slice A k c) ∧ (seZ A k c)[12289]? = some (ni 0) ∧ (seZ A k c)[12290]? = some (.slice none 0 0) ∧ (seZ A k c)[12291]? = some (.slice none 0 0) ∧ (seZ A k c)[12292]? = some (.slice none 0 0) := by
  unfold seZ
  refine ⟨?_, ?_, ?_, ?_, ?_⟩ <;> (rw [List.getElem?_append_right (by rw [far0_len]; omega), far0_len]; rfl)
theorem seZ_len (A : Option Addr) (k c : Nat) : (seZ A k c).length = 12293 := by unfold seZ; rw [List.length_append, far0_len]; rfl
theorem rep3_at (a b c : Value) : ∀ (n v : Nat), v < n → (List.replicate n [a, b, c]).flatten[v * 3]? = some a ∧ (List.replicate n [a, b, c]).flatten[v * 3 + 1]? = some b ∧ (List.replicate n [a, b, c]).flatten[v * 3 + 2]? = some c
  | 0, v, h => by omega
  | n + 1, 0, h => ⟨rfl, rfl, rfl⟩
  | n + 1, v + 1, h => by
    have := rep3_at a b c n v (by omega)
    have e1 : (v + 1) * 3 = (v * 3) + 1 + 1 + 1 := by omega
    have e2 : (v + 1) * 3 + 1 = (v * 3 + 1) + 1 + 1 + 1 := by omega
    have e3 : (v + 1) * 3 + 2 = (v * 3 + 2) + 1 + 1 + 1 := by omega
    rw [e3, e2, e1, List.replicate_succ, List.flatten_cons]
    exact this
theorem seZ_far (A : Option Addr) (k c v : Nat) (hv : v < 4096) : (seZ A k c)[v * 3]? = some (ni 0) ∧ (seZ A k c)[v * 3 + 1]? = some (ni 0) ∧ (seZ A k c)[v * 3 + 2]? = some (.bool false) := by
  unfold seZ
  have := rep3_at (.int .i64 0) (.int .i64 0) (.bool false) 4096 v hv
  rw [List.getElem?_append_left (by rw [far0_len]; omega), List.getElem?_append_left (by rw [far0_len]; omega), List.getElem?_append_left (by rw [far0_len]; omega)]
  exact this
/-- All edges were gathered: the search may begin. -/
theorem Fil.se {w wr : World} {n S LB : Nat} {fA : Nat → Option Addr} {fc : Nat → Nat} {lv : List Value} {L : Nat → List Nat} (h : Fil w n S LB fA fc lv L wr) :
    SeM wr n S LB ⟨none, 0, none, 0, none, 0, seZ (some ⟨LB, 0, none⟩) n n, lv, []⟩ wr ⟨fun _ => white, L, 0, [], [], []⟩ := by
  obtain ⟨z0, z1, z2, z3, z4⟩ := seZ_at (some ⟨LB, 0, none⟩) n n
  have hSl := h.blk.lt
  refine ⟨Turn.refl _ _, hSl, Nat.lt_trans h.hS hSl, by have := h.hS; omega, h.blk, seZ_len _ _ _, fun v hv => seZ_far _ _ _ v hv, z0, z1, z2, z3, z4, h.lblk, h.llen, ?_, OwI.nil _ _, OwI.nil _ _, World.ownsRow_nil _ _ _ _, rfl, ?_, ?_, ?_, ?_⟩
  · intro u hu
    obtain ⟨h1, h2⟩ := h.lead u hu
    refine ⟨fA u, fc u, h1, h2.le, fun hp => ?_⟩
    obtain ⟨g, e, hg, hlt, _, hc, _⟩ := ownSome h2 hp
    have := h.hS
    refine ⟨g, 0, e, hlt, by omega, by omega, fun j v hv => ?_⟩
    rw [Nat.zero_add]
    exact hc j (ni v) (by rw [List.getElem?_map]; exact congrArg (Option.map ni) hv)
  · intro i r p hr; simp at hr
  · intro k hk; exact absurd hk (by simp [blockOf])
  · intro k hk; exact absurd hk (by simp [blockOf])
  · intro r hr; simp at hr
/-- One edge more. -/
theorem Fil.step {w wr Z : World} {n S LB : Nat} {fA : Nat → Option Addr} {fc : Nat → Nat} {lv : List Value} {L : Nat → List Nat} (h : Fil w n S LB fA fc lv L wr) {a b : Nat} (ha : a < n) {A3 : Option Addr} {c3 : Nat}
    (T : Turn (fun k => blockOf (fA a) = some k) wr Z) (ho : OwI Z (S + 1) A3 c3 ((L a).length + 1) (L a ++ [b])) (hf : blockOf A3 = blockOf (fA a) ∨ ∃ k, blockOf A3 = some k ∧ wr.heap.size ≤ k) :
    Fil w n S LB (upd fA a A3) (upd fc a c3) (lv.set a (.slice A3 ((L a).length + 1) c3)) (upd L a (L a ++ [b])) (Z.setCell ⟨LB, a, none⟩ (.slice A3 ((L a).length + 1) c3)) := by
  have h1 := (h.lead a ha).2
  have hS := h.hS
  have hL := h.hL
  have hg : ∀ k, blockOf (fA a) = some k → S + 1 ≤ k ∧ k < wr.heap.size := fun k hk => own_low h1 hk
  obtain ⟨Y, hY⟩ : ∃ Y, Y = Z.setCell ⟨LB, a, none⟩ (.slice A3 ((L a).length + 1) c3) := ⟨_, rfl⟩
  have TY : Turn (fun k => k = LB) Z Y := by rw [hY]; exact (Turn.refl (fun k => k = LB) Z).setCell (p := ⟨LB, a, none⟩) (fun _ => rfl) _
  have TT : Turn (fun k => k = LB ∨ blockOf (fA a) = some k) wr Y := (T.mono fun k _ e => .inr e).then_ TY fun k _ e => .inl e
  rw [← hY]
  have hws : w.heap.size ≤ wr.heap.size := h.below.size
  refine ⟨h.below.trans (TT.below (B := w.heap.size) (fun k _ e => ?_) hws), hL, hS, TT.bk h.blk ?_, ?_, by rw [List.length_set]; exact h.llen, ?_, ?_⟩
  · rcases e with e | e
    · omega
    · have := hg k e; omega
  · rintro (e | e)
    · omega
    · have := hg S e; omega
  · rw [hY]
    exact (T.bk h.lblk fun e => by have := hg LB e; omega).set_ _ _
  · intro u hu
    by_cases e : u = a
    · subst e
      rw [upd_same, upd_same, upd_same, List.length_append, List.length_singleton]
      exact ⟨List.getElem?_set_self (by rw [h.llen]; exact hu), turn_own TY ho fun k hk e => by have := (own_low ho hk).1; omega⟩
    · rw [upd_other e, upd_other e, upd_other e]
      obtain ⟨g1, g2⟩ := h.lead u hu
      refine ⟨(List.getElem?_set_ne (fun k => e k.symm)).trans g1, turn_own TT g2 fun k hk q => ?_⟩
      rcases q with q | q
      · have := (own_low g2 hk).1; omega
      · exact h.ap u a k hu ha e hk q
  · intro u v k hu hv hne hk
    by_cases e1 : u = a
    · subst e1
      rw [upd_same] at hk
      rw [upd_other (fun e => hne e.symm)]
      intro q
      rcases hf with f | ⟨j, f, hj⟩
      · exact h.ap u v k hu hv hne (f ▸ hk) q
      · rw [f] at hk
        have := Option.some.inj hk
        have := (own_low (h.lead v hv).2 q).2
        omega
    · rw [upd_other e1] at hk
      by_cases e2 : v = a
      · subst e2
        rw [upd_same]
        intro q
        rcases hf with f | ⟨j, f, hj⟩
        · exact h.ap u v k hu hv hne hk (f ▸ q)
        · rw [f] at q
          have := Option.some.inj q
          have := (own_low (h.lead u hu).2 hk).2
          omega
      · rw [upd_other e2]
        exact h.ap u v k hu hv hne hk
theorem Fil.later {w wr Z : World} {n S LB : Nat} {fA : Nat → Option Addr} {fc : Nat → Nat} {lv : List Value} {L : Nat → List Nat} (h : Fil w n S LB fA fc lv L wr) (hb : Below wr.heap.size wr Z) : Fil w n S LB fA fc lv L Z :=
  ⟨h.below.trans (hb.mono h.below.size), h.hL, h.hS, h.blk.later hb, h.lblk.later hb, h.llen, fun u hu => ⟨(h.lead u hu).1, ownBelow (h.lead u hu).2 hb (Nat.le_refl _)⟩, h.ap⟩
end Go.Proofs.Ytbfagejdpbagjaa
