/- Texts, packed: PbA PbB -/
import Derived.Test.YtoigpbajefkpoaaGreatDoorPyI
import Derived.Test.YtoigpbajefkpoaaGreatDoorPyH
import Derived.WalkSmall
set_option linter.unusedVariables false
set_option linter.unusedSimpArgs false
namespace Go.Proofs.YtoigpbajefkpoaaGreatDoor
open Go Go.RowKit

/-! ### steps, as plain mathematics -/
def hdE (sz : Nat) (l : List Wd) : Wd := match l with | [] => (0, [], sz) | w :: _ => w
theorem hdE_kind (sz : Nat) (l : List Wd) : (hdE sz l).1 = kindE l := by cases l <;> rfl
theorem hdE_place (sz : Nat) (l : List Wd) : (hdE sz l).2.2 = placeE sz l := by cases l <;> rfl
theorem hdE_tx (sz : Nat) (l : List Wd) : (⟨(hdE sz l).2.1.toArray⟩ : ByteArray) = txE l := by cases l <;> rfl
def takeE (sz : Nat) (ks : List Nat) (s : PS) : Except PE (Wd × PS) := if kindE s.1 ∈ ks then .ok (hdE sz s.1, nextE s) else .error (5, placeE sz s.1)
def numE (x : Wd) (s : PS) : Except PE (Nat × PS) :=
 match findO s.2.1 ⟨x.2.1.toArray⟩ with
 | some i => .ok (i, s)
 | none => if 4096 ≤ s.2.1.length then .error (6, x.2.2) else .ok (s.2.1.length, (s.1, s.2.1 ++ [⟨x.2.1.toArray⟩], s.2.2))
def varE (x : Wd) (s : PS) : Except PE (Nat × PS) :=
 match findO s.2.2 ⟨x.2.1.toArray⟩ with
 | some i => .ok (i, s)
 | none => if 16 ≤ s.2.2.length then .error (6, x.2.2) else .ok (s.2.2.length, (s.1, s.2.1, s.2.2 ++ [⟨x.2.1.toArray⟩]))
theorem name_eq (sz : Nat) (s : PS) : nameE sz s = bindE (takeE sz [1] s) numE := by
 unfold nameE takeE
 by_cases h : kindE s.1 = 1
 ·
  rw [if_pos h, if_pos (show kindE s.1 ∈ [1] by simp [h])]
  show _ = numE (hdE sz s.1) (nextE s)
  unfold numE
  rw [hdE_tx, hdE_place]
  dsimp only
  cases findO s.2.1 (txE s.1) <;> rfl
 ·
  rw [if_neg h, if_neg (show ¬ kindE s.1 ∈ [1] by simp [h])]
  rfl
theorem term_eq (sz : Nat) (s : PS) : termE sz s = bindE (takeE sz [1, 2] s) fun x s1 => if x.1 = 2 then bindE (varE x s1) fun i s2 => .ok ((true, UInt32.ofNat i), s2) else bindE (numE x s1) fun i s2 => .ok ((false, UInt32.ofNat i), s2) := by
 unfold termE takeE
 by_cases h : kindE s.1 = 2
 ·
  rw [if_pos h, if_pos (show kindE s.1 ∈ [1, 2] by simp [h])]
  show _ = (if (hdE sz s.1).1 = 2 then bindE (varE (hdE sz s.1) (nextE s)) _ else _)
  rw [hdE_kind, if_pos h]
  unfold varE
  rw [hdE_tx, hdE_place]
  dsimp only
  cases findO s.2.2 (txE s.1) with
  | some i => rfl
  | none =>
   dsimp only
   split <;> rfl
 ·
  rw [if_neg h]
  by_cases h1 : kindE s.1 = 1
  ·
   rw [if_pos (show kindE s.1 ∈ [1, 2] by simp [h1]), name_eq, takeE, if_pos (show kindE s.1 ∈ [1] by simp [h1])]
   show bindE (numE (hdE sz s.1) (nextE s)) _ = (if (hdE sz s.1).1 = 2 then _ else bindE (numE (hdE sz s.1) (nextE s)) _)
   rw [hdE_kind, if_neg h]
  ·
   rw [if_neg (show ¬ kindE s.1 ∈ [1, 2] by simp [h, h1]), name_eq, takeE, if_neg (show ¬ kindE s.1 ∈ [1] by simp [h1])]
   rfl
/-- A word that is of use as a name. -/
def NmW (x : Wd) : Prop := Nm ⟨x.2.1.toArray⟩
theorem gs_take {sz : Nat} {ks : List Nat} {s s' : PS} {x : Wd} (h : Gs s) (hf : takeE sz ks s = .ok (x, s')) : Gs s' ∧ (x.1 = 1 → NmW x) ∧ x.1 ∈ ks := by
 unfold takeE at hf
 split at hf
 ·
  rename_i hk
  simp only [Except.ok.injEq, Prod.mk.injEq] at hf
  obtain ⟨rfl, rfl⟩ := hf
  refine ⟨(gs_next h).gs, fun h1 => ?_, by rw [hdE_kind]; exact hk⟩
  rw [hdE_kind] at h1
  obtain ⟨l, N, V⟩ := s
  cases l with
  | nil => cases h1
  | cons w l => exact h.ws w (by simp) h1
 ·
  cases hf
theorem gs_num {s s' : PS} {x : Wd} {i : Nat} (h : Gs s) (hx : NmW x) (hf : numE x s = .ok (i, s')) : Gs s' ∧ i < 4096 := by
 have h2 := h.good.len
 unfold numE at hf
 split at hf
 ·
  rename_i j hj
  simp only [Except.ok.injEq, Prod.mk.injEq] at hf
  obtain ⟨rfl, rfl⟩ := hf
  have h1 := findO_lt hj
  exact ⟨h, by omega⟩
 ·
  rename_i hj
  split at hf
  ·
   cases hf
  ·
   rename_i hl
   simp only [Except.ok.injEq, Prod.mk.injEq] at hf
   obtain ⟨rfl, rfl⟩ := hf
   refine ⟨⟨h.ws, ?_, h.nodup, h.few⟩, by omega⟩
   have hg := h.good
   refine ⟨?_, ?_, ?_⟩
   ·
    rw [List.nodup_append]
    exact ⟨hg.nodup, by simp, fun a ha b hb e => findO_mem.1 hj (by simp at hb; rw [← hb, ← e]; exact ha)⟩
   ·
    intro y hy
    rcases List.mem_append.1 hy with h1 | h1
    ·
     exact hg.may y h1
    ·
     rw [List.mem_singleton] at h1
     rw [h1]
     exact hx.2
   ·
    simp
    omega
theorem gs_var {s s' : PS} {x : Wd} {i : Nat} (h : Gs s) (hf : varE x s = .ok (i, s')) : Gs s' ∧ i < 16 := by
 have h2 := h.few
 unfold varE at hf
 split at hf
 ·
  rename_i j hj
  simp only [Except.ok.injEq, Prod.mk.injEq] at hf
  obtain ⟨rfl, rfl⟩ := hf
  have h1 := findO_lt hj
  exact ⟨h, by omega⟩
 ·
  rename_i hj
  split at hf
  ·
   cases hf
  ·
   rename_i hl
   simp only [Except.ok.injEq, Prod.mk.injEq] at hf
   obtain ⟨rfl, rfl⟩ := hf
   refine ⟨⟨h.ws, h.good, ?_, by simp; omega⟩, by omega⟩
   show (s.2.2 ++ [_]).Nodup
   rw [List.nodup_append]
   exact ⟨h.nodup, by simp, fun a ha b hb e => findO_mem.1 hj (by simp at hb; rw [← hb, ← e]; exact ha)⟩

/-! ### the state in memory -/
abbrev LT : TypeId := 75
abbrev LW : TypeId := 72
abbrev LTab : TypeId := 88
theorem Tb.types {w : World} {g : Nat} {F : Nat → Prop} {l : List ByteArray} (h : Tb w g F l) {k : Nat} (hk : F k) {cs : Array Value} {t : TypeId} {fr : Nat × Nat} (ho : w.heap[k]? = some (.cells cs t fr)) : t = LTab ∨ t = 9 := by
 obtain ⟨X, M, ⟨A, c, h1, h2, h3, h4, h5⟩, rfl⟩ := h
 rcases hk with rfl | hk | hk
 ·
  have := ho.symm.trans h1
  simp only [Option.some.injEq, Obj.cells.injEq] at this
  exact .inl this.2.1
 ·
  rw [h4] at hk
  rcases h2.2 with ⟨h0, _⟩ | ⟨g', cap, cur, h0, hg, hc, _⟩
  ·
   simp only [Value.slice.injEq] at h0
   rw [h0.1] at hk
   simp [Value.ownBlock] at hk
  ·
   simp only [Value.slice.injEq] at h0
   rw [h0.1] at hk
   simp only [Value.ownBlock, Option.some.injEq] at hk
   subst hk
   have := ho.symm.trans hc
   simp only [Option.some.injEq, Obj.cells.injEq] at this
   exact .inr this.2.1
 ·
  rcases h3 with ⟨h, _⟩ | ⟨m, h, h6⟩
  ·
   rw [h] at hk
   cases hk
  ·
   rw [h] at hk
   cases hk
   obtain ⟨D, hm, _⟩ := h6
   obtain ⟨es, n, hh, _⟩ := hm
   have := ho.symm.trans hh
   cases this
/-- The words in memory, from a place on. -/
def WR (w : World) (b o : Nat) (L : List Wd) : Prop := (∃ cs fr, w.heap[b]? = some (.cells cs LW fr)) ∧
 ∀ (i : Nat) (x : Wd), L[i]? = some x → w.cell? ⟨b, o + 3 * i, none⟩ = some (.int .u8 (x.1 : Int)) ∧ w.cell? ⟨b, o + 3 * i + 1, none⟩ = some (strV x.2.1) ∧ w.cell? ⟨b, o + 3 * i + 2, none⟩ = some (.int .i64 (x.2.2 : Int))
theorem WR.lt {w : World} {b o : Nat} {L : List Wd} (h : WR w b o L) : b < w.heap.size := by
 obtain ⟨⟨cs, fr, h⟩, _⟩ := h
 exact (Array.getElem?_eq_some_iff.1 h).1
theorem WR.turn {w w' : World} {b o : Nat} {L : List Wd} {G : Nat → Prop} (h : WR w b o L) (ht : Turn G w w') (hn : ¬ G b) : WR w' b o L := by
 have hlt := h.lt
 obtain ⟨⟨cs, fr, h1⟩, h2⟩ := h
 refine ⟨⟨cs, fr, (ht.block b hlt hn).trans h1⟩, fun i x hx => ?_⟩
 obtain ⟨e1, e2, e3⟩ := h2 i x hx
 exact ⟨(ht.cell (p := ⟨b, o + 3 * i, none⟩) hlt hn).trans e1, (ht.cell (p := ⟨b, o + 3 * i + 1, none⟩) hlt hn).trans e2, (ht.cell (p := ⟨b, o + 3 * i + 2, none⟩) hlt hn).trans e3⟩
theorem WR.tail {w : World} {b o : Nat} {x : Wd} {L : List Wd} (h : WR w b o (x :: L)) : WR w b (o + 3) L := by
 refine ⟨h.1, fun i y hy => ?_⟩
 obtain ⟨e1, e2, e3⟩ := h.2 (i + 1) y (by simpa using hy)
 rw [show o + 3 * (i + 1) = o + 3 + 3 * i by omega] at e1 e2 e3
 exact ⟨e1, e2, e3⟩
/-- The blocks that the parser's own things are made of. -/
def LFp (g : Nat) (Ff : Nat → Prop) (v : Value) (k : Nat) : Prop := k = g ∨ Ff k ∨ v.ownBlock = some k
/-- The parser at block g, F: its blocks; the table at gt, of the blocks Ft, holds l0; the text has sz bytes; s: the words left, the names, the variables. -/
def LSt (gt : Nat) (Ft : Nat → Prop) (l0 : List ByteArray) (sz wb : Nat) (w : World) (F : Nat → Prop) (g : Nat) (s : PS) : Prop :=
 ∃ (o c : Nat) (AV : Option Addr) (nV cV gf : Nat) (Ff : Nat → Prop) (ns : List ByteArray),
  Bk w g LT [.slice (some ⟨wb, o, none⟩) (s.1.length + 1) c, .pointer (some ⟨gt, 0, none⟩), .pointer (some ⟨gf, 0, none⟩), .slice AV nV cV] ∧
  WR w wb o (s.1 ++ [(0, [], sz)]) ∧ s.1.length + 1 ≤ c ∧ s.1.length ≤ 70000 ∧ Tb w gt Ft l0 ∧ Tb w gf Ff ns ∧ s.2.1 = l0 ++ ns ∧ OwS w 0 AV cV nV s.2.2 ∧
  F = LFp g Ff (.slice AV nV cV) ∧ (∀ k, Ff k → ¬ Ft k) ∧ (∀ k, (Value.slice AV nV cV).ownBlock = some k → ¬ Ff k ∧ ¬ Ft k) ∧ Gs s
/-- What turns in a step: the parser's own blocks; it may get new ones. -/
structure Mv (F F' : Nat → Prop) (w w' : World) : Prop where
 turn : Turn F w w'
 grow : ∀ k, F' k → F k ∨ w.heap.size ≤ k
theorem Mv.refl (F : Nat → Prop) (w : World) : Mv F F w w := ⟨Turn.refl _ _, fun _ h => .inl h⟩
theorem Mv.later {F F' : Nat → Prop} {a b c : World} (h : Mv F F' a b) (hb : Below a.heap.size b c) : Mv F F' a c :=
 ⟨h.turn.then_ (Turn.ofBelowB (G := fun k => a.heap.size ≤ k) hb (fun k h _ => h)) (fun k hk h => absurd hk (by omega)), h.grow⟩
theorem Mv.trans {F F' F'' : Nat → Prop} {a b c : World} (h : Mv F F' a b) (k : Mv F' F'' b c) : Mv F F'' a c := by
 have hsz := h.turn.size
 refine ⟨h.turn.then_ k.turn (fun i hi hg => ?_), fun i hi => ?_⟩
 ·
  rcases h.grow i hg with h | h
  ·
   exact h
  ·
   omega
 ·
  rcases k.grow i hi with h1 | h1
  ·
   exact h.grow i h1
  ·
   exact .inr (by omega)
theorem Mv.endT {F F' : Nat → Prop} {a b c : World} (h : Mv F F' a b) (k : Turn F' b c) : Turn F a c :=
 (h.trans ⟨k, fun _ h => .inl h⟩ : Mv F F' a c).turn
theorem Mv.ofBelow {F : Nat → Prop} {w w' : World} (h : Below w.heap.size w w') : Mv F F w w' := (Mv.refl F w).later h
/-- The parser's own panic. -/
abbrev pnc (z : PE) : Ending := .panicked [{ v := .iface 144 (.agg #[.int .i64 (z.2 : Int), .int .i64 (z.1 : Int)]), recovered := false }]
section
variable {gt : Nat} {Ft : Nat → Prop} {l0 : List ByteArray} {sz wb : Nat} {w w' : World} {F : Nat → Prop} {g : Nat} {s : PS}
theorem LSt.gs (h : LSt gt Ft l0 sz wb w F g s) : Gs s := by
 obtain ⟨o, c, AV, nV, cV, gf, Ff, ns, h1, h2, h3, h4, h5, h6, h7, h8, h9, h10, h11, h12⟩ := h
 exact h12
theorem LSt.at_ (h : LSt gt Ft l0 sz wb w F g s) : F g ∧ g < w.heap.size := by
 obtain ⟨o, c, AV, nV, cV, gf, Ff, ns, h1, h2, h3, h4, h5, h6, h7, h8, rfl, h10, h11, h12⟩ := h
 exact ⟨.inl rfl, h1.lt⟩
theorem LSt.tab (h : LSt gt Ft l0 sz wb w F g s) : Tb w gt Ft l0 := by
 obtain ⟨o, c, AV, nV, cV, gf, Ff, ns, h1, h2, h3, h4, h5, h6, h7, h8, rfl, h10, h11, h12⟩ := h
 exact h5
theorem LSt.bk (h : LSt gt Ft l0 sz wb w F g s) : ∃ cs, Bk w g LT cs := by
 obtain ⟨o, c, AV, nV, cV, gf, Ff, ns, h1, _⟩ := h
 exact ⟨_, h1⟩
theorem LSt.types (h : LSt gt Ft l0 sz wb w F g s) {k : Nat} (hk : F k) {cs : Array Value} {t : TypeId} {fr : Nat × Nat} (ho : w.heap[k]? = some (.cells cs t fr)) : t = LT ∨ t = LTab ∨ t = 9 := by
 obtain ⟨o, c, AV, nV, cV, gf, Ff, ns, h1, h2, h3, h4, h5, h6, h7, h8, rfl, h10, h11, h12⟩ := h
 rcases hk with rfl | hk | hk
 ·
  have := ho.symm.trans h1
  simp only [Option.some.injEq, Obj.cells.injEq] at this
  exact .inl this.2.1
 ·
  exact .inr (h6.types hk ho)
 ·
  rcases h8.2 with ⟨h0, _⟩ | ⟨g', cap, cur, h0, hg, hc, _⟩
  ·
   simp only [Value.slice.injEq] at h0
   rw [h0.1] at hk
   simp [Value.ownBlock] at hk
  ·
   simp only [Value.slice.injEq] at h0
   rw [h0.1] at hk
   simp only [Value.ownBlock, Option.some.injEq] at hk
   subst hk
   have := ho.symm.trans hc
   simp only [Option.some.injEq, Obj.cells.injEq] at this
   exact .inr (.inr this.2.1)
theorem LSt.lt (h : LSt gt Ft l0 sz wb w F g s) : ∀ k, F k → k < w.heap.size := by
 obtain ⟨o, c, AV, nV, cV, gf, Ff, ns, h1, h2, h3, h4, h5, h6, h7, h8, rfl, h10, h11, h12⟩ := h
 rintro k (rfl | hk | hk)
 ·
  exact h1.lt
 ·
  exact h6.lt k hk
 ·
  exact (World.ownsRow.lt h8 k hk).2
theorem LSt.notT (h : LSt gt Ft l0 sz wb w F g s) {k : Nat} (hk : F k) : ¬ Ft k := by
 obtain ⟨o, c, AV, nV, cV, gf, Ff, ns, h1, h2, h3, h4, h5, h6, h7, h8, rfl, h10, h11, h12⟩ := h
 rcases hk with rfl | hk | hk
 ·
  intro hf
  rcases h5.types hf h1 with h | h <;> exact absurd h (by decide)
 ·
  exact h10 k hk
 ·
  exact (h11 k hk).2
/-- Blocks of other types turn. -/
theorem LSt.other {G : Nat → Prop} (h : LSt gt Ft l0 sz wb w F g s) (ht : Turn G w w') (hg : ∀ k, G k → k < w.heap.size → ∃ cs t fr, w.heap[k]? = some (.cells cs t fr) ∧ t ≠ LT ∧ t ≠ LTab ∧ t ≠ 9 ∧ k ≠ wb) : LSt gt Ft l0 sz wb w' F g s := by
 have hty := fun k hk cs t fr ho => h.types (k := k) hk (cs := cs) (t := t) (fr := fr) ho
 have hlt := h.lt
 obtain ⟨o, c, AV, nV, cV, gf, Ff, ns, h1, h2, h3, h4, h5, h6, h7, h8, rfl, h10, h11, h12⟩ := h
 have hF : ∀ k, LFp g Ff (.slice AV nV cV) k → ¬ G k := fun k hk hG => by
  obtain ⟨cs, t, fr, ho, e1, e2, e3, e4⟩ := hg k hG (hlt k hk)
  rcases hty k hk cs t fr ho with h | h | h
  ·
   exact e1 h
  ·
   exact e2 h
  ·
   exact e3 h
 refine ⟨o, c, AV, nV, cV, gf, Ff, ns, ht.bk h1 (hF g (.inl rfl)), h2.turn ht (fun hG => ?_), h3, h4, h5.turn ht (fun k hk hG => ?_), h6.turn ht (fun k hk => hF k (.inr (.inl hk))), h7, ht.own h8 (fun k hk => hF k (.inr (.inr hk))), rfl, h10, h11, h12⟩
 ·
  obtain ⟨cs, t, fr, ho, e1, e2, e3, e4⟩ := hg wb hG h2.lt
  exact e4 rfl
 ·
  obtain ⟨cs, t, fr, ho, e1, e2, e3, e4⟩ := hg k hG (h5.lt k hk)
  rcases h5.types hk ho with h | h
  ·
   exact e2 h
  ·
   exact e3 h
theorem LSt.wtype (h : LSt gt Ft l0 sz wb w F g s) {cs : Array Value} {t : TypeId} {fr : Nat × Nat} {k : Nat} (ho : w.heap[k]? = some (.cells cs t fr)) (ht : t ≠ LW) : k ≠ wb := by
 obtain ⟨o, c, AV, nV, cV, gf, Ff, ns, h1, h2, _⟩ := h
 rintro rfl
 obtain ⟨cs', fr', hb⟩ := h2.1
 have := ho.symm.trans hb
 simp only [Option.some.injEq, Obj.cells.injEq] at this
 exact ht this.2.1
theorem LSt.wlt (h : LSt gt Ft l0 sz wb w F g s) : wb < w.heap.size := by
 obtain ⟨o, c, AV, nV, cV, gf, Ff, ns, h1, h2, _⟩ := h
 exact h2.lt
theorem LSt.later (h : LSt gt Ft l0 sz wb w F g s) (hb : Below w.heap.size w w') : LSt gt Ft l0 sz wb w' F g s :=
 h.other (Turn.ofBelow (G := fun _ => False) hb) (fun k hk _ => hk.elim)
theorem own_type {w : World} {base : Nat} {e : TypeId} {s n : Nat} {v : Value} {xs : List Value} (h : w.ownsRow base e s v n xs) {k : Nat} (hk : v.ownBlock = some k) : ∃ cs t fr, w.heap[k]? = some (.cells cs t fr) ∧ t = e := by
 rcases h.2 with ⟨rfl, _⟩ | ⟨g', cap, cur, rfl, _, hc, _⟩
 ·
  simp [Value.ownBlock] at hk
 ·
  simp only [Value.ownBlock, Option.some.injEq] at hk
  subst hk
  exact ⟨_, _, _, hc, rfl⟩
/-- A row of another type grows. -/
theorem LSt.grown {base : Nat} {e : TypeId} {u n : Nat} {v : Value} {xs : List Value} (h : LSt gt Ft l0 sz wb w F g s) (ho : w.ownsRow base e u v n xs) (hg : w.grownBy w' v.ownBlock) (h1 : e ≠ LT) (h2 : e ≠ LTab) (h3 : e ≠ 9) (h4 : e ≠ LW) : LSt gt Ft l0 sz wb w' F g s :=
 h.other (Turn.ofGrown (G := fun k => v.ownBlock = some k) hg (fun k hk => hk)) (fun k hk _ => by
  obtain ⟨cs, t, fr, hh, rfl⟩ := own_type ho hk
  exact ⟨cs, t, fr, hh, h1, h2, h3, h.wtype hh h4⟩)
/-- A block of another type turns. -/
theorem LSt.only {b : Nat} {t : TypeId} {cs : List Value} (h : LSt gt Ft l0 sz wb w F g s) (hb : Bk w b t cs) (ht : Turn (fun k => k = b) w w') (h1 : t ≠ LT) (h2 : t ≠ LTab) (h3 : t ≠ 9) (h4 : b ≠ wb) : LSt gt Ft l0 sz wb w' F g s :=
 h.other ht (fun k hk _ => by subst hk; exact ⟨_, t, _, hb, h1, h2, h3, h4⟩)
/-- A row of another type stays in a step of the parser. -/
theorem LSt.own {base : Nat} {e : TypeId} {u n : Nat} {v : Value} {xs : List Value} (h : LSt gt Ft l0 sz wb w F g s) (ht : Turn F w w') (ho : w.ownsRow base e u v n xs) (h1 : e ≠ LT) (h2 : e ≠ LTab) (h3 : e ≠ 9) : w'.ownsRow base e u v n xs :=
 ht.own ho (fun k hk hF => by
  obtain ⟨cs, t, fr, hh, rfl⟩ := own_type ho hk
  rcases h.types hF hh with e | e | e
  ·
   exact h1 e
  ·
   exact h2 e
  ·
   exact h3 e)
/-- A block of another type stays in a step of the parser. -/
theorem LSt.keeps {b : Nat} {t : TypeId} {cs : List Value} (h : LSt gt Ft l0 sz wb w F g s) (ht : Turn F w w') (hb : Bk w b t cs) (h1 : t ≠ LT) (h2 : t ≠ LTab) (h3 : t ≠ 9) : Bk w' b t cs :=
 ht.bk hb (fun hF => by
  rcases h.types hF hb with e | e | e
  ·
   exact h1 e
  ·
   exact h2 e
  ·
   exact h3 e)
/-- What a word of the parser reads in memory. -/
theorem LSt.head (h : LSt gt Ft l0 sz wb w F g s) : ∃ (o c : Nat), w.cell? ⟨g, 0, none⟩ = some (.slice (some ⟨wb, o, none⟩) (s.1.length + 1) c) ∧ w.frozen? ⟨g, 0, none⟩ = false ∧ s.1.length + 1 ≤ c ∧
  w.cell? ⟨wb, o, none⟩ = some (.int .u8 (kindE s.1 : Int)) ∧ w.cell? ⟨wb, o + 1, none⟩ = some (strV (hdE sz s.1).2.1) ∧ w.cell? ⟨wb, o + 2, none⟩ = some (.int .i64 (placeE sz s.1 : Int)) ∧ wb < w.heap.size ∧ s.1.length ≤ 70000 := by
 obtain ⟨o, c, AV, nV, cV, gf, Ff, ns, h1, h2, h3, h4, h5, h6, h7, h8, rfl, h10, h11, h12⟩ := h
 refine ⟨o, c, h1.readT (Below.refl _ _) 0 rfl, h1.frozen 0, h3, ?_, ?_, ?_, h2.lt, h4⟩
 all_goals
  obtain ⟨e1, e2, e3⟩ := h2.2 0 (hdE sz s.1) (by cases s.1 <;> rfl)
  rw [hdE_kind] at e1
  rw [hdE_place] at e3
  first | exact e1 | exact e2 | exact e3
/-- The parser goes past a word. -/
theorem LSt.next (h : LSt gt Ft l0 sz wb w F g s) {o c : Nat} (hc : w.cell? ⟨g, 0, none⟩ = some (.slice (some ⟨wb, o, none⟩) (s.1.length + 1) c)) (hne : s.1 ≠ []) : LSt gt Ft l0 sz wb (w.setCell ⟨g, 0, none⟩ (.slice (some ⟨wb, o + 3, none⟩) s.1.length (c - 1))) F g (nextE s) ∧ Turn F w (w.setCell ⟨g, 0, none⟩ (.slice (some ⟨wb, o + 3, none⟩) s.1.length (c - 1))) := by
 have ht : Turn F w (w.setCell ⟨g, 0, none⟩ (.slice (some ⟨wb, o + 3, none⟩) s.1.length (c - 1))) := (Turn.refl F w).setCell (p := ⟨g, 0, none⟩) (fun _ => h.at_.1) _
 refine ⟨?_, ht⟩
 obtain ⟨o', c', AV, nV, cV, gf, Ff, ns, h1, h2, h3, h4, h5, h6, h7, h8, rfl, h10, h11, h12⟩ := h
 have hc' := h1.readT (Below.refl _ _) 0 rfl
 rw [hc] at hc'
 simp only [Option.some.injEq, Value.slice.injEq, Addr.mk.injEq] at hc'
 obtain ⟨⟨_, rfl, _⟩, _, rfl⟩ := hc'
 have htg : Turn (fun k => k = g) w (w.setCell ⟨g, 0, none⟩ (.slice (some ⟨wb, o + 3, none⟩) s.1.length (c - 1))) := (Turn.refl (fun k => k = g) w).setCell (p := ⟨g, 0, none⟩) (fun _ => rfl) _
 obtain ⟨x, l, hl⟩ : ∃ x l, s.1 = x :: l := by
  cases hs : s.1 with
  | nil => exact absurd hs hne
  | cons x l => exact ⟨x, l, rfl⟩
 have hlen : s.1.length = (nextE s).1.length + 1 := by show s.1.length = s.1.tail.length + 1; rw [hl]; rfl
 have hn1 : ∀ {e : TypeId} {base u n : Nat} {v : Value} {xs : List Value}, w.ownsRow base e u v n xs → e ≠ LT → ∀ k, v.ownBlock = some k → ¬ (k = g) := fun ho he k hk e => by
  subst e
  obtain ⟨cs, t, fr, hh, rfl⟩ := own_type ho hk
  have := hh.symm.trans h1
  simp only [Option.some.injEq, Obj.cells.injEq] at this
  exact he this.2.1
 have hn2 : ∀ {G : Nat → Prop} {q : Nat} {l : List ByteArray}, Tb w q G l → ∀ k, G k → ¬ (k = g) := fun hT k hk e => by
  subst e
  rcases hT.types hk h1 with e | e <;> exact absurd e (by decide)
 refine ⟨o + 3, c - 1, AV, nV, cV, gf, Ff, ns, ?_, ?_, by omega, by omega, h5.turn htg (hn2 h5), h6.turn htg (hn2 h6), h7, htg.own h8 (hn1 h8 (by decide)), rfl, h10, h11, (gs_next h12).gs⟩
 ·
  have := h1.set_ 0 (.slice (some ⟨wb, o + 3, none⟩) s.1.length (c - 1))
  rw [hlen] at this ⊢
  exact this
 ·
  refine WR.turn ?_ htg (fun e => ?_)
  ·
   rw [hl] at h2
   have := h2.tail
   show WR w wb (o + 3) (s.1.tail ++ _)
   rw [hl]
   exact this
  ·
   subst e
   obtain ⟨cs, fr, hb⟩ := h2.1
   have := hb.symm.trans h1
   simp only [Option.some.injEq, Obj.cells.injEq] at this
   exact absurd this.2.1 (by decide)
end
end Go.Proofs.YtoigpbajefkpoaaGreatDoor

set_option linter.unusedVariables false
set_option linter.unusedSimpArgs false
namespace Go.Proofs.YtoigpbajefkpoaaGreatDoor
open Go Go.RowKit

abbrev kv (k : Nat) : Value := .int .u8 (k : Int)
set_option maxRecDepth 100000 in
set_option maxHeartbeats 4000000 in
theorem bIndex_any (A : Option Addr) (n c : Nat) (l : List Nat) (k : Nat) (w : World) (hr : Rd w w.heap.size 1 A n (l.map kv)) (hn : n ≤ 1000000) :
  Calls Tryz.prog 126 #[.slice A n c, .int .u8 (k : Int)] w fun e w' => ∃ z : Int, e = .returned (.int .i64 z) ∧ ((k ∈ l ∧ 0 ≤ z) ∨ (k ∉ l ∧ z = -1)) ∧ w = w' := by
 have HL := Lib.hid (show l.length = n by simpa using hr.len1)
 have HR := Lib.hid hr
 clear hr
 go_enter Tryz.func126, Tryz.ntmps126
 repeat (first | go_skip | go_guarded | go_step)
 go_loop [8] (fun p => ∃ i : Nat, i ≤ n ∧ p = .int .i64 (i : Int) ∧ ∀ (j : Nat) (x : Nat), j < i → l[j]? = some x → x ≠ k) (fun p => n - (intOf p).toNat)
 case atStart => exact ⟨0, by omega, rfl, fun j x hj => absurd hj (by omega)⟩
 case round =>
  obtain ⟨i, hi, rfl, hne⟩ := hrel
  have HNE := Lib.hid hne
  clear hne
  by_cases hlt : i < n
  ·
   have hci : (i : Int) < (n : Int) := by omega
   obtain ⟨b, o, u, hA, hbb, hu, hc⟩ := HR.out.at1 hlt
   subst hA
   obtain ⟨x, hx⟩ : ∃ x, l[i]? = some x := ⟨_, List.getElem?_eq_getElem (by rw [HL.out]; exact hlt)⟩
   rw [List.getElem?_map, hx] at hu
   simp only [Option.map_some, Option.some.injEq] at hu
   subst hu
   have HX := Lib.hid hx
   clear hx
   by_cases he : k = x
   ·
    have HM := Lib.hid (show k ∈ l by rw [he]; exact List.mem_of_getElem? HX.out)
    have hq : ((k : Int) == (x : Int)) = true := by simp [he]
    clear he
    repeat (first | go_skip | go_guarded | go_step)
    go_ret
    exact ⟨(i : Int), rfl, .inl ⟨HM.out, by omega⟩, rfl⟩
   ·
    have hq : ((k : Int) == (x : Int)) = false := by simp; omega
    have HE := Lib.hid he
    clear he
    repeat (first | go_skip | go_guarded | go_step)
    go_round
    case rel => exact ⟨i + 1, by omega, by go_num, fun j y hj hy => by
     rcases Nat.lt_succ_iff_lt_or_eq.1 hj with h1 | rfl
     ·
      exact HNE.out j y h1 hy
     ·
      rw [HX.out] at hy
      cases hy
      exact fun e => HE.out e.symm⟩
    case measure => simp [intOf] <;> omega
  ·
   obtain rfl : i = n := by omega
   have HZ := Lib.hid (show k ∉ l by
    intro hm
    obtain ⟨j, hj⟩ := List.mem_iff_getElem?.1 hm
    exact HNE.out j k (by have := (List.getElem?_eq_some_iff.1 hj).1; rw [HL.out] at this; exact this) hj rfl)
   repeat (first | go_skip | go_guarded | go_step)
   go_ret
   exact ⟨-1, rfl, .inr ⟨HZ.out, rfl⟩, rfl⟩
set_option maxRecDepth 100000 in
theorem contains_any (A : Option Addr) (n c : Nat) (l : List Nat) (k : Nat) (w : World) (hr : Rd w w.heap.size 1 A n (l.map kv)) (hn : n ≤ 1000000) :
  Calls Tryz.prog 117 #[.slice A n c, .int .u8 (k : Int)] w fun e w' => e = .returned (.bool (decide (k ∈ l))) ∧ w = w' := by
 have HR := Lib.hid hr
 clear hr
 go_enter Tryz.func117, Tryz.ntmps117
 repeat (first | go_skip | go_guarded | go_step)
 refine (bIndex_any A n c l k w HR.out hn).mono ?_
 rintro e w' ⟨z, rfl, hz | hz, rfl⟩
 ·
  have hd : decide (z ≥ 0) = true := by simp [hz.2]
  have hd2 : decide ((0 : Int) ≤ z) = true := by simp [hz.2]
  have HZ := Lib.hid (show decide (k ∈ l) = true by simp [hz.1])
  clear hz
  dsimp only
  repeat (first | go_skip | go_guarded | go_step)
  go_ret
  rw [HZ.out]
  exact ⟨rfl, rfl⟩
 ·
  obtain ⟨h1, rfl⟩ := hz
  have HZ := Lib.hid (show decide (k ∈ l) = false by simp [h1])
  clear h1
  dsimp only
  repeat (first | go_skip | go_guarded | go_step)
  go_ret
  rw [HZ.out]
  exact ⟨rfl, rfl⟩
/-- A word as the program's value. -/
abbrev wdV (x : Wd) : Value := .agg #[.int .u8 (x.1 : Int), strV x.2.1, .int .i64 (x.2.2 : Int)]
theorem wd_end {w : World} {a : Nat} {c0 c1 c2 : Value} (h : Bk w a LW [c0, c1, c2]) (x y z : Value) : Bk (((w.setCell ⟨a, 0, none⟩ x).setCell ⟨a, 1, none⟩ y).setCell ⟨a, 2, none⟩ z) a LW [x, y, z] := ((h.set_ 0 x).set_ 1 y).set_ 2 z
theorem wd_below {w V : World} {a : Nat} (h : Below w.heap.size w V) (ha : w.heap.size ≤ a) (x y z : Value) : Below w.heap.size w (((V.setCell ⟨a, 0, none⟩ x).setCell ⟨a, 1, none⟩ y).setCell ⟨a, 2, none⟩ z) := ((h.setCell (p := ⟨a, 0, none⟩) ha x).setCell (p := ⟨a, 1, none⟩) ha y).setCell (p := ⟨a, 2, none⟩) ha z
section
variable {gt : Nat} {Ft : Nat → Prop} {l0 : List ByteArray} {sz wb : Nat} {F : Nat → Prop} {g : Nat} {s : PS}
set_option maxRecDepth 100000 in
set_option maxHeartbeats 4000000 in
theorem need_any (A : Option Addr) (n c : Nat) (ks : List Nat) (w : World) (h : LSt gt Ft l0 sz wb w F g s) (hr : Rd w w.heap.size 1 A n (ks.map kv)) (hn : n ≤ 1000000) :
  Calls Tryz.prog 104 #[.pointer (some ⟨g, 0, none⟩), .slice A n c] w fun e w' => Below w.heap.size w w' ∧ ((kindE s.1 ∈ ks ∧ e = .returned (wdV (hdE sz s.1))) ∨ (kindE s.1 ∉ ks ∧ e = pnc (5, placeE sz s.1))) := by
 obtain ⟨o, c0, r0, f0, hc0, e0, e1, e2, hbl, hln⟩ := h.head
 have HK := Lib.hid (show wdV (hdE sz s.1) = .agg #[.int .u8 (kindE s.1 : Int), strV (hdE sz s.1).2.1, .int .i64 (placeE sz s.1 : Int)] by rw [← hdE_kind sz, ← hdE_place sz])
 have hgl := h.at_.2
 have HG := Lib.hid hgl
 have HBL := Lib.hid hbl
 have HR := Lib.hid hr
 obtain ⟨kd, hkd⟩ : ∃ kd, kd = kindE s.1 := ⟨_, rfl⟩
 obtain ⟨pl, hpl⟩ : ∃ pl, pl = placeE sz s.1 := ⟨_, rfl⟩
 obtain ⟨tx, htx⟩ : ∃ tx, tx = (hdE sz s.1).2.1 := ⟨_, rfl⟩
 obtain ⟨ln, hlnE⟩ : ∃ ln, ln = s.1.length := ⟨_, rfl⟩
 rw [← hkd, ← hpl, ← htx] at HK
 rw [← hkd] at e0
 rw [← htx] at e1
 rw [← hpl] at e2
 rw [← hlnE] at r0 hc0 hln
 rw [← hkd, ← hpl]
 clear h hr hkd hpl htx hlnE f0 hgl hbl
 go_enter Tryz.func104, Tryz.ntmps104
 go_upto_region 1 with (fail)
 obtain ⟨U, a0, hU, hub, ha0, hb0⟩ : ∃ U a0, U = w.alloc (.cells #[.int .u8 0, .string ⟨#[]⟩, .int .i64 0] LW) ∧ Below w.heap.size w U ∧ w.heap.size = a0 ∧ Bk U a0 LW [.int .u8 0, .string ⟨#[]⟩, .int .i64 0] := ⟨_, _, rfl, (Below.refl _ _).alloc (Nat.le_refl _) _, rfl, Bk.new w _ _⟩
 rw [← hU, ha0]
 have hr0 := (hub.cell (p := ⟨g, 0, none⟩) HG.out).trans r0
 have he0 := (hub.cell (p := ⟨wb, o, none⟩) HBL.out).trans e0
 have he1 := (hub.cell (p := ⟨wb, o + 1, none⟩) HBL.out).trans e1
 have he2 := (hub.cell (p := ⟨wb, o + 2, none⟩) HBL.out).trans e2
 have HU := Lib.hid hub
 have HA := Lib.hid hb0
 have HA0 := Lib.hid ha0
 clear hU r0 e0 e1 e2 hub hb0 ha0
 go_upto_region 2 with (fail)
 obtain ⟨V, a1, hV, hv, ha1, hb1⟩ : ∃ V a1, V = U.alloc (.cells #[.int .u8 (kd : Int), strV tx, .int .i64 (pl : Int)] LW) ∧ Below U.heap.size U V ∧ U.heap.size = a1 ∧ Bk V a1 LW [.int .u8 (kd : Int), strV tx, .int .i64 (pl : Int)] := ⟨_, _, rfl, (Below.refl _ _).alloc (Nat.le_refl _) _, rfl, Bk.new U _ _⟩
 rw [← hV, ha1]
 have HB := Lib.hid (HU.out.trans (hv.mono HU.out.size))
 have hsz := HB.out.size
 have HRV := Lib.hid ((HR.out.below HB.out).more hsz)
 have HA1 := Lib.hid (HA.out.later hv)
 have k0 := hb1.readT (Below.refl _ _) 0 rfl
 have k2 := hb1.readT (Below.refl _ _) 2 rfl
 have c0' := HA1.out.readT (Below.refl _ _) 0 rfl
 have c1' := HA1.out.readT (Below.refl _ _) 1 rfl
 have c2' := HA1.out.readT (Below.refl _ _) 2 rfl
 have g0 := HA1.out.frozen 0
 have g1 := HA1.out.frozen 1
 have g2 := HA1.out.frozen 2
 have hr1 := (hv.cell (p := ⟨g, 0, none⟩) (by have := HG.out; have := HU.out.size; show g < _; omega)).trans hr0
 have h3 := (hv.cell (p := ⟨wb, o, none⟩) (by have := HBL.out; have := HU.out.size; show wb < _; omega)).trans he0
 have h4 := (hv.cell (p := ⟨wb, o + 1, none⟩) (by have := HBL.out; have := HU.out.size; show wb < _; omega)).trans he1
 have h5 := (hv.cell (p := ⟨wb, o + 2, none⟩) (by have := HBL.out; have := HU.out.size; show wb < _; omega)).trans he2
 clear hV hv ha1 hb1 hr0 he0 he1 he2 hsz
 repeat (first | go_skip | go_guarded | go_step)
 refine (contains_any A n c ks kd V HRV.out hn).mono ?_
 rintro e w' ⟨rfl, rfl⟩
 by_cases hk : kd ∈ ks
 ·
  have hd : decide (kd ∈ ks) = true := by simp [hk]
  have HD := Lib.hid hk
  rw [hd]
  clear hk hd
  dsimp only
  repeat (first | go_skip | go_guarded | go_step)
  refine bodyPost_ret (v := wdV (hdE sz s.1)) ?_ rfl ⟨wd_below HB.out (by rw [HA0.out]; exact Nat.le_refl _) _ _ _, .inl ⟨HD.out, rfl⟩⟩
  rw [HK.out]
  exact results_cell_row rfl _ _ a0 _ _ _ _ rfl (wd_end HA1.out _ _ _) Tryz.underlying72 rfl (by kernel_rfl)
 ·
  have hd : decide (kd ∈ ks) = false := by simp [hk]
  have HD := Lib.hid hk
  rw [hd]
  clear hk hd
  dsimp only
  repeat (first | go_skip | go_guarded | go_step)
  exact ⟨rfl, HB.out, .inr ⟨HD.out, rfl⟩⟩
/-- How a step of the parser ends. -/
def Fin (gt : Nat) (Ft : Nat → Prop) (l0 : List ByteArray) (sz wb : Nat) (F : Nat → Prop) (g : Nat) (w : World) {α : Type} (r : Except PE (α × PS)) (ret : α → Value → World → Prop) (e : Ending) (w' : World) : Prop :=
 (∃ x s' v F', r = .ok (x, s') ∧ e = .returned v ∧ ret x v w' ∧ LSt gt Ft l0 sz wb w' F' g s' ∧ Mv F F' w w') ∨ (∃ z, r = .error z ∧ e = pnc z ∧ Turn F w w')
theorem kind_ne {l : List Wd} {ks : List Nat} (h : kindE l ∈ ks) (h0 : 0 ∉ ks) : l ≠ [] := by
 rintro rfl
 exact h0 h
set_option maxRecDepth 100000 in
set_option maxHeartbeats 4000000 in
theorem take_any (A : Option Addr) (n c : Nat) (ks : List Nat) (w : World) (h : LSt gt Ft l0 sz wb w F g s) (hr : Rd w w.heap.size 1 A n (ks.map kv)) (hn : n ≤ 1000000) (h0 : 0 ∉ ks) :
  Calls Tryz.prog 82 #[.pointer (some ⟨g, 0, none⟩), .slice A n c] w fun e w' => Fin gt Ft l0 sz wb F g w (takeE sz ks s) (fun x v _ => v = wdV x) e w' := by
 have H := Lib.hid h
 have HR := Lib.hid hr
 have HX := Lib.hid h0
 clear h hr h0
 go_enter Tryz.func82, Tryz.ntmps82
 go_upto_region 1 with (fail)
 obtain ⟨U, a0, hU, hub, ha0, hb0⟩ : ∃ U a0, U = w.alloc (.cells #[.int .u8 0, .string ⟨#[]⟩, .int .i64 0] LW) ∧ Below w.heap.size w U ∧ w.heap.size = a0 ∧ Bk U a0 LW [.int .u8 0, .string ⟨#[]⟩, .int .i64 0] := ⟨_, _, rfl, (Below.refl _ _).alloc (Nat.le_refl _) _, rfl, Bk.new w _ _⟩
 rw [← hU, ha0]
 have HU := Lib.hid hub
 have HA := Lib.hid hb0
 have HA0 := Lib.hid ha0
 have HS1 := Lib.hid (H.out.later hub)
 have HRU := Lib.hid ((HR.out.below hub).more hub.size)
 clear hU hub hb0 ha0
 repeat (first | go_skip | go_guarded | go_step)
 refine (need_any A n c ks U HS1.out HRU.out hn).mono ?_
 rintro e w1 ⟨hb1, ⟨hk, rfl⟩ | ⟨hk, rfl⟩⟩
 ·
  have HK := Lib.hid hk
  have HNE := Lib.hid (kind_ne hk HX.out)
  have HA1 := Lib.hid (HA.out.later hb1)
  have HB1 := Lib.hid (HU.out.trans (hb1.mono HU.out.size))
  have HS2 := Lib.hid (HS1.out.later hb1)
  have HSZ := Lib.hid hb1.size
  obtain ⟨x, hx⟩ : ∃ x, x = hdE sz s.1 := ⟨_, rfl⟩
  rw [← hx]
  have HXE := Lib.hid hx
  clear hk hb1 hx
  dsimp only
  go_upto_region 2 with (fail)
  obtain ⟨V, a1, hV, hv, ha1, hb1⟩ : ∃ V a1, V = w1.alloc (.cells #[.int .u8 (x.1 : Int), strV x.2.1, .int .i64 (x.2.2 : Int)] LW) ∧ Below w1.heap.size w1 V ∧ w1.heap.size = a1 ∧ Bk V a1 LW [.int .u8 (x.1 : Int), strV x.2.1, .int .i64 (x.2.2 : Int)] := ⟨_, _, rfl, (Below.refl _ _).alloc (Nat.le_refl _) _, rfl, Bk.new w1 _ _⟩
  rw [← hV, ha1]
  have HBV := Lib.hid (HB1.out.trans (hv.mono HB1.out.size))
  have HA2 := Lib.hid (HA1.out.later hv)
  have HK1 := Lib.hid hb1
  have HS3 := Lib.hid (HS2.out.later hv)
  obtain ⟨o, c0, r0, f0, hc0, e0, e1, e2, hbl, hln⟩ := HS3.out.head
  have R0 := Lib.hid r0
  obtain ⟨ln, hlnE⟩ : ∃ ln, ln + 1 = s.1.length := ⟨s.1.length - 1, by have := List.length_pos_iff.2 HNE.out; omega⟩
  have HLN := Lib.hid hlnE
  rw [← hlnE] at r0 hc0 hln
  clear hV hv ha1 hb1 e0 e1 e2 hbl hlnE
  go_upto_region 3 with (fail)
  rw [HLN.out]
  obtain ⟨hn1, hn2⟩ := HS3.out.next R0.out HNE.out
  obtain ⟨X, hX⟩ : ∃ X, X = V.setCell ⟨g, 0, none⟩ (.slice (some ⟨wb, o + 3, none⟩) s.1.length (c0 - 1)) := ⟨_, rfl⟩
  rw [← hX] at hn1 hn2 ⊢
  have hA3 := HS3.out.keeps hn2 HA2.out (by decide) (by decide) (by decide)
  have hK3 := HS3.out.keeps hn2 HK1.out (by decide) (by decide) (by decide)
  have k0 := hK3.readT (Below.refl _ _) 0 rfl
  have k1 := hK3.readT (Below.refl _ _) 1 rfl
  have k2 := hK3.readT (Below.refl _ _) 2 rfl
  have c0' := hA3.readT (Below.refl _ _) 0 rfl
  have c1' := hA3.readT (Below.refl _ _) 1 rfl
  have c2' := hA3.readT (Below.refl _ _) 2 rfl
  have g0 := hA3.frozen 0
  have g1 := hA3.frozen 1
  have g2 := hA3.frozen 2
  have HA4 := Lib.hid hA3
  have HS4 := Lib.hid hn1
  have HMV := Lib.hid ((Mv.ofBelow (F := F) HBV.out).trans (⟨hn2, fun _ h => .inl h⟩ : Mv F F V X))
  clear hX hn1 hn2 hA3 hK3 r0 f0 hc0 hln
  repeat (first | go_skip | go_guarded | go_step)
  refine bodyPost_ret (v := wdV x) (results_cell_row rfl _ _ a0 _ _ _ _ rfl (wd_end HA4.out _ _ _) Tryz.underlying72 rfl (by kernel_rfl)) rfl ?_
  refine .inl ⟨x, nextE s, _, F, by unfold takeE; rw [if_pos HK.out, HXE.out], rfl, rfl, HS4.out.only HA4.out (((((Turn.refl (fun k => k = a0) X).setCell (p := ⟨a0, 0, none⟩) (fun _ => rfl) _).setCell (p := ⟨a0, 1, none⟩) (fun _ => rfl) _).setCell (p := ⟨a0, 2, none⟩) (fun _ => rfl) _)) (by decide) (by decide) (by decide) (by have := H.out.wlt; have := HA0.out; omega), HMV.out.later ?_⟩
  have hle : w.heap.size ≤ a0 := by rw [HA0.out]; exact Nat.le_refl _
  exact (((Below.refl w.heap.size X).setCell (p := ⟨a0, 0, none⟩) hle _).setCell (p := ⟨a0, 1, none⟩) hle _).setCell (p := ⟨a0, 2, none⟩) hle _
 ·
  have HK := Lib.hid hk
  exact ⟨rfl, .inr ⟨_, by unfold takeE; rw [if_neg HK.out], rfl, Turn.ofBelow (HU.out.trans (hb1.mono HU.out.size))⟩⟩
set_option maxRecDepth 100000 in
set_option maxHeartbeats 4000000 in
theorem comes_any (k : Nat) (w : World) (h : LSt gt Ft l0 sz wb w F g s) :
  Calls Tryz.prog 101 #[.pointer (some ⟨g, 0, none⟩), .int .u8 (k : Int)] w fun e w' => e = .returned (.bool (decide (kindE s.1 = k))) ∧ w = w' := by
 obtain ⟨o, c0, r0, f0, hc0, e0, e1, e2, hbl, hln⟩ := h.head
 obtain ⟨kd, hkd⟩ : ∃ kd, kd = kindE s.1 := ⟨_, rfl⟩
 rw [← hkd] at e0
 rw [← hkd]
 clear h f0 e1 e2 hbl hkd
 go_enter Tryz.func101, Tryz.ntmps101
 by_cases hk : kd = k
 ·
  have hq : ((kd : Int) == (k : Int)) = true := by simp [hk]
  have HD := Lib.hid (show decide (kd = k) = true by simp [hk])
  rw [HD.out]
  clear hk
  repeat (first | go_skip | go_guarded | go_step)
  go_ret
  exact ⟨rfl, rfl⟩
 ·
  have hq : ((kd : Int) == (k : Int)) = false := by simp; omega
  have HD := Lib.hid (show decide (kd = k) = false by simp [hk])
  rw [HD.out]
  clear hk
  repeat (first | go_skip | go_guarded | go_step)
  go_ret
  exact ⟨rfl, rfl⟩
theorem byteInfoP : (Tryz.prog.info? 5).map (fun i => (i.zero, i.size, i.bytes)) = some (some (.int .u8 0), 1, 1) := by kernel_rfl
theorem run_litK1 (a : Nat) (w : World) : (Instr.buildSlice 91 1 #[(0, .int .u8 (a : Int))]).run Tryz.prog w = .ok (.slice (some ⟨w.heap.size, 0, none⟩) 1 1) (w.alloc (.cells ([a].map kv).toArray 5)) := by
 obtain ⟨i0, hi, hz0, hz1, hz2⟩ := info_parts byteInfoP
 simp [Instr.buildSlice, run_underlying Tryz.underlying91, sizeOf, typeInfo, zeroValue, hi, hz0, hz1, newRow, Instr.fill]
 kernel_rfl
theorem run_litK2 (a b : Nat) (w : World) : (Instr.buildSlice 91 2 #[(0, .int .u8 (a : Int)), (1, .int .u8 (b : Int))]).run Tryz.prog w = .ok (.slice (some ⟨w.heap.size, 0, none⟩) 2 2) (w.alloc (.cells ([a, b].map kv).toArray 5)) := by
 obtain ⟨i0, hi, hz0, hz1, hz2⟩ := info_parts byteInfoP
 simp [Instr.buildSlice, run_underlying Tryz.underlying91, sizeOf, typeInfo, zeroValue, hi, hz0, hz1, newRow, Instr.fill]
 kernel_rfl
theorem run_litK3 (a b c : Nat) (w : World) : (Instr.buildSlice 91 3 #[(0, .int .u8 (a : Int)), (1, .int .u8 (b : Int)), (2, .int .u8 (c : Int))]).run Tryz.prog w = .ok (.slice (some ⟨w.heap.size, 0, none⟩) 3 3) (w.alloc (.cells ([a, b, c].map kv).toArray 5)) := by
 obtain ⟨i0, hi, hz0, hz1, hz2⟩ := info_parts byteInfoP
 simp [Instr.buildSlice, run_underlying Tryz.underlying91, sizeOf, typeInfo, zeroValue, hi, hz0, hz1, newRow, Instr.fill]
 kernel_rfl
theorem litK_rd (w : World) (l : List Nat) (n : Nat) (hn : l.length = n) : Rd (w.alloc (.cells (l.map kv).toArray 5)) (w.alloc (.cells (l.map kv).toArray 5)).heap.size 1 (some ⟨w.heap.size, 0, none⟩) n (l.map kv) := by
 have hb := Bk.new w 5 (l.map kv)
 refine ⟨by simp [hn], fun _ => ⟨w.heap.size, 0, rfl, by simp, fun j u hu => ?_⟩⟩
 rw [Nat.zero_add, hb.cell]
 exact hu
/-- The parser goes past a word of a kind, if it comes. -/
def pastE (k : Nat) (s : PS) : Bool × PS := if kindE s.1 = k then (true, nextE s) else (false, s)
set_option maxRecDepth 100000 in
set_option maxHeartbeats 4000000 in
theorem past_yes (k : Nat) (w : World) (h : LSt gt Ft l0 sz wb w F g s) (hk0 : k ≠ 0) (hk : kindE s.1 = k) :
  Calls Tryz.prog 79 #[.pointer (some ⟨g, 0, none⟩), .int .u8 (k : Int)] w fun e w' => ∃ F', e = .returned (.bool true) ∧ LSt gt Ft l0 sz wb w' F' g (nextE s) ∧ Mv F F' w w' := by
 have H := Lib.hid h
 have HK := Lib.hid hk
 clear h hk
 go_enter Tryz.func79, Tryz.ntmps79
 repeat (first | go_skip | go_guarded | go_step)
 refine (comes_any k w H.out).mono ?_
 rintro e w1 ⟨rfl, rfl⟩
 rw [decide_eq_true HK.out]
 dsimp only
 go_upto_region 3 with (fail)
 have hl := run_litK1 k w
 have HL := Lib.hid (litK_rd w [k] 1 rfl)
 have hb := (Below.refl w.heap.size w).alloc (Nat.le_refl _) (.cells ([k].map kv).toArray 5)
 have HS := Lib.hid (H.out.later hb)
 have HB := Lib.hid hb
 clear hb
 repeat (first | go_skip | go_guarded | go_step)
 refine (take_any _ 1 1 [k] _ HS.out HL.out (by omega) (by simp; omega)).mono ?_
 rintro e w2 (⟨x, s', v, F', hx, rfl, rfl, hs, hm⟩ | ⟨z, hx, rfl, ht⟩)
 ·
  have hs' : s' = nextE s := by
   unfold takeE at hx
   rw [if_pos (by simp [HK.out])] at hx
   simp only [Except.ok.injEq, Prod.mk.injEq] at hx
   exact hx.2.symm
  subst hs'
  have HS2 := Lib.hid hs
  have HM2 := Lib.hid ((Mv.ofBelow (F := F) HB.out).trans hm)
  clear hs hm hx hl
  dsimp only
  repeat (first | go_skip | go_guarded | go_step)
  go_ret
  exact ⟨F', rfl, HS2.out, HM2.out⟩
 ·
  exfalso
  unfold takeE at hx
  rw [if_pos (by simp [HK.out])] at hx
  cases hx
set_option maxRecDepth 100000 in
theorem past_no (k : Nat) (w : World) (h : LSt gt Ft l0 sz wb w F g s) (hk : kindE s.1 ≠ k) :
  Calls Tryz.prog 79 #[.pointer (some ⟨g, 0, none⟩), .int .u8 (k : Int)] w fun e w' => e = .returned (.bool false) ∧ w = w' := by
 have H := Lib.hid h
 have HK := Lib.hid hk
 clear h hk
 go_enter Tryz.func79, Tryz.ntmps79
 repeat (first | go_skip | go_guarded | go_step)
 refine (comes_any k w H.out).mono ?_
 rintro e w1 ⟨rfl, rfl⟩
 rw [decide_eq_false HK.out]
 dsimp only
 repeat (first | go_skip | go_guarded | go_step)
 go_ret
 exact ⟨rfl, rfl⟩
theorem past_any (k : Nat) (w : World) (h : LSt gt Ft l0 sz wb w F g s) (hk0 : k ≠ 0) :
  Calls Tryz.prog 79 #[.pointer (some ⟨g, 0, none⟩), .int .u8 (k : Int)] w fun e w' => ∃ F', e = .returned (.bool (pastE k s).1) ∧ LSt gt Ft l0 sz wb w' F' g (pastE k s).2 ∧ Mv F F' w w' := by
 by_cases hk : kindE s.1 = k
 ·
  have hp : pastE k s = (true, nextE s) := by unfold pastE; rw [if_pos hk]
  rw [hp]
  exact past_yes k w h hk0 hk
 ·
  have hp : pastE k s = (false, s) := by unfold pastE; rw [if_neg hk]
  rw [hp]
  refine (past_no k w h hk).mono ?_
  rintro e w' ⟨rfl, rfl⟩
  exact ⟨F, rfl, h, Mv.refl _ _⟩
end
end Go.Proofs.YtoigpbajefkpoaaGreatDoor

