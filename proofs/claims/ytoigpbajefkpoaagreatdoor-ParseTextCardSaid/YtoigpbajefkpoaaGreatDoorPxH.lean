/- Texts, packed: PaU PaR PaV -/
import Derived.Test.YtoigpbajefkpoaaGreatDoorPxG
import Derived.Test.YtoigpbajefkpoaaGreatDoorPxB
import Derived.Test.YtoigpbajefkpoaaGreatDoorPxA
import Derived.Deep.QuietTactic
import Derived.BigQuiet
import Derived.StillTailTactics
import Derived.Great.BuildSlice
import Derived.Deep.Cut
set_option linter.unusedVariables false
set_option linter.unusedSimpArgs false
namespace Go.Proofs.YtoigpbajefkpoaaGreatDoor
open Go Go.RowKit

/-- What a step answers, and the state behind it. -/
def runE {α : Type} (x : Except PE PS) (f : PS → Except PE (α × PS)) : Except PE (α × PS) := match x with | .ok s => f s | .error z => .error z
def stE {α : Type} (x : Except PE (α × PS)) : Except PE PS := match x with | .ok z => .ok z.2 | .error z => .error z
def saysE {α : Type} (x : Except PE (α × PS)) (v : α) : Prop := ∀ u s, x = .ok (u, s) → v = u
theorem goE_run {α : Type} (x : Except PE PS) (f : PS → Except PE (α × PS)) : goE x f = stE (runE x f) := by cases x <;> rfl
theorem ansE_run {α : Type} {x : Except PE PS} {f : PS → Except PE (α × PS)} {v : α} : ansE x f v ↔ saysE (runE x f) v := by
 constructor
 ·
  intro h u s hr
  cases x with
  | error z => cases hr
  | ok s0 => exact h s0 u s rfl hr
 ·
  intro h s u s2 hx hf
  subst hx
  exact h u s2 hf
theorem runE_bind {α β : Type} (x : Except PE PS) (f : PS → Except PE (α × PS)) (k : α → PS → Except PE (β × PS)) : runE x (fun s => bindE (f s) k) = bindE (runE x f) k := by cases x <;> rfl
theorem bindE_st {α β : Type} (r : Except PE (α × PS)) (k : α → PS → Except PE (β × PS)) {v : α} (h : saysE r v) : bindE r k = runE (stE r) (k v) := by
 cases r with
 | error z => rfl
 | ok z => rw [h z.1 z.2 rfl]; rfl
def wrongE (sz n : Nat) (x : Except PE PS) : Except PE PS := match x with | .ok s => .error (n, placeE sz s.1) | .error z => .error z

section
variable {base g sz : Nat} {ws : List Wd} {w : World} {x : Except PE PS}
theorem PSt.err (h : PSt w base g ws sz x) : ∃ e0 : Nat, w.cell? ⟨g, 5, none⟩ = some (.int .i64 (e0 : Int)) ∧ (∀ s, x = .ok s → e0 = 0) ∧ (∀ z, x = .error z → e0 ≠ 0) := by
 obtain ⟨AW, nW, cW, k, AN, nN, cN, AV, nV, cV, e0, a0, names, vars, hg, hb, hw, hn, hv, hne, hk, hW, hN, hV, hst⟩ := h
 refine ⟨e0, hb.cell 5, ?_, ?_⟩
 ·
  rintro s rfl
  exact hst.1
 ·
  rintro z rfl
  exact hst.2.2
theorem PSt.step (h : PSt w base g ws sz x) : ∃ k : Nat, w.cell? ⟨g, 1, none⟩ = some (.int .i64 (k : Int)) ∧ w.frozen? ⟨g, 1, none⟩ = false ∧ k ≤ 70000 ∧
  ∀ s, x = .ok s → s.1 ≠ [] → PSt (w.setCell ⟨g, 1, none⟩ (.int .i64 ((k : Int) + 1))) base g ws sz (.ok (nextE s)) ∧ Kp base g w (w.setCell ⟨g, 1, none⟩ (.int .i64 ((k : Int) + 1))) := by
 obtain ⟨AW, nW, cW, k, AN, nN, cN, AV, nV, cV, e0, a0, names, vars, hg, hb, hw, hn, hv, hne, hk, hW, hN, hV, hst⟩ := h
 refine ⟨k, hb.cell 1, hb.frozen 1, by omega, ?_⟩
 rintro s rfl hs
 obtain ⟨rfl, rfl⟩ := hst
 have ht : Only g w (w.setCell ⟨g, 1, none⟩ (.int .i64 ((k : Int) + 1))) := Turn.setCell (G := fun j => j = g) (Turn.refl _ w) (fun _ => rfl) _
 have hlt : k < nW := by
  by_cases h : k < nW
  ·
   exact h
  ·
   exact absurd (List.drop_of_length_le (by rw [rdV_len (OwV.rd hw)]; omega)) hs
 refine ⟨mkSt hg hb (hb.set_ 1 _) hw hn hv hne (show k + 1 ≤ nW by omega) hW hN hV ht ⟨rfl, ?_⟩, Kp.only ht hg hb.lt⟩
 show ((ws.drop k).tail, names, vars) = _
 rw [List.tail_drop]
theorem PSt.text (h : PSt w base g ws sz x) : base ≤ w.heap.size := by
 have := h.at_
 omega

set_option maxRecDepth 100000 in
set_option maxHeartbeats 4000000 in
theorem pKindS (j : Nat) (hj : j ≤ 1) (h : PSt w base g ws sz x) :
  Calls Tryz.prog 58 #[.pointer (some ⟨g, 0, none⟩), .int .i64 (j : Int)] w fun e w' => ∃ kk : Nat, e = .returned (.int .u8 (kk : Int)) ∧ (∀ s, x = .ok s → kk = kindE (s.1.drop j)) ∧ ∃ q, w' = w.drewN q := by
 obtain ⟨AW, nW, cW, k, AN, nN, cN, AV, nV, cV, e0, a0, names, vars, hg, hb, hw, hn, hv, hne, hk, hW, hN, hV, hst⟩ := h
 refine (pKind_any j ws w hb (OwV.rd hw) hk (by omega) hj).mono ?_
 rintro e w' ⟨rfl, q, rfl⟩
 refine ⟨_, rfl, ?_, q, rfl⟩
 rintro s rfl
 obtain ⟨_, rfl⟩ := hst
 rw [List.drop_drop]
theorem pWrongS (n : Nat) (hn1 : 1 ≤ n) (h : PSt w base g ws sz x) :
  Calls Tryz.prog 60 #[.pointer (some ⟨g, 0, none⟩), .int .i64 (n : Int)] w fun e w' => e = .returned (.tuple #[]) ∧ PSt w' base g ws sz (wrongE sz n x) ∧ Kp base g w w' := by
 obtain ⟨AW, nW, cW, k, AN, nN, cN, AV, nV, cV, e0, a0, names, vars, hg, hb, hw, hn, hv, hne, hk, hW, hN, hV, hst⟩ := h
 refine (pWrong_any n base ws w hb hw hk (by omega)).mono ?_
 rintro e w' ⟨rfl, hb2, ht⟩
 refine ⟨rfl, mkSt hg hb hb2 hw hn hv hne hk hW hN hV ht ?_, Kp.only ht hg hb.lt⟩
 cases x with
 | ok s =>
  obtain ⟨rfl, rfl⟩ := hst
  exact ⟨by rw [if_pos rfl], by rw [if_pos rfl], by rw [if_pos rfl]; omega⟩
 | error z =>
  obtain ⟨h1, h2, h3⟩ := hst
  exact ⟨by rw [if_neg h3]; exact h1, by rw [if_neg h3]; exact h2, by rw [if_neg h3]; exact h3⟩
theorem pWordS (n : Nat) (hn1 : 1 ≤ n) (h : PSt w base g ws sz x) :
  Calls Tryz.prog 61 #[.pointer (some ⟨g, 0, none⟩), .int .u8 (n : Int)] w fun e w' => ∃ T : ByteArray, e = .returned (sv T) ∧ PSt w' base g ws sz (stE (runE x (wordE sz n))) ∧ Kp base g w w' := by
 obtain ⟨AW, nW, cW, k, AN, nN, cN, AV, nV, cV, e0, a0, names, vars, hg, hb, hw, hn, hv, hne, hk, hW, hN, hV, hst⟩ := h
 refine (pWord_any n base ws w hb hw hk (by omega) hn1).mono ?_
 rintro e w' ⟨ht, hd⟩
 have hkp := Kp.only ht hg hb.lt
 cases x with
 | ok s =>
  obtain ⟨rfl, rfl⟩ := hst
  rcases hd with ⟨_, h2, rfl, h4, h5⟩ | ⟨_, h2, rfl, h4⟩ | ⟨h1, _⟩
  ·
   refine ⟨_, rfl, mkSt hg hb h5 hw hn hv hne h4 hW hN hV ht ?_, hkp⟩
   have : runE (.ok (ws.drop k, names, vars)) (wordE sz n) = .ok (txE (ws.drop k), (ws.drop (k + 1), names, vars)) := by
    show wordE sz n _ = _
    unfold wordE
    rw [if_pos h2]
    show Except.ok (_, ((ws.drop k).tail, _)) = _
    rw [List.tail_drop]
   rw [this]
   exact ⟨rfl, rfl⟩
  ·
   refine ⟨_, rfl, mkSt hg hb h4 hw hn hv hne hk hW hN hV ht ?_, hkp⟩
   have : runE (.ok (ws.drop k, names, vars)) (wordE sz n) = .error (5, placeE sz (ws.drop k)) := by
    show wordE sz n _ = _
    unfold wordE
    rw [if_neg h2]
   rw [this]
   exact ⟨rfl, rfl, by omega⟩
  ·
   exact absurd rfl h1
 | error z =>
  obtain ⟨h1, h2, h3⟩ := hst
  rcases hd with ⟨h0, _⟩ | ⟨h0, _⟩ | ⟨_, rfl, h4⟩
  ·
   exact absurd h0 h3
  ·
   exact absurd h0 h3
  ·
   exact ⟨_, rfl, mkSt hg hb h4 hw hn hv hne hk hW hN hV ht ⟨h1, h2, h3⟩, hkp⟩
theorem pNameS (h : PSt w base g ws sz x) :
  Calls Tryz.prog 105 #[.pointer (some ⟨g, 0, none⟩)] w fun e w' => ∃ n : Nat, e = .returned (nv (UInt32.ofNat n)) ∧ PSt w' base g ws sz (stE (runE x (nameE sz))) ∧ saysE (runE x (nameE sz)) n ∧ Kp base g w w' := by
 refine (pName_any base g ws sz x w h).mono ?_
 rintro e w' ⟨n, rfl, hn, h1, h2, h3⟩
 exact ⟨n, by rw [nvOf hn], by rw [← goE_run]; exact h1, ansE_run.1 h2, h3⟩
theorem pTermS (h : PSt w base g ws sz x) :
  Calls Tryz.prog 84 #[.pointer (some ⟨g, 0, none⟩)] w fun e w' => ∃ tm : Tm, e = .returned (.agg #[.bool tm.1, nv tm.2]) ∧ PSt w' base g ws sz (stE (runE x (termE sz))) ∧ saysE (runE x (termE sz)) tm ∧ Kp base g w w' := by
 refine (pTerm_any base g ws sz x w h).mono ?_
 rintro e w' ⟨n, rfl, h1, h2, h3⟩
 exact ⟨n, rfl, by rw [← goE_run]; exact h1, ansE_run.1 h2, h3⟩
end
end Go.Proofs.YtoigpbajefkpoaaGreatDoor

set_option linter.unusedVariables false
set_option linter.unusedSimpArgs false
namespace Go.Proofs.YtoigpbajefkpoaaGreatDoor
open Go Go.RowKit

/-- A reader: of bytes a thing, and the bytes behind it. -/
abbrev Rdr (α : Type) := List UInt8 → Option (α × List UInt8)
/-- p reads just what enc writes of those that may be. -/
structure Codec {α : Type} (may : α → Prop) (enc : α → List UInt8) (p : Rdr α) : Prop where
  sound : ∀ l x r, p l = some (x, r) → may x ∧ l = enc x ++ r
  full : ∀ x r, may x → p (enc x ++ r) = some (x, r)
theorem Codec.inj {α : Type} {may : α → Prop} {enc : α → List UInt8} {p : Rdr α} (c : Codec may enc p) {x y : α} (hx : may x) (hy : may y) {r s : List UInt8} (h : enc x ++ r = enc y ++ s) : x = y ∧ r = s := by
  have h1 := c.full x r hx
  rw [h, c.full y s hy] at h1
  have h2 := Option.some.inj h1
  exact ⟨(congrArg Prod.fst h2).symm, (congrArg Prod.snd h2).symm⟩
/-- The same in other words. -/
def rMap {α β : Type} (p : Rdr α) (f : α → β) : Rdr β := fun l => (p l).map fun z => (f z.1, z.2)
/-- n of them. -/
def rMany {α : Type} (p : Rdr α) : Nat → Rdr (List α)
  | 0, l => some ([], l)
  | n + 1, l => match p l with
    | none => none
    | some (x, r) => match rMany p n r with
      | none => none
      | some (xs, s) => some (x :: xs, s)
theorem Codec.many {α : Type} {m : α → Prop} {e : α → List UInt8} {p : Rdr α} (c : Codec m e p) : ∀ n, Codec (fun xs : List α => xs.length = n ∧ ∀ x ∈ xs, m x) (fun xs => xs.flatMap e) (rMany p n)
  | 0 => by
    refine ⟨?_, ?_⟩
    · intro l xs r h
      simp only [rMany, Option.some.injEq, Prod.mk.injEq] at h
      obtain ⟨rfl, rfl⟩ := h
      simp
    · rintro xs r ⟨h, _⟩
      obtain rfl := List.length_eq_zero_iff.1 h
      simp [rMany]
  | n + 1 => by
    have ih := Codec.many c n
    refine ⟨?_, ?_⟩
    · intro l xs r h
      unfold rMany at h
      cases h1 : p l with
      | none => rw [h1] at h; cases h
      | some z =>
        obtain ⟨x, r'⟩ := z
        rw [h1] at h
        dsimp only at h
        cases h2 : rMany p n r' with
        | none => rw [h2] at h; cases h
        | some z2 =>
          obtain ⟨ys, s⟩ := z2
          rw [h2] at h
          dsimp only at h
          simp only [Option.some.injEq, Prod.mk.injEq] at h
          obtain ⟨rfl, rfl⟩ := h
          obtain ⟨a1, b1⟩ := c.sound _ _ _ h1
          obtain ⟨⟨a2, a3⟩, b2⟩ := ih.sound _ _ _ h2
          refine ⟨⟨by simp [a2], ?_⟩, by rw [b1, b2]; simp⟩
          intro y hy
          rcases List.mem_cons.1 hy with rfl | hy
          · exact a1
          · exact a3 y hy
    · rintro xs r ⟨h, hm⟩
      cases xs with
      | nil => simp at h
      | cons x ys =>
        unfold rMany
        rw [List.flatMap_cons, List.append_assoc, c.full x _ (hm x (by simp))]
        dsimp only
        rw [ih.full ys r ⟨by simpa using h, fun y hy => hm y (by simp [hy])⟩]
/-- One more behind: as a loop reads them. -/
theorem rMany_snoc {α : Type} (p : Rdr α) : ∀ (n : Nat) (l : List UInt8), rMany p (n + 1) l = match rMany p n l with
    | none => none
    | some (xs, r) => match p r with
      | none => none
      | some (x, s) => some (xs ++ [x], s)
  | 0, l => by
    simp only [rMany]
    cases p l with
    | none => rfl
    | some z => rfl
  | n + 1, l => by
    rw [rMany]
    conv => rhs; rw [rMany]
    cases h : p l with
    | none => rfl
    | some z =>
      obtain ⟨x, r⟩ := z
      dsimp only
      rw [rMany_snoc p n r]
      cases h2 : rMany p n r with
      | none => rfl
      | some z2 =>
        obtain ⟨ys, s⟩ := z2
        dsimp only
        cases h3 : p s with
        | none => rfl
        | some z3 => rfl
/-- A byte that is at most so much. -/
def rByte (most : Nat) : Rdr Nat := fun l =>
  match l with
  | [] => none
  | c :: r => if c.toNat ≤ most then some (c.toNat, r) else none
theorem byteC (most : Nat) (h : most < 256) : Codec (fun n => n ≤ most) (fun n => [UInt8.ofNat n]) (rByte most) := by
  refine ⟨?_, ?_⟩
  · intro l v r h1
    cases l with
    | nil => cases h1
    | cons c l =>
      simp only [rByte] at h1
      split at h1
      · rename_i hle
        simp only [Option.some.injEq, Prod.mk.injEq] at h1
        obtain ⟨rfl, rfl⟩ := h1
        exact ⟨hle, by simp⟩
      · cases h1
  · intro n r hn
    have e : (UInt8.ofNat n).toNat = n := UInt8.toNat_ofNat_of_lt' (by show n < 256; omega)
    simp only [List.cons_append, List.nil_append, rByte, e]
    rw [if_pos hn]
/-- How many, and then so many. -/
def rRow {α : Type} (most : Nat) (p : Rdr α) : Rdr (List α) := fun l =>
  match rByte most l with
  | none => none
  | some (n, r) => rMany p n r
def rowB {α : Type} (e : α → List UInt8) (xs : List α) : List UInt8 := UInt8.ofNat xs.length :: xs.flatMap e
theorem Codec.row {α : Type} {m : α → Prop} {e : α → List UInt8} {p : Rdr α} (c : Codec m e p) (most : Nat) (h : most < 256) : Codec (fun xs : List α => xs.length ≤ most ∧ ∀ x ∈ xs, m x) (rowB e) (rRow most p) := by
  refine ⟨?_, ?_⟩
  · intro l xs r h1
    unfold rRow at h1
    cases h2 : rByte most l with
    | none => rw [h2] at h1; cases h1
    | some z =>
      obtain ⟨n, r'⟩ := z
      rw [h2] at h1
      dsimp only at h1
      obtain ⟨a, b⟩ := (byteC most h).sound _ _ _ h2
      obtain ⟨⟨a1, a2⟩, b2⟩ := (c.many n).sound _ _ _ h1
      refine ⟨⟨by omega, a2⟩, ?_⟩
      rw [b, b2, rowB, a1]
      simp
  · rintro xs r ⟨h1, h2⟩
    unfold rRow rowB
    have := (byteC most h).full xs.length (xs.flatMap e ++ r) h1
    simp only [List.cons_append, List.nil_append] at this ⊢
    rw [this]
    dsimp only
    exact (c.many xs.length).full xs r ⟨rfl, h2⟩
theorem run_eqT (x y : Tm) (W : World) : (Op.equalIn 10000 46 (.agg #[.bool x.1, nv x.2]) (.agg #[.bool y.1, nv y.2])).run Tryz.prog W = .ok (decide (x = y)) W := by
  have e : decide (x = y) = (x.1 == y.1 && x.2 == y.2) := by
    obtain ⟨a, b⟩ := x
    obtain ⟨c, d⟩ := y
    rw [Bool.eq_iff_iff]
    simp
  have e2 : ∀ a b : UInt32, ((a.toNat : Int) == (b.toNat : Int)) = (a == b) := fun a b => by
    rw [Bool.eq_iff_iff, beq_iff_eq, beq_iff_eq]
    exact ⟨fun h => UInt32.toNat_inj.1 (by omega), fun h => by rw [h]⟩
  rw [e]
  go_simp
  split <;> (try split) <;> simp_all
theorem take_eq {α : Type} {a b : List α} {i : Nat} {x y : α} (h1 : a[i]? = some x) (h2 : b[i]? = some y) (h : a.take i = b.take i) (he : x = y) : a.take (i + 1) = b.take (i + 1) := by
  rw [List.take_add_one, List.take_add_one, h1, h2, h, he]
theorem ne_at {α : Type} {a b : List α} {i : Nat} {x y : α} (h1 : a[i]? = some x) (h2 : b[i]? = some y) (he : x ≠ y) : a ≠ b := by
  rintro rfl
  rw [h1] at h2
  exact he (Option.some.inj h2)
theorem all_eq {α : Type} {a b : List α} {n : Nat} (ha : a.length = n) (hb : b.length = n) (h : a.take n = b.take n) : a = b := by
  rwa [List.take_of_length_le (by omega), List.take_of_length_le (by omega)] at h
theorem u32ne {x y : UInt32} (h : x ≠ y) : ((x.toNat : Int) != (y.toNat : Int)) = true := by
  have : x.toNat ≠ y.toNat := fun e => h (UInt32.toNat_inj.1 e)
  simp; omega
theorem belowDrewQ {B : Nat} {a w : World} (h : Below B a w) (n : Nat) : Below B a (w.drewN n) := ⟨h.os, h.tape, h.output, h.size, h.block⟩
theorem below2 (w : World) (x y : Obj) : Below w.heap.size w ((w.alloc x).alloc y) := ((Below.refl _ _).alloc (Nat.le_refl _) x).alloc (by simp) y
theorem Bk.second (w : World) (x : Obj) (t : TypeId) (cs : List Value) : Bk ((w.alloc x).alloc (.cells cs.toArray t)) (w.heap.size + 1) t cs := by
  have h := Bk.new (w.alloc x) t cs
  simpa using h
set_option maxRecDepth 100000 in
set_option maxHeartbeats 2000000 in
theorem rSameAtom_any (p p' : UInt32) (A A' : Option Addr) (n c n' c' : Nat) (l l' : List Tm) (w : World) (h : RdT w w.heap.size A n l) (h' : RdT w w.heap.size A' n' l') (hn : n ≤ 1000000) :
    Calls Tryz.prog 69 #[.agg #[nv p, .slice A n c], .agg #[nv p', .slice A' n' c']] w fun e w' => e = .returned (.bool (decide (((p, l) : AtL) = (p', l')))) ∧ Below w.heap.size w w' := by
  have HL := Lib.hid (rdT_len h)
  have HL' := Lib.hid (rdT_len h')
  obtain ⟨W, hW, hb, hb', hbw⟩ : ∃ W, W = (w.alloc (.cells #[nv p, .slice A n c] 49)).alloc (.cells #[nv p', .slice A' n' c'] 49) ∧ Bk W w.heap.size 49 [nv p, .slice A n c] ∧
      Bk W (w.heap.size + 1) 49 [nv p', .slice A' n' c'] ∧ Below w.heap.size w W := ⟨_, rfl, (Bk.new w _ _).alloc _, Bk.second w _ _ _, below2 _ _ _⟩
  have HR := Lib.hid (h.below hbw)
  have HR' := Lib.hid (h'.below hbw)
  have HW := Lib.hid hW
  have HB := Lib.hid hb
  have HB' := Lib.hid hb'
  have c0 := hb.cell 0
  rw [show [nv p, Value.slice A n c][0]? = some (nv p) from rfl] at c0
  have c1 := hb.cell 1
  rw [show [nv p, Value.slice A n c][1]? = some (Value.slice A n c) from rfl] at c1
  have c0' := hb'.cell 0
  rw [show [nv p', Value.slice A' n' c'][0]? = some (nv p') from rfl] at c0'
  have c1' := hb'.cell 1
  rw [show [nv p', Value.slice A' n' c'][1]? = some (Value.slice A' n' c') from rfl] at c1'
  clear h h' hW hb hb'
  by_cases hp : p = p'
  · subst hp
    have hpp : ((p.toNat : Int) != (p.toNat : Int)) = false := by simp
    by_cases hnn : n = n'
    · subst hnn
      have hd : ((n : Int) != (n : Int)) = false := by simp
      go_enter Tryz.func69, Tryz.ntmps69
      repeat go_step
      rw [← HW.out]
      repeat go_step
      have hs0 := Nat.le_refl W.heap.size
      go_loopw [5] (fun p wr => ∃ i : Nat, i ≤ n ∧ p = .int .i64 (i : Int) ∧ l.take i = l'.take i ∧ Below W.heap.size W wr) (fun p _ => n - (intOf p).toNat)
      case atStart => exact ⟨0, by omega, rfl, by simp, Below.refl _ _⟩
      case round =>
        obtain ⟨i, hi, rfl, htk, hbr⟩ := hrel
        have d1 := (HB.out.later hbr).cell 1
        rw [show [nv p, Value.slice A n c][1]? = some (Value.slice A n c) from rfl] at d1
        have d1' := (HB'.out.later hbr).cell 1
        rw [show [nv p, Value.slice A' n c'][1]? = some (Value.slice A' n c') from rfl] at d1'
        by_cases hlt : i < n
        · have hci : (i : Int) < (n : Int) := by omega
          obtain ⟨b, o, t, hA, hbb, ht, hc0, hc1⟩ := rdT_at (HR.out.below (hbr.mono hbw.size)) hlt
          obtain ⟨b', o', t', hA', hbb', ht', hc0', hc1'⟩ := rdT_at (HR'.out.below (hbr.mono hbw.size)) hlt
          subst hA hA'
          have heq := run_eqT t t'
          have HT := Lib.hid ht
          have HT' := Lib.hid ht'
          have HTK := Lib.hid htk
          have HBR := Lib.hid hbr
          clear ht ht' htk hbr c0 c0' c1 c1'
          by_cases he : t = t'
          · have hde : decide (t = t') = true := by simp [he]
            have HE := Lib.hid he
            clear he
            rw [hde] at heq
            repeat go_step
            go_quiet (fail)
            repeat go_step
            go_roundw
            case rel => exact ⟨i + 1, by omega, by go_num, take_eq HT.out HT'.out HTK.out HE.out, belowDrewQ HBR.out _⟩
            case measure => simp [intOf]; omega
          · have hde : decide (t = t') = false := by simp [he]
            have HE := Lib.hid he
            clear he
            rw [hde] at heq
            repeat go_step
            go_quiet (fail)
            repeat go_step
            go_ret
            refine ⟨?_, hbw.trans ((belowDrewQ HBR.out _).mono hbw.size)⟩
            have := ne_at HT.out HT'.out HE.out
            simp [this]
        · obtain rfl : i = n := by omega
          have he : l = l' := all_eq HL.out HL'.out htk
          have HE := Lib.hid he
          have HBR := Lib.hid hbr
          clear he htk hbr
          repeat go_step
          go_ret
          exact ⟨by rw [HE.out]; simp, hbw.trans (HBR.out.mono hbw.size)⟩
    · have hd : ((n : Int) != (n' : Int)) = true := by simp; omega
      have he : l ≠ l' := fun e => hnn (by rw [← HL.out, ← HL'.out, e])
      have HE := Lib.hid he
      clear he hnn
      go_enter Tryz.func69, Tryz.ntmps69
      repeat go_step
      rw [← HW.out]
      repeat go_step
      go_ret
      exact ⟨by simp [HE.out], hbw⟩
  · have hpp := u32ne hp
    have HP := Lib.hid hp
    clear hp
    go_enter Tryz.func69, Tryz.ntmps69
    repeat go_step
    rw [← HW.out]
    repeat go_step
    go_ret
    exact ⟨by simp [HP.out], hbw⟩
abbrev SlA := Option Addr × Nat × Nat
abbrev SlA.val (r : SlA) : Value := .slice r.1 r.2.1 r.2.2
def liC (z : Li × SlA) : List Value := [.bool z.1.1, nv z.1.2.1, z.2.val]
theorem flat_at {α β : Type} (f : α → List β) (k : Nat) (hf : ∀ x, (f x).length = k) {l : List α} {i : Nat} {x : α} (h : l[i]? = some x) (j : Nat) (hj : j < k) : (l.flatMap f)[i * k + j]? = (f x)[j]? := by
  induction l generalizing i with
  | nil => simp at h
  | cons y l ih =>
    rw [List.flatMap_cons]
    cases i with
    | zero =>
      simp only [List.getElem?_cons_zero, Option.some.injEq] at h
      subst h
      rw [Nat.zero_mul, Nat.zero_add, List.getElem?_append_left (by rw [hf]; exact hj)]
    | succ i =>
      rw [List.getElem?_cons_succ] at h
      have e : (i + 1) * k + j = (f y).length + (i * k + j) := by rw [hf, Nat.add_mul]; omega
      rw [e, List.getElem?_append_right (by omega), Nat.add_sub_cancel_left]
      exact ih h
/-- A slice of conditions that is read: each one's slice of terms, and what it says. -/
structure RdL (w : World) (B : Nat) (A : Option Addr) (n : Nat) (R : List SlA) (L : List Li) : Prop where
  lenR : R.length = n
  lenL : L.length = n
  top : Rd w B 3 A n ((L.zip R).flatMap liC)
  row : ∀ (i : Nat) (r : SlA) (x : Li), R[i]? = some r → L[i]? = some x → RdT w B r.1 r.2.1 x.2.2
section
variable {w w' : World} {B n : Nat} {A : Option Addr} {R : List SlA} {L : List Li}
theorem RdL.below (h : RdL w B A n R L) (hb : Below B w w') : RdL w' B A n R L :=
  ⟨h.lenR, h.lenL, h.top.below hb, fun i r x h1 h2 => (h.row i r x h1 h2).below hb⟩
theorem RdL.more {B' : Nat} (h : RdL w B A n R L) (hB : B ≤ B') : RdL w B' A n R L :=
  ⟨h.lenR, h.lenL, h.top.more hB, fun i r x h1 h2 => (h.row i r x h1 h2).more hB⟩
theorem RdL.at_ (h : RdL w B A n R L) {i : Nat} (hi : i < n) :
    ∃ b o g p l Ai ni ci, A = some ⟨b, o, none⟩ ∧ b < B ∧ L[i]? = some (g, p, l) ∧ w.cell? ⟨b, o + i * 3, none⟩ = some (.bool g) ∧ w.cell? ⟨b, o + i * 3 + 1, none⟩ = some (nv p) ∧ w.cell? ⟨b, o + i * 3 + 2, none⟩ = some (.slice Ai ni ci) ∧ RdT w B Ai ni l := by
  obtain ⟨b, o, e, hb, hc⟩ := h.top.2 (by omega)
  have h1 : R[i]? = some (R[i]'(by rw [h.lenR]; exact hi)) := List.getElem?_eq_getElem _
  have h2 : L[i]? = some (L[i]'(by rw [h.lenL]; exact hi)) := List.getElem?_eq_getElem _
  generalize R[i]'(by rw [h.lenR]; exact hi) = r at h1
  generalize L[i]'(by rw [h.lenL]; exact hi) = x at h2
  obtain ⟨Ai, ni, ci⟩ := r
  obtain ⟨g, p, l⟩ := x
  have hz : (L.zip R)[i]? = some ((g, p, l), (Ai, ni, ci)) := by
    rw [List.getElem?_zip_eq_some]
    exact ⟨h2, h1⟩
  have hl : ∀ x : Li × SlA, (liC x).length = 3 := fun _ => rfl
  have f0 := flat_at liC 3 hl hz 0 (by omega)
  have f1 := flat_at liC 3 hl hz 1 (by omega)
  have f2 := flat_at liC 3 hl hz 2 (by omega)
  exact ⟨b, o, g, p, l, Ai, ni, ci, e, hb, h2, hc _ _ f0, hc _ _ f1, hc _ _ f2, h.row i _ _ h1 h2⟩
end
theorem Bk.read {w w' : World} {g : Nat} {t : TypeId} {cs : List Value} (h : Bk w g t cs) (hb : Below w.heap.size w w') (i : Nat) {v : Value} (hv : cs[i]? = some v) : w'.cell? ⟨g, i, none⟩ = some v := by
  rw [(h.later hb).cell, hv]
abbrev OwU (w : World) (base : Nat) (A : Option Addr) (c n : Nat) (l : List UInt32) : Prop := w.ownsRow base 44 1 (.slice A n c) n (l.map nv)
abbrev OwT (w : World) (base : Nat) (A : Option Addr) (c n : Nat) (l : List Tm) : Prop := w.ownsRow base 46 2 (.slice A n c) n (tmCs l)
section
variable {w w' : World} {base : Nat} {A : Option Addr} {c n : Nat}
theorem OwU.rd {l : List UInt32} (h : OwU w base A c n l) : RdU w w.heap.size A n l := Rd.ofOwn h
theorem OwT.rd {l : List Tm} (h : OwT w base A c n l) : RdT w w.heap.size A n l := Rd.ofOwn h
theorem OwU.cap {l : List UInt32} (h : OwU w base A c n l) : n ≤ c := by
  obtain ⟨A1, c1, hv, hl⟩ := ownForm h
  cases hv
  exact hl
theorem OwT.cap {l : List Tm} (h : OwT w base A c n l) : n ≤ c := by
  obtain ⟨A1, c1, hv, hl⟩ := ownForm h
  cases hv
  exact hl
end
theorem Bk.readT {w w' : World} {g : Nat} {t : TypeId} {cs : List Value} (h : Bk w g t cs) (hb : Below w.heap.size w w') (i : Nat) {v : Value} (hv : cs[i]? = some v) : w'.cell? ⟨g, i, none⟩ = some v := by
  rw [(h.later hb).cell, hv]
/-- What is still to be read; none, if they said nothing. -/
def rest (bs : List UInt8) (k : Nat) (bad : Bool) : Option (List UInt8) := if bad then none else some (bs.drop k)
/-- How a reader's answer shows in a taker. -/
def After {α : Type} (a : Option (α × List UInt8)) (bs : List UInt8) (k : Nat) (bad : Bool) (x z : α) : Prop :=
  match a with
  | none => bad = true ∧ x = z
  | some (y, r) => bad = false ∧ x = y ∧ r = bs.drop k
theorem After.map {α β : Type} {p : Rdr α} {o : Option (List UInt8)} {bs : List UInt8} {k : Nat} {bad : Bool} {v z : α} (f : α → β) (h : After (o.bind p) bs k bad v z) : After (o.bind (rMap p f)) bs k bad (f v) (f z) := by
  cases o with
  | none => exact ⟨h.1, congrArg f h.2⟩
  | some l =>
    have h : After (p l) bs k bad v z := h
    show After ((p l).map fun q => (f q.1, q.2)) bs k bad (f v) (f z)
    cases hp : p l with
    | none => rw [hp] at h; exact ⟨h.1, congrArg f h.2⟩
    | some q => rw [hp] at h; exact ⟨h.1, congrArg f h.2.1, h.2.2⟩
/-- As After; of what is answered where they said nothing, nothing. -/
def AfterW {α : Type} (a : Option (α × List UInt8)) (bs : List UInt8) (k : Nat) (bad : Bool) (x : α) : Prop :=
  match a with
  | none => bad = true
  | some (y, r) => bad = false ∧ x = y ∧ r = bs.drop k
section
variable {α β : Type} {p : Rdr α} {q : Rdr β} {o : Option (List UInt8)} {bs : List UInt8} {k k1 k2 : Nat} {bad b1 b2 : Bool}
theorem AfterW.map {v : α} (f : α → β) (h : AfterW (o.bind p) bs k bad v) : AfterW (o.bind (rMap p f)) bs k bad (f v) := by
  cases o with
  | none => exact h
  | some l =>
    have h : AfterW (p l) bs k bad v := h
    show AfterW ((p l).map fun q => (f q.1, q.2)) bs k bad (f v)
    cases hp : p l with
    | none => rw [hp] at h; exact h
    | some q => rw [hp] at h; exact ⟨h.1, congrArg f h.2.1, h.2.2⟩
theorem AfterW.row {most N : Nat} {L : List α} (h : AfterW (o.bind (rByte most)) bs k1 b1 N) (h2 : AfterW ((rest bs k1 b1).bind (rMany p N)) bs k2 b2 L) : AfterW (o.bind (rRow most p)) bs k2 b2 L := by
  cases o with
  | none =>
    have h : b1 = true := h
    subst h
    exact h2
  | some l =>
    have h : AfterW (rByte most l) bs k1 b1 N := h
    show AfterW (rRow most p l) bs k2 b2 L
    unfold rRow
    cases hp : rByte most l with
    | none =>
      rw [hp] at h
      have h : b1 = true := h
      subst h
      exact h2
    | some z =>
      obtain ⟨x', r⟩ := z
      rw [hp] at h
      obtain ⟨rfl, rfl, rfl⟩ := h
      exact h2
theorem AfterW.snoc {i : Nat} {L : List α} {x : α} (h : AfterW (o.bind (rMany p i)) bs k1 b1 L) (h2 : AfterW ((rest bs k1 b1).bind p) bs k2 b2 x) : AfterW (o.bind (rMany p (i + 1))) bs k2 b2 (L ++ [x]) := by
  cases o with
  | none =>
    have h : b1 = true := h
    subst h
    exact h2
  | some l =>
    have h : AfterW (rMany p i l) bs k1 b1 L := h
    show AfterW (rMany p (i + 1) l) bs k2 b2 (L ++ [x])
    rw [rMany_snoc]
    cases hp : rMany p i l with
    | none =>
      rw [hp] at h
      have h : b1 = true := h
      subst h
      exact h2
    | some z =>
      obtain ⟨x', r⟩ := z
      rw [hp] at h
      obtain ⟨rfl, rfl, rfl⟩ := h
      have h2 : AfterW (p (bs.drop k1)) bs k2 b2 x := h2
      dsimp only
      cases hq : p (bs.drop k1) with
      | none => rw [hq] at h2; exact h2
      | some z2 => rw [hq] at h2; exact ⟨h2.1, by rw [h2.2.1], h2.2.2⟩
end
def coC (z : Co × SlA) : List Value := [.bool z.1.1, .bool z.1.2.1, .bool z.1.2.2.1.1, nv z.1.2.2.1.2, nv z.1.2.2.2.1, z.2.val]
/-- A slice of a rule's conditions that is read: each one's slice of terms, and what it says. -/
structure RdK (w : World) (B : Nat) (A : Option Addr) (n : Nat) (R : List SlA) (L : List Co) : Prop where
  lenR : R.length = n
  lenL : L.length = n
  top : Rd w B 6 A n ((L.zip R).flatMap coC)
  row : ∀ (i : Nat) (r : SlA) (x : Co), R[i]? = some r → L[i]? = some x → RdT w B r.1 r.2.1 x.2.2.2.2
section
variable {w w' : World} {B n : Nat} {A : Option Addr} {R : List SlA} {L : List Co}
theorem RdK.below (h : RdK w B A n R L) (hb : Below B w w') : RdK w' B A n R L :=
  ⟨h.lenR, h.lenL, h.top.below hb, fun i r x h1 h2 => (h.row i r x h1 h2).below hb⟩
theorem RdK.more {B' : Nat} (h : RdK w B A n R L) (hB : B ≤ B') : RdK w B' A n R L :=
  ⟨h.lenR, h.lenL, h.top.more hB, fun i r x h1 h2 => (h.row i r x h1 h2).more hB⟩
theorem RdK.at_ (h : RdK w B A n R L) {i : Nat} (hi : i < n) :
    ∃ b o g s x p l Ai ni ci, A = some ⟨b, o, none⟩ ∧ b < B ∧ L[i]? = some (g, s, x, p, l) ∧ w.cell? ⟨b, o + i * 6, none⟩ = some (.bool g) ∧ w.cell? ⟨b, o + i * 6 + 1, none⟩ = some (.bool s) ∧ w.cell? ⟨b, o + i * 6 + 2, none⟩ = some (.bool x.1) ∧ w.cell? ⟨b, o + i * 6 + 3, none⟩ = some (nv x.2) ∧ w.cell? ⟨b, o + i * 6 + 4, none⟩ = some (nv p) ∧ w.cell? ⟨b, o + i * 6 + 5, none⟩ = some (.slice Ai ni ci) ∧ RdT w B Ai ni l := by
  obtain ⟨b, o, e, hb, hc⟩ := h.top.2 (by omega)
  have h1 : R[i]? = some (R[i]'(by rw [h.lenR]; exact hi)) := List.getElem?_eq_getElem _
  have h2 : L[i]? = some (L[i]'(by rw [h.lenL]; exact hi)) := List.getElem?_eq_getElem _
  generalize R[i]'(by rw [h.lenR]; exact hi) = r at h1
  generalize L[i]'(by rw [h.lenL]; exact hi) = y at h2
  obtain ⟨Ai, ni, ci⟩ := r
  obtain ⟨g, s, x, p, l⟩ := y
  have hz : (L.zip R)[i]? = some ((g, s, x, p, l), (Ai, ni, ci)) := by
    rw [List.getElem?_zip_eq_some]
    exact ⟨h2, h1⟩
  have hl : ∀ x : Co × SlA, (coC x).length = 6 := fun _ => rfl
  have f0 := flat_at coC 6 hl hz 0 (by omega)
  have f1 := flat_at coC 6 hl hz 1 (by omega)
  have f2 := flat_at coC 6 hl hz 2 (by omega)
  have f3 := flat_at coC 6 hl hz 3 (by omega)
  have f4 := flat_at coC 6 hl hz 4 (by omega)
  have f5 := flat_at coC 6 hl hz 5 (by omega)
  exact ⟨b, o, g, s, x, p, l, Ai, ni, ci, e, hb, h2, hc _ _ f0, hc _ _ f1, hc _ _ f2, hc _ _ f3, hc _ _ f4, hc _ _ f5, h.row i _ _ h1 h2⟩
end
set_option maxRecDepth 100000 in
set_option maxHeartbeats 4000000 in
theorem rSameSay_any (b b' : Bool) (x x' : Tm) (p p' : UInt32) (A A' : Option Addr) (n c n' c' : Nat) (l l' : List Tm) (w : World) (h : RdT w w.heap.size A n l) (h' : RdT w w.heap.size A' n' l') (hn : n ≤ 1000000) :
    Calls Tryz.prog 45 #[.agg #[.bool b, .bool x.1, nv x.2, nv p, .slice A n c], .agg #[.bool b', .bool x'.1, nv x'.2, nv p', .slice A' n' c']] w fun e w' => e = .returned (.bool (decide (((b, x, (p, l)) : Sy) = (b', x', (p', l'))))) ∧ Below w.heap.size w w' := by
  obtain ⟨U, hU, hH, hH', hbU⟩ : ∃ U, U = (w.alloc (.cells #[.bool b, .bool x.1, nv x.2, nv p, .slice A n c] 51)).alloc (.cells #[.bool b', .bool x'.1, nv x'.2, nv p', .slice A' n' c'] 51) ∧ Bk U w.heap.size 51 [.bool b, .bool x.1, nv x.2, nv p, .slice A n c] ∧ Bk U (w.heap.size + 1) 51 [.bool b', .bool x'.1, nv x'.2, nv p', .slice A' n' c'] ∧ Below w.heap.size w U :=
    ⟨_, rfl, (Bk.new w _ _).alloc _, Bk.second w _ _ _, below2 _ _ _⟩
  have HU := Lib.hid hU
  have HB := Lib.hid hbU
  have HR := Lib.hid (h.below hbU)
  have HR' := Lib.hid (h'.below hbU)
  have k0 := hH.readT (Below.refl _ _) 0 rfl
  have k1 := hH.readT (Below.refl _ _) 1 rfl
  have k2 := hH.readT (Below.refl _ _) 2 rfl
  have k3 := hH.readT (Below.refl _ _) 3 rfl
  have k4 := hH.readT (Below.refl _ _) 4 rfl
  have j0 := hH'.readT (Below.refl _ _) 0 rfl
  have j1 := hH'.readT (Below.refl _ _) 1 rfl
  have j2 := hH'.readT (Below.refl _ _) 2 rfl
  have j3 := hH'.readT (Below.refl _ _) 3 rfl
  have j4 := hH'.readT (Below.refl _ _) 4 rfl
  clear hU hH hH' hbU h h'
  go_enter Tryz.func45, Tryz.ntmps45
  go_upto_region 1 with (fail)
  rw [← HU.out]
  clear HU
  generalize hhb : w.heap.size = hb at HR HR' HB k0 k1 k2 k3 k4 j0 j1 j2 j3 j4 ⊢
  rw [← hhb] at HB HR HR'
  clear hhb
  obtain ⟨v, y⟩ := x
  obtain ⟨v', y'⟩ := x'
  dsimp only at k1 k2 j1 j2
  have hyd : (y = y' ∧ ((y.toNat : Int) == (y'.toNat : Int)) = true) ∨ (y ≠ y' ∧ ((y.toNat : Int) == (y'.toNat : Int)) = false) := by
    by_cases h : y = y'
    · exact .inl ⟨h, by simp [h]⟩
    · refine .inr ⟨h, ?_⟩
      rw [beq_eq_false_iff_ne]
      intro e
      exact h (UInt32.toNat_inj.1 (by omega))
  rcases hyd with ⟨hy, hyb⟩ | ⟨hy, hyb⟩ <;> have HY := Lib.hid hy <;> clear hy <;> cases b <;> cases b' <;> cases v <;> cases v'
  all_goals first
    | (repeat (first | go_skip | go_guarded | go_step)
       refine (rSameAtom_any p p' A A' n c n' c' l l' U (HR.out.more HB.out.size) (HR'.out.more HB.out.size) hn).mono ?_
       rintro e V5 ⟨rfl, hb5⟩
       dsimp only
       repeat (first | go_skip | go_guarded | go_step)
       go_ret
       refine ⟨?_, HB.out.trans (hb5.mono HB.out.size)⟩
       have hy := HY.out
       simp [hy]
       done)
    | (repeat (first | go_skip | go_guarded | go_step)
       go_ret
       refine ⟨?_, HB.out⟩
       have hy := HY.out
       simp [hy]
       done)
instance : DecidableEq Sy := inferInstanceAs (DecidableEq (Bool × Tm × AtL))
instance : DecidableEq Co := inferInstanceAs (DecidableEq (Bool × Sy))
instance : DecidableEq Rl := inferInstanceAs (DecidableEq (Sy × List Co))
set_option maxRecDepth 100000 in
set_option maxHeartbeats 4000000 in
theorem rSameRule_any (s0 : Bool) (x0 : Tm) (p : UInt32) (A : Option Addr) (n c : Nat) (l : List Tm) (A1 : Option Addr) (n1 c1 : Nat) (R : List SlA) (L : List Co) (s0' : Bool) (x0' : Tm) (p' : UInt32) (A' : Option Addr) (n' c' : Nat) (l' : List Tm) (A1' : Option Addr) (n1' c1' : Nat) (R' : List SlA) (L' : List Co) (w : World)
    (h : RdT w w.heap.size A n l) (h1 : RdK w w.heap.size A1 n1 R L) (h' : RdT w w.heap.size A' n' l') (h1' : RdK w w.heap.size A1' n1' R' L') (hn : n ≤ 1000000) (hn1 : n1 ≤ 1000000) (hk : ∀ x ∈ L, x.2.2.2.2.length ≤ 1000000) :
    Calls Tryz.prog 25 #[.agg #[.bool s0, .bool x0.1, nv x0.2, nv p, .slice A n c, .slice A1 n1 c1], .agg #[.bool s0', .bool x0'.1, nv x0'.2, nv p', .slice A' n' c', .slice A1' n1' c1']] w fun e w' => e = .returned (.bool (decide ((((s0, x0, (p, l)), L) : Rl) = ((s0', x0', (p', l')), L')))) ∧ Below w.heap.size w w' := by
  have HL1 := Lib.hid h1.lenL
  have HL1' := Lib.hid h1'.lenL
  have HK := Lib.hid hk
  obtain ⟨W, hW, hb, hb', hbw⟩ : ∃ W, W = (w.alloc (.cells #[.bool s0, .bool x0.1, nv x0.2, nv p, .slice A n c, .slice A1 n1 c1] 54)).alloc (.cells #[.bool s0', .bool x0'.1, nv x0'.2, nv p', .slice A' n' c', .slice A1' n1' c1'] 54) ∧ Bk W w.heap.size 54 [.bool s0, .bool x0.1, nv x0.2, nv p, .slice A n c, .slice A1 n1 c1] ∧
      Bk W (w.heap.size + 1) 54 [.bool s0', .bool x0'.1, nv x0'.2, nv p', .slice A' n' c', .slice A1' n1' c1'] ∧ Below w.heap.size w W := ⟨_, rfl, (Bk.new w _ _).alloc _, Bk.second w _ _ _, below2 _ _ _⟩
  have HW := Lib.hid hW
  have HB := Lib.hid hb
  have HB' := Lib.hid hb'
  have HR := Lib.hid ((h.below hbw).more hbw.size)
  have HR' := Lib.hid ((h'.below hbw).more hbw.size)
  have HR1 := Lib.hid ((h1.below hbw).more hbw.size)
  have HR1' := Lib.hid ((h1'.below hbw).more hbw.size)
  have k0 := hb.read (Below.refl _ _) 0 rfl
  have k1 := hb.read (Below.refl _ _) 1 rfl
  have k2 := hb.read (Below.refl _ _) 2 rfl
  have k3 := hb.read (Below.refl _ _) 3 rfl
  have k4 := hb.read (Below.refl _ _) 4 rfl
  have k0' := hb'.read (Below.refl _ _) 0 rfl
  have k1' := hb'.read (Below.refl _ _) 1 rfl
  have k2' := hb'.read (Below.refl _ _) 2 rfl
  have k3' := hb'.read (Below.refl _ _) 3 rfl
  have k4' := hb'.read (Below.refl _ _) 4 rfl
  clear hW hb hb' h h' h1 h1' hk
  go_enter Tryz.func25, Tryz.ntmps25
  go_upto_region 1 with (fail)
  rw [← HW.out]
  repeat (first | go_skip | go_guarded | go_step)
  refine (rSameSay_any s0 s0' x0 x0' p p' A A' n c n' c' l l' W HR.out HR'.out hn).mono ?_
  rintro e W1 ⟨rfl, hb1⟩
  dsimp only
  have j2 := HB.out.read hb1 5 rfl
  have j2' := HB'.out.read hb1 5 rfl
  have HB1 := Lib.hid hb1
  clear hb1 k0 k1 k2 k3 k4 k0' k1' k2' k3' k4'
  by_cases hh : ((s0, x0, (p, l)) : Sy) = (s0', x0', (p', l'))
  · rw [decide_eq_true hh]
    have HH := Lib.hid hh
    clear hh
    by_cases hnn : n1 = n1'
    · subst hnn
      have hd : ((n1 : Int) != (n1 : Int)) = false := by simp
      repeat (first | go_skip | go_guarded | go_step)
      go_loopw [5] (fun p wr => ∃ i : Nat, i ≤ n1 ∧ p = .int .i64 (i : Int) ∧ L.take i = L'.take i ∧ Below W.heap.size W wr) (fun p _ => n1 - (intOf p).toNat)
      case atStart => exact ⟨0, by omega, rfl, by simp, HB1.out⟩
      case round =>
        obtain ⟨i, hi, rfl, htk, hbr⟩ := hrel
        clear j2 j2'
        have i2 := HB.out.read hbr 5 rfl
        have i2' := HB'.out.read hbr 5 rfl
        have HTK := Lib.hid htk
        clear htk
        by_cases hlt : i < n1
        · have hci : (i : Int) < (n1 : Int) := by omega
          obtain ⟨b, o, g, s, x, q, l2, Ai, ni, ci, hA, hbb, hx, hc0, hc1, hc2, hc3, hc4, hc5, hrow⟩ := (HR1.out.below hbr).at_ hlt
          obtain ⟨b', o', g', s', x', q', l2', Ai', ni', ci', hA', hbb', hx', hc0', hc1', hc2', hc3', hc4', hc5', hrow'⟩ := (HR1'.out.below hbr).at_ hlt
          subst hA hA'
          have hni : ni ≤ 1000000 := by
            have := HK.out _ (List.mem_of_getElem? hx)
            have := rdT_len hrow
            dsimp only at *
            omega
          have HX := Lib.hid hx
          have HX' := Lib.hid hx'
          have HRO := Lib.hid (hrow.more hbr.size)
          have HRO' := Lib.hid (hrow'.more hbr.size)
          have HBR := Lib.hid hbr
          clear hx hx' hrow hrow' hbr
          by_cases hg : g = g'
          · subst hg
            have hgg : (g != g) = false := by simp
            repeat (first | go_skip | go_guarded | go_step)
            go_still_tail 26, (by kernel_rfl)
            change wpList _ _ _ _ _ wr.drew
            have hdr : Below W.heap.size W wr.drew := belowDrewQ HBR.out 1
            have HDR := Lib.hid hdr
            clear hdr
            repeat (first | go_skip | go_guarded | go_step)
            refine (rSameSay_any s s' x x' q q' Ai Ai' ni ci ni' ci' l2 l2' wr.drew (HRO.out.below (belowDrewQ (Below.refl _ wr) 1)) (HRO'.out.below (belowDrewQ (Below.refl _ wr) 1)) hni).mono ?_
            rintro e W2 ⟨rfl, hb2⟩
            dsimp only
            have HB2 := Lib.hid (show Below W.heap.size W W2 from HDR.out.trans (hb2.mono HDR.out.size))
            clear hb2
            by_cases he : ((s, x, (q, l2)) : Sy) = (s', x', (q', l2'))
            · rw [decide_eq_true he]
              have HE := Lib.hid he
              clear he
              repeat (first | go_skip | go_guarded | go_step)
              go_roundw
              case rel => exact ⟨i + 1, by omega, by go_num, take_eq HX.out HX'.out HTK.out (by rw [HE.out]), HB2.out⟩
              case measure => simp [intOf]; omega
            · rw [decide_eq_false he]
              have HE := Lib.hid he
              clear he
              repeat (first | go_skip | go_guarded | go_step)
              go_ret
              refine ⟨?_, hbw.trans (HB2.out.mono hbw.size)⟩
              have hne := ne_at HX.out HX'.out (fun e => HE.out (Prod.mk.inj e).2)
              simp [hne]
          · have hne := ne_at HX.out HX'.out (fun e => hg (Prod.mk.inj e).1)
            have HNE := Lib.hid hne
            clear hne
            cases g <;> cases g'
            · exact absurd rfl hg
            · repeat (first | go_skip | go_guarded | go_step)
              go_quiet (fail)
              repeat (first | go_skip | go_guarded | go_step)
              go_ret
              exact ⟨by simp [HNE.out], hbw.trans ((belowDrewQ HBR.out _).mono hbw.size)⟩
            · repeat (first | go_skip | go_guarded | go_step)
              go_quiet (fail)
              repeat (first | go_skip | go_guarded | go_step)
              go_ret
              exact ⟨by simp [HNE.out], hbw.trans ((belowDrewQ HBR.out _).mono hbw.size)⟩
            · exact absurd rfl hg
        · obtain rfl : i = n1 := by omega
          have HBR := Lib.hid hbr
          clear hbr
          repeat (first | go_skip | go_guarded | go_step)
          go_ret
          have he := all_eq HL1.out HL1'.out HTK.out
          exact ⟨by simp [HH.out, he], hbw.trans (HBR.out.mono hbw.size)⟩
    · have hd : ((n1 : Int) != (n1' : Int)) = true := by simp; omega
      have hne : L ≠ L' := fun e => hnn (by rw [← HL1.out, ← HL1'.out, e])
      have HNE := Lib.hid hne
      clear hne hnn
      repeat (first | go_skip | go_guarded | go_step)
      go_ret
      exact ⟨by simp [HNE.out], hbw.trans (HB1.out.mono hbw.size)⟩
  · rw [decide_eq_false hh]
    have HH := Lib.hid hh
    clear hh
    repeat (first | go_skip | go_guarded | go_step)
    go_ret
    have hne : ¬ ((((s0, x0, (p, l)), L) : Rl) = ((s0', x0', (p', l')), L')) := fun e => HH.out (Prod.mk.inj e).1
    exact ⟨by rw [decide_eq_false hne] <;> first | rfl | simp, hbw.trans (HB1.out.mono hbw.size)⟩
/-- An own row of things of s cells, each with an own row of terms that lies apart from it. -/
structure OwG {α : Type} (e : TypeId) (s : Nat) (cl : α × SlA → List Value) (tm : α → List Tm) (w : World) (base : Nat) (A : Option Addr) (c n : Nat) (R : List SlA) (L : List α) : Prop where
  lenR : R.length = n
  lenL : L.length = n
  top : w.ownsRow base e s (.slice A n c) n ((L.zip R).flatMap cl)
  row : ∀ (i : Nat) (r : SlA) (x : α), R[i]? = some r → L[i]? = some x → OwT w base r.1 r.2.2 r.2.1 (tm x) ∧ ∀ k, r.val.ownBlock = some k → (Value.slice A n c).ownBlock ≠ some k
section
variable {α : Type} {e : TypeId} {s : Nat} {cl : α × SlA → List Value} {tm : α → List Tm} {w w' : World} {base : Nat} {A : Option Addr} {c n : Nat} {R : List SlA} {L : List α}
theorem OwG.nil (w : World) (base : Nat) : OwG e s cl tm w base none 0 0 [] [] :=
  ⟨rfl, rfl, World.ownsRow_nil _ _ _ _, fun i r x h => by simp at h⟩
theorem OwG.turn {G : Nat → Prop} (h : OwG e s cl tm w base A c n R L) (ht : Turn G w w') (hn : ∀ k, base ≤ k → ¬ G k) : OwG e s cl tm w' base A c n R L :=
  ⟨h.lenR, h.lenL, ht.own h.top (fun k hk => hn k (World.ownsRow.lt h.top k hk).1), fun i r x h1 h2 => ⟨ht.own (h.row i r x h1 h2).1 (fun k hk => hn k (World.ownsRow.lt (h.row i r x h1 h2).1 k hk).1), (h.row i r x h1 h2).2⟩⟩
theorem OwG.later (h : OwG e s cl tm w base A c n R L) (hb : Below w.heap.size w w') : OwG e s cl tm w' base A c n R L :=
  ⟨h.lenR, h.lenL, ownBelow h.top hb (Nat.le_refl _), fun i r x h1 h2 => ⟨ownBelow (h.row i r x h1 h2).1 hb (Nat.le_refl _), (h.row i r x h1 h2).2⟩⟩
theorem OwG.snoc (h : OwG e s cl tm w base A c n R L) {r : SlA} {x : α} (hr : OwT w base r.1 r.2.2 r.2.1 (tm x)) {H : Nat} (h1 : ∀ k, (Value.slice A n c).ownBlock = some k → k < H) (h2 : ∀ k, r.val.ownBlock = some k → H ≤ k)
    {A' : Option Addr} {c' : Nat} (ho : w'.ownsRow base e s (.slice A' (n + 1) c') (n + 1) ((L.zip R).flatMap cl ++ cl (x, r))) (hg : w.grownBy w' (Value.slice A n c).ownBlock)
    (hb : (Value.slice A' (n + 1) c').ownBlock = (Value.slice A n c).ownBlock ∨ (Value.slice A' (n + 1) c').ownBlock = some w.heap.size) : OwG e s cl tm w' base A' c' (n + 1) (R ++ [r]) (L ++ [x]) := by
  have ht : Turn (fun k => (Value.slice A n c).ownBlock = some k) w w' := Turn.ofGrown hg (fun _ h => h)
  refine ⟨by simp [h.lenR], by simp [h.lenL], ?_, ?_⟩
  · rw [List.zip_append (by rw [h.lenL, h.lenR]), List.flatMap_append]
    simpa using ho
  · intro i r' x' e1 e2
    have key : ∀ (r : SlA) (x : α), OwT w base r.1 r.2.2 r.2.1 (tm x) → (∀ k, r.val.ownBlock = some k → (Value.slice A n c).ownBlock ≠ some k) → OwT w' base r.1 r.2.2 r.2.1 (tm x) ∧ ∀ k, r.val.ownBlock = some k → (Value.slice A' (n + 1) c').ownBlock ≠ some k := by
      intro r x a1 a2
      refine ⟨ht.own a1 (fun k hk hG => a2 k hk hG), fun k hk hc => ?_⟩
      rcases hb with hb | hb
      · rw [hb] at hc
        exact a2 k hk hc
      · rw [hb] at hc
        have := (World.ownsRow.lt a1 k hk).2
        have := Option.some.inj hc
        omega
    by_cases hi : i < n
    · rw [List.getElem?_append_left (by rw [h.lenR]; exact hi)] at e1
      rw [List.getElem?_append_left (by rw [h.lenL]; exact hi)] at e2
      exact key _ _ (h.row i r' x' e1 e2).1 (h.row i r' x' e1 e2).2
    · have hil : i = n := by
        have := (List.getElem?_eq_some_iff.1 e1).1
        simp only [List.length_append, List.length_cons, List.length_nil, h.lenR] at this
        omega
      subst hil
      rw [List.getElem?_append_right (by rw [h.lenR]; omega), h.lenR, Nat.sub_self] at e1
      rw [List.getElem?_append_right (by rw [h.lenL]; omega), h.lenL, Nat.sub_self] at e2
      simp only [List.getElem?_cons_zero, Option.some.injEq] at e1 e2
      subst e1 e2
      exact key _ _ hr (fun k hk hc => by have := h1 k hc; have := h2 k hk; omega)
end
abbrev OwL := @OwG Li 208 3 liC (fun x => x.2.2)
abbrev OwK := @OwG Co 103 6 coC (fun x => x.2.2.2.2)
section
variable {w w' : World} {base : Nat} {A : Option Addr} {c n : Nat} {R : List SlA}
theorem OwL.rd {L : List Li} (h : OwL w base A c n R L) : RdL w w.heap.size A n R L :=
  ⟨h.lenR, h.lenL, Rd.ofOwn h.top, fun i r x h1 h2 => OwT.rd (h.row i r x h1 h2).1⟩
theorem OwK.rd {L : List Co} (h : OwK w base A c n R L) : RdK w w.heap.size A n R L :=
  ⟨h.lenR, h.lenL, Rd.ofOwn h.top, fun i r x h1 h2 => OwT.rd (h.row i r x h1 h2).1⟩
theorem RdL.nil (w : World) (B : Nat) : RdL w B none 0 [] [] := ⟨rfl, rfl, Rd.nil, fun i r x h => by simp at h⟩
theorem RdK.nil (w : World) (B : Nat) : RdK w B none 0 [] [] := ⟨rfl, rfl, Rd.nil, fun i r x h => by simp at h⟩
theorem OwG.cap {α : Type} {e : TypeId} {s : Nat} {cl : α × SlA → List Value} {tm : α → List Tm} {L : List α} (h : OwG e s cl tm w base A c n R L) : n ≤ c := by
  obtain ⟨A1, c1, hv, hl⟩ := ownForm h.top
  cases hv
  exact hl
end
end Go.Proofs.YtoigpbajefkpoaaGreatDoor

set_option linter.unusedVariables false
set_option linter.unusedSimpArgs false
namespace Go.Proofs.YtoigpbajefkpoaaGreatDoor
open Go Go.RowKit

/-- Of what is there, blocks of e's alone turn. -/
structure Typ (e : TypeId) (w w' : World) : Prop where
 os : w'.os = w.os
 tape : w'.tape = w.tape
 output : w'.output = w.output
 size : w.heap.size ≤ w'.heap.size
 block : ∀ (k : Nat) (cs : Array Value) (t : TypeId) (fr : Nat × Nat), w.heap[k]? = some (Obj.cells cs t fr) → t ≠ e → w'.heap[k]? = some (Obj.cells cs t fr)
theorem Typ.refl (e : TypeId) (w : World) : Typ e w w := ⟨rfl, rfl, rfl, Nat.le_refl _, fun _ _ _ _ h _ => h⟩
theorem Typ.bk {e T : TypeId} {w w' : World} {b : Nat} {cs : List Value} (h : Typ e w w') (hb : Bk w b T cs) (hT : T ≠ e) : Bk w' b T cs := h.block _ _ _ _ hb hT
theorem Typ.own {e e' : TypeId} {w w' : World} {base s n : Nat} {v : Value} {xs : List Value} (h : Typ e w w') (ho : w.ownsRow base e' s v n xs) (hT : e' ≠ e) : w'.ownsRow base e' s v n xs := by
 rcases ho.2 with ⟨rfl, h0⟩ | ⟨g', cap, cur, rfl, hg, hc, rest⟩
 ·
  exact ⟨ho.1, Or.inl ⟨rfl, h0⟩⟩
 ·
  exact ⟨ho.1, Or.inr ⟨g', cap, cur, rfl, hg, h.block _ _ _ _ hc hT, rest⟩⟩
theorem Typ.ofGrown {e : TypeId} {w w' : World} {base s n : Nat} {v : Value} {xs : List Value} (ho : w.ownsRow base e s v n xs) (hg : w.grownBy w' v.ownBlock) : Typ e w w' := by
 refine ⟨hg.os, hg.tape, hg.output, hg.size, fun k cs t fr hk ht => ?_⟩
 rw [hg.block k (Array.getElem?_eq_some_iff.1 hk).1 ?_]
 ·
  exact hk
 ·
  intro hv
  rcases ho.2 with ⟨rfl, _⟩ | ⟨g', cap, cur, rfl, _, hc, _⟩
  ·
   simp [Value.ownBlock] at hv
  ·
   simp only [Value.ownBlock, Option.some.injEq] at hv
   subst hv
   rw [hk] at hc
   simp only [Option.some.injEq, Obj.cells.injEq] at hc
   exact ht hc.2.1
theorem Typ.ofBelow {e : TypeId} {w w' : World} (h : Below w.heap.size w w') : Typ e w w' := ⟨h.os, h.tape, h.output, h.size, fun k cs t fr hk _ => (h.block k (Array.getElem?_eq_some_iff.1 hk).1).trans hk⟩
theorem Typ.trans {e : TypeId} {a b c : World} (h : Typ e a b) (k : Typ e b c) : Typ e a c := ⟨k.os.trans h.os, k.tape.trans h.tape, k.output.trans h.output, Nat.le_trans h.size k.size, fun i cs t fr hi ht => k.block _ _ _ _ (h.block _ _ _ _ hi ht) ht⟩
theorem PSt.typ {e : TypeId} {base g sz : Nat} {ws : List Wd} {w w' : World} {x : Except PE PS} (h : PSt w base g ws sz x) (ht : Typ e w w') (h1 : PT ≠ e) (h2 : 9 ≠ e) (h3 : 127 ≠ e) : PSt w' base g ws sz x := by
 obtain ⟨AW, nW, cW, k, AN, nN, cN, AV, nV, cV, e0, a0, names, vars, hg, hbg, hw, hn, hv, hne, rest⟩ := h
 exact ⟨AW, nW, cW, k, AN, nN, cN, AV, nV, cV, e0, a0, names, vars, hg, ht.bk hbg h1, ht.own hw h3, ht.own hn h2, ht.own hv h2, hne, rest⟩
/-- A row that was made since then may grow. -/
theorem Kp.grown {base g : Nat} {w V W : World} {e : TypeId} {b0 s n : Nat} {v : Value} {xs : List Value} (h : Kp base g w V) (ho : V.ownsRow b0 e s v n xs) (hb0 : w.heap.size ≤ b0) (hb : base ≤ b0) (hV : base ≤ V.heap.size) (hg : V.grownBy W v.ownBlock) : Kp base g w W := by
 refine ⟨h.below.grown hg hV (fun k hk => Nat.le_trans hb (ho.lt k hk).1), fun k o hk hb1 ho1 => ?_⟩
 have h4 := h.kept k o hk hb1 ho1
 have hl : k < w.heap.size := (Array.getElem?_eq_some_iff.1 hk).1
 rw [hg.block k (Array.getElem?_eq_some_iff.1 h4).1 (fun e1 => by have := (ho.lt k e1.symm).1; omega)]
 exact h4
theorem tInfo : (Tryz.prog.info? 46).map (fun i => (i.zero, i.size, i.bytes)) = some (some (.agg #[.bool false, .int .u32 0]), 2, 8) := by kernel_rfl
theorem run_litTm (u v : Value) (w : World) : (Instr.buildSlice 47 1 #[(0, .agg #[u, v])]).run Tryz.prog w = .ok (.slice (some ⟨w.heap.size, 0, none⟩) 1 1) (w.alloc (.cells #[u, v] 46)) := by
 obtain ⟨i0, hi, hz0, hz1, hz2⟩ := info_parts tInfo
 simp [Instr.buildSlice, run_underlying Tryz.underlying47, sizeOf, typeInfo, zeroValue, hi, hz0, hz1, newRow, Instr.fill]
 kernel_rfl
/-- 'l = append(l, t)', over terms. -/
theorem appTt {ops : Array Oper} {rest : List Oper} {o : Oper} {a : Act} {Q : Exit → Act → World → Prop} (w : World) (hgd : o.guard = none) (p x : Operand)
  (ho : o.op = .call { callee := .builtin .append, args := #[p, x], argTypes := #[47, 47] })
  (base : Nat) (A0 : Option Addr) (c0 n : Nat) (l : List Tm) (hv : a.eval p = .slice A0 n c0) (hown : OwT w base A0 c0 n l)
  (B : Nat) (A : Option Addr) (m c : Nat) (news : List Tm) (hx : a.eval x = .slice A m c) (hr : RdT w B A m news) (hb : n + m ≤ 1000000000) (hbase : base ≤ w.heap.size)
  (h : ∀ A' c' w', OwT w' base A' c' (n + m) (l ++ news) → w.grownBy w' (Value.slice A0 n c0).ownBlock → wpList Tryz.prog ops Q rest (a.put o.dst (.slice A' (n + m) c')) w') : wpList Tryz.prog ops Q (o :: rest) a w := by
 obtain ⟨i0, hi, hz0, hz1, hz2⟩ := info_parts tInfo
 refine wpList_app w hgd p x 47 ho base 46 i0 _ 2 8 Tryz.underlying47 hi hz0 hz1 hz2 rfl (by decide) _ n _ hv hown B A m c _ hx hr (tmCs_one news) (by simp only [maxLen]; omega) (by omega) hbase ?_
 intro A' c' w' h1 h2 h3
 exact h A' c' w' (by show World.ownsRow _ _ _ _ _ _ _; unfold tmCs at *; rw [List.flatMap_append]; exact h1) h2
/-- The len of a slice that lies in memory. -/
def slN (v : Option Value) : Nat := match v with | some (.slice _ n _) => n | _ => 0
theorem tmBk_rd {w : World} {b : Nat} {tm : Tm} (h : Bk w b 46 [.bool tm.1, nv tm.2]) : RdT w w.heap.size (some ⟨b, 0, none⟩) 1 [tm] :=
 ⟨rfl, fun _ => ⟨b, 0, rfl, h.lt, fun j u hu => by rw [Nat.zero_add, h.cell]; simpa [tmCs, tmC] using hu⟩⟩
end Go.Proofs.YtoigpbajefkpoaaGreatDoor

