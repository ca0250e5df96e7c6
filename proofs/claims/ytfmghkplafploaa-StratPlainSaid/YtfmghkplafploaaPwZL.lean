/- Texts, packed: SrO StN -/
import Derived.Test.YtfmghkplafploaaPwZJ
import Derived.Test.YtfmghkplafploaaPwZK
import Derived.Test.YtfmghkplafploaaPwH
import Derived.Test.YtfmghkplafploaaPwQ
set_option linter.unusedVariables false
namespace Go.Proofs.Ytfmghkplafploaa
open Go Go.RowKit

theorem strat_ok : StratOk where
  levels := fun A n c Q C w h _ hS _ => levels_any A n c Q C w h hS
  strata := fun A n c Q C w h _ hS _ => strata_any A n c Q C w h hS
end Go.Proofs.Ytfmghkplafploaa

set_option linter.unusedVariables false
set_option linter.unusedSimpArgs false
namespace Go.Proofs.Ytfmghkplafploaa
open Go Go.RowKit

def plainC (x : Cl) : Cl := (x.1, x.2.filter fun y => !y.1)
theorem plain_edge {C : List Cl} {e : Ed} (h : e ∈ edL (C.map plainC)) : e.2.2 = false := by
  obtain ⟨x, hx, he⟩ := List.mem_flatMap.1 h
  obtain ⟨y, _, rfl⟩ := List.mem_map.1 hx
  obtain ⟨z, hz, rfl⟩ := List.mem_map.1 he
  have := (List.mem_filter.1 hz).2
  simpa using this
theorem plain_valid (C : List Cl) : Valid (edL (C.map plainC)) (fun _ => 0) := fun e he => by
  rw [plain_edge he]
  exact Nat.le_refl _
theorem plain_least {C : List Cl} {f : UInt32 → Nat} (h : Least (edL (C.map plainC)) f) (p : UInt32) : f p = 0 := by
  have := h.le _ (plain_valid C) p
  omega
theorem slim_plain {C : List Cl} (h : Slim C) : Slim (C.map plainC) := fun x hx => by
  obtain ⟨y, hy, rfl⟩ := List.mem_map.1 hx
  obtain ⟨h1, h2, h3⟩ := h y hy
  exact ⟨h1, Nat.le_trans (List.length_filter_le _ _) h2, fun z hz => h3 z (List.mem_filter.1 hz).1⟩
theorem told_both {C : List Cl} {e e' : Nat} {L : List Lv} {S : List (List Nat)} (h : LevTold C e L) (k : StrTold C e' S) : e = e' ∧ (e ≠ 0 → L = [] ∧ S = []) := by
  cases k with
  | bad k1 k2 =>
    obtain ⟨h1, h2⟩ := h.unique k1
    exact ⟨h1, fun _ => ⟨h2, rfl⟩⟩
  | good k1 k2 =>
    cases h with
    | wrong q => exact absurd k1 q
    | none _ q => exact absurd ⟨_, k2.valid⟩ q
    | some _ _ _ _ _ => exact ⟨rfl, fun q => absurd rfl q⟩
theorem topM_zero : ∀ n : Nat, topM (List.replicate (n + 1) 0) = 1
  | 0 => rfl
  | n + 1 => by
    have h := topM_zero n
    have e : List.replicate (n + 1 + 1) 0 = List.replicate (n + 1) 0 ++ [0] := List.replicate_succ'
    rw [e, topM_snoc, h]
    rfl
theorem rowM_zero (n : Nat) : rowM (List.replicate n 0) 0 = List.range n := by
  unfold rowM
  rw [List.length_replicate]
  refine List.filter_eq_self.2 fun i hi => ?_
  rw [List.mem_range] at hi
  rw [List.getElem?_replicate, if_pos hi]
  rfl
theorem strM_zero (n : Nat) : strM (List.replicate (n + 1) 0) = [List.range (n + 1)] := by
  unfold strM
  rw [topM_zero, List.range_one, List.map_singleton, rowM_zero]
/-- Clauses of one's own, whose terms lie in what was handed in. -/
structure OutP (w : World) (base : Nat) (A : Option Addr) (c n : Nat) (Z : List ZC) : Prop where
  own : OwC w base A c n Z
  heads : ∀ z ∈ Z, RdT w base z.2.1.1 z.2.1.2.1 z.1.1.2
  lens : ∀ z ∈ Z, z.2.2.2.length = z.2.2.1.2.1 ∧ z.1.2.length = z.2.2.1.2.1
  tops : ∀ z ∈ Z, Rd w w.heap.size 3 z.2.2.1.1 z.2.2.1.2.1 ((z.1.2.zip z.2.2.2).flatMap liC)
  rows : ∀ z ∈ Z, ∀ (i : Nat) (r : SlA) (x : Li), z.2.2.2[i]? = some r → z.1.2[i]? = some x → RdT w base r.1 r.2.1 x.2.2
  apart : ∀ z ∈ Z, InS (fun b => b < w.heap.size ∧ ¬ A.map (·.block) = some b) z.2.2.1.1
section
variable {w w' : World} {base c n : Nat} {A : Option Addr} {Z : List ZC}
theorem OutP.nil (w : World) (base : Nat) : OutP w base none 0 0 [] := ⟨World.ownsRow_nil _ _ _ _, (fun z h => by cases h), (fun z h => by cases h), (fun z h => by cases h), (fun z h => by cases h), (fun z h => by cases h)⟩
theorem OutP.later (h : OutP w base A c n Z) (hb : Below w.heap.size w w') (hbase : base ≤ w.heap.size) : OutP w' base A c n Z :=
  ⟨h.own.later hb, fun z hz => (h.heads z hz).below (hb.mono hbase), h.lens, fun z hz => Rd.more (Rd.below (h.tops z hz) hb) hb.size, fun z hz i r x h1 h2 => (h.rows z hz i r x h1 h2).below (hb.mono hbase), fun z hz => (h.apart z hz).mono fun k hk => ⟨Nat.lt_of_lt_of_le hk.1 hb.size, hk.2⟩⟩
theorem OutP.app (h : OutP w base A c n Z) (hbase : base ≤ w.heap.size) {A' : Option Addr} {c' : Nat} {z : ZC}
    (z1 : RdT w base z.2.1.1 z.2.1.2.1 z.1.1.2) (z2 : z.2.2.2.length = z.2.2.1.2.1 ∧ z.1.2.length = z.2.2.1.2.1) (z3 : Rd w w.heap.size 3 z.2.2.1.1 z.2.2.1.2.1 ((z.1.2.zip z.2.2.2).flatMap liC))
    (z4 : ∀ (i : Nat) (r : SlA) (x : Li), z.2.2.2[i]? = some r → z.1.2[i]? = some x → RdT w base r.1 r.2.1 x.2.2) (z5 : InS (fun b => b < w.heap.size ∧ ¬ A.map (·.block) = some b) z.2.2.1.1)
    (ho : OwC w' base A' c' (n + 1) (Z ++ [z])) (T : Turn (fun k => A.map (·.block) = some k) w w') (hA : A'.map (·.block) = A.map (·.block) ∨ A'.map (·.block) = some w.heap.size) : OutP w' base A' c' (n + 1) (Z ++ [z]) := by
  have hall : ∀ {P : ZC → Prop}, (∀ x ∈ Z, P x) → P z → ∀ x ∈ Z ++ [z], P x := fun {P} h1 h2 x hx => by
    rcases List.mem_append.1 hx with hx | hx
    · exact h1 x hx
    · rw [List.mem_singleton] at hx
      subst hx
      exact h2
  have hng : ∀ k, k < base → ¬ A.map (·.block) = some k := fun k hk e => by have := (h.own.low e).1; omega
  refine ⟨ho, fun x hx => ?_, hall h.lens z2, fun x hx => ?_, fun x hx => ?_, fun x hx k hk => ?_⟩
  · exact T.rd (hall (P := fun x => RdT w base x.2.1.1 x.2.1.2.1 x.1.1.2) h.heads z1 x hx) hbase hng
  · have h1 := hall (P := fun x => Rd w w.heap.size 3 x.2.2.1.1 x.2.2.1.2.1 ((x.1.2.zip x.2.2.2).flatMap liC)) h.tops z3 x hx
    have h2 := hall (P := fun x => InS (fun b => b < w.heap.size ∧ ¬ A.map (·.block) = some b) x.2.2.1.1) h.apart z5 x hx
    exact Rd.more (h1.turn T (Nat.le_refl _) (fun k hk => (h2 k hk).2)) T.size
  · intro i r y h1 h2
    exact T.rd (hall (P := fun x => ∀ (i : Nat) (r : SlA) (y : Li), x.2.2.2[i]? = some r → x.1.2[i]? = some y → RdT w base r.1 r.2.1 y.2.2) h.rows z4 x hx i r y h1 h2) hbase hng
  · have h2 := hall (P := fun x => InS (fun b => b < w.heap.size ∧ ¬ A.map (·.block) = some b) x.2.2.1.1) h.apart z5 x hx k hk
    refine ⟨Nat.lt_of_lt_of_le h2.1 T.size, fun e => ?_⟩
    rcases hA with hA | hA
    · exact h2.2 (hA ▸ e)
    · rw [hA] at e
      cases e
      exact Nat.lt_irrefl _ h2.1
theorem OutP.rd (h : OutP w base A c n Z) (hbase : base ≤ w.heap.size) : RdCs w w.heap.size A n (Z.map (·.2)) (Z.map (·.1)) :=
  rdCs_of h.own.rd fun z hz => ⟨Rd.more (h.heads z hz) hbase, (h.lens z hz).1, (h.lens z hz).2, h.tops z hz, fun i r x h1 h2 => Rd.more (h.rows z hz i r x h1 h2) hbase⟩
end
/-- Literals of one's own, whose terms lie in what was handed in. -/
structure OutQ (w : World) (base B : Nat) (A : Option Addr) (c n : Nat) (X : List LX) : Prop where
  own : OwL w base A c n X
  rows : ∀ x ∈ X, RdT w B x.2.1 x.2.2.1 x.1.2.2
theorem OutQ.later {w w' : World} {base B c n : Nat} {A : Option Addr} {X : List LX} (h : OutQ w base B A c n X) (hb : Below w.heap.size w w') (hB : B ≤ w.heap.size) : OutQ w' base B A c n X :=
  ⟨h.own.later hb, fun x hx => (h.rows x hx).below (hb.mono hB)⟩
theorem OutQ.turn {w w' : World} {base B c n : Nat} {A : Option Addr} {X : List LX} (h : OutQ w base B A c n X) {g : Nat} (T : Turn (fun k => k = g) w w') (hg : g < base) (hB : B ≤ g) (hs : g < w.heap.size) : OutQ w' base B A c n X :=
  ⟨T.own h.own (fun k hk e => by have := (World.ownsRow.lt h.own k hk).1; omega), fun x hx => T.rd (h.rows x hx) (by omega) (fun k hk e => by omega)⟩
theorem anyd_appQ {ops : Array Oper} {E : Prop} {o : Oper} {a : Act} {K : Act → World → Prop} {Q : Exit → Act → World → Prop} {w : World} (hwant : Region.wanted o (yielded ops a.tmps) = true) (p x : Operand)
    (ho : o.op = .call { callee := .builtin .append, args := #[p, x], argTypes := #[29, 29] })
    (base B0 : Nat) (A0 : Option Addr) (c0 n : Nat) (X : List LX) (hv : a.eval p = .slice A0 n c0) (hown : OutQ w base B0 A0 c0 n X) (hB0 : B0 ≤ base)
    (B : Nat) (A : Option Addr) (c : Nat) (z : LX) (hx : a.eval x = .slice A 1 c) (hr : Rd w B 3 A 1 ([z].flatMap liC)) (hb : n ≤ 1000000) (hbase : base ≤ w.heap.size)
    (hz : RdT w B0 z.2.1 z.2.2.1 z.1.2.2)
    (h : ∀ A' c' w', OutQ w' base B0 A' c' (n + 1) (X ++ [z]) → Turn (fun k => A0.map (·.block) = some k) w w' → K (a.put o.dst (.slice A' (n + 1) c')) w') :
    if Region.wanted o (yielded ops a.tmps) = true then Oper.wp Try.prog o a w K Q else E := by
  rw [if_pos hwant]
  obtain ⟨i0, hi, hz0, hz1, hz2⟩ := info_parts litInfo
  refine wp_app w p x 29 ho base 33 i0 _ 3 40 Try.underlying29 hi hz0 hz1 hz2 rfl (by decide) _ n _ hv hown.own B A 1 c _ hx hr (liC_one [z]) (by simp only [maxLen]; omega) (by omega) hbase ?_
  intro A' c' w' h4 h2 h3
  have T : Turn (fun k => A0.map (·.block) = some k) w w' := Turn.ofGrown h2 fun k hk => by rw [ownBlk_slice] at hk; exact hk
  have hng : ∀ k, k < B0 → ¬ A0.map (·.block) = some k := fun k hk e => by have := (hown.own.low k e).1; omega
  refine h A' c' w' ⟨by unfold OwL; rw [List.flatMap_append]; exact h4, fun y hy => ?_⟩ T
  rcases List.mem_append.1 hy with hy | hy
  · exact T.rd (hown.rows y hy) (by omega) hng
  · rw [List.mem_singleton] at hy
    subst hy
    exact T.rd hz (by omega) hng
end Go.Proofs.Ytfmghkplafploaa

