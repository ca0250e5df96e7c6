/- Texts, packed: StF StG StH -/
import Derived.Test.YtfmghkplafploaaPwD
set_option linter.unusedVariables false
set_option linter.unusedSimpArgs false
namespace Go.Proofs.Ytfmghkplafploaa
open Go Go.RowKit

/-! ### Mathematics -/
def topM : List Nat → Nat := fun l => l.foldl (fun a v => max a (v + 1)) 0
theorem topM_snoc (l : List Nat) (v : Nat) : topM (l ++ [v]) = max (topM l) (v + 1) := by unfold topM; rw [List.foldl_append]; rfl
def rowM (l : List Nat) (k : Nat) : List Nat := (List.range l.length).filter fun i => l[i]? == some k
theorem rowM_snoc (l : List Nat) (v k : Nat) : rowM (l ++ [v]) k = rowM l k ++ if v = k then [l.length] else [] := by
  unfold rowM
  rw [List.length_append, List.length_singleton, List.range_succ, List.filter_append]
  congr 1
  · refine List.filter_congr fun i hi => ?_
    rw [List.mem_range] at hi
    rw [List.getElem?_append_left hi]
  · rw [List.filter_cons]
    simp only [List.getElem?_append_right (Nat.le_refl _), Nat.sub_self, List.getElem?_cons_zero, List.filter_nil]
    by_cases h : v = k
    · subst h; simp
    · rw [if_neg h, if_neg (by simpa using h)]
theorem topM_lt : ∀ (l : List Nat) {v : Nat}, v ∈ l → v < topM l := by
  intro l
  suffices h : ∀ (l : List Nat) (a : Nat), a ≤ l.foldl (fun a v => max a (v + 1)) a ∧ ∀ v ∈ l, v < l.foldl (fun a v => max a (v + 1)) a from fun {v} hv => (h l 0).2 v hv
  intro l
  induction l with
  | nil => intro a; exact ⟨Nat.le_refl _, fun v hv => by cases hv⟩
  | cons x l ih =>
    intro a
    obtain ⟨h1, h2⟩ := ih (max a (x + 1))
    rw [List.foldl_cons]
    refine ⟨by omega, fun v hv => ?_⟩
    rcases List.mem_cons.1 hv with rfl | hv
    · omega
    · exact h2 v hv
theorem topM_le {l : List Nat} {m : Nat} (h : ∀ v ∈ l, v < m) : topM l ≤ m := by
  suffices hh : ∀ (l : List Nat) (a : Nat), a ≤ m → (∀ v ∈ l, v < m) → l.foldl (fun a v => max a (v + 1)) a ≤ m from hh l 0 (Nat.zero_le _) h
  intro l
  induction l with
  | nil => intro a ha _; exact ha
  | cons x l ih =>
    intro a ha hl
    rw [List.foldl_cons]
    have := hl x (by simp)
    exact ih _ (by omega) fun v hv => hl v (by simp [hv])
theorem rowM_mem {l : List Nat} {k i : Nat} : i ∈ rowM l k ↔ l[i]? = some k := by
  unfold rowM
  rw [List.mem_filter, List.mem_range, beq_iff_eq]
  constructor
  · exact fun h => h.2
  · exact fun h => ⟨(List.getElem?_eq_some_iff.1 h).1, h⟩
theorem rowM_len (l : List Nat) (k : Nat) : (rowM l k).length ≤ l.length := by
  unfold rowM
  have := List.length_filter_le (fun i => l[i]? == some k) (List.range l.length)
  rwa [List.length_range] at this
def strM (l : List Nat) : List (List Nat) := (List.range (topM l)).map (rowM l)
def headsM (f : UInt32 → Nat) (C : List Cl) : List Nat := C.map fun x => f x.1.1
/-- What Strata answers. -/
inductive StrTold (C : List Cl) : Nat → List (List Nat) → Prop
  | bad {e : Nat} : LevTold C e [] → e ≠ 0 → StrTold C e []
  | good {f : UInt32 → Nat} : (rightM C).2 = 0 → Least (edL C) f → StrTold C 0 (strM (headsM f C))
theorem StrTold.unique {C : List Cl} {e e' : Nat} {S S' : List (List Nat)} (h : StrTold C e S) (k : StrTold C e' S') : e = e' ∧ S = S' := by
  have hbg : ∀ {e : Nat} {f : UInt32 → Nat}, LevTold C e [] → e ≠ 0 → (rightM C).2 = 0 → Least (edL C) f → False := fun h1 h2 h3 h4 => by
    cases h1 with
    | wrong q => exact q h3
    | none _ q => exact q ⟨_, h4.valid⟩
    | some _ _ _ _ _ => exact h2 rfl
  cases h with
  | bad h1 h2 =>
    cases k with
    | bad k1 k2 => exact ⟨(h1.unique k1).1, rfl⟩
    | good k1 k2 => exact (hbg h1 h2 k1 k2).elim
  | good h1 h2 =>
    cases k with
    | bad k1 k2 => exact (hbg k1 k2 h1 h2).elim
    | good k1 k2 => rw [h2.unique k2]; exact ⟨rfl, rfl⟩

/-! ### Rows of numbers -/
abbrev nj (k : Nat) : Value := .int .i64 (k : Int)
theorem nj_one (l : List Nat) : ∀ u ∈ l.map nj, u.oneCell' = true := by
  intro u hu
  obtain ⟨_, _, rfl⟩ := List.mem_map.1 hu
  rfl
abbrev RdN (w : World) (B : Nat) (A : Option Addr) (n : Nat) (l : List Nat) : Prop := Rd w B 1 A n (l.map nj)
def OwN (w : World) (base : Nat) (s : SlA) (l : List Nat) : Prop := w.ownsRow base 3 1 (.slice s.1 s.2.1 s.2.2) s.2.1 (l.map nj)
theorem intInfoT : (Try.prog.info? 3).map (fun i => (i.zero, i.size, i.bytes)) = some (some (.int .i64 0), 1, 8) := by kernel_rfl
theorem intsInfo : (Try.prog.info? 43).map (fun i => (i.zero, i.size, i.bytes)) = some (some (.slice none 0 0), 1, 24) := by kernel_rfl
section
variable {w w' : World} {base : Nat} {s : SlA} {l : List Nat}
theorem OwN.rd (h : OwN w base s l) : RdN w w.heap.size s.1 s.2.1 l := Rd.ofOwn h
theorem OwN.len (h : OwN w base s l) : l.length = s.2.1 := by have := h.rd.1; simpa using this
theorem OwN.later (h : OwN w base s l) (hb : Below w.heap.size w w') : OwN w' base s l := ownBelow h hb (Nat.le_refl _)
theorem OwN.low (h : OwN w base s l) {k : Nat} (hk : s.1.map (·.block) = some k) : base ≤ k ∧ k < w.heap.size := World.ownsRow.lt h k (by rw [ownBlk_slice]; exact hk)
theorem OwN.nil (w : World) (base : Nat) : OwN w base (none, 0, 0) [] := World.ownsRow_nil _ _ _ _
end
theorem litN_rd (w : World) (k : Nat) : RdN (w.alloc (.cells #[nj k] 3)) (w.heap.size + 1) (some ⟨w.heap.size, 0, none⟩) 1 [k] :=
  ⟨rfl, fun _ => ⟨_, _, rfl, by omega, fun j u hu => by
    rw [Nat.zero_add, cell_of_row _ _ j #[nj k] 3 (0, 0) (heap_alloc_new w _)]
    simpa using hu⟩⟩
theorem appN {ops : Array Oper} {rest : List Oper} {o : Oper} {a : Act} {Q : Exit → Act → World → Prop} (w : World) (hgd : o.guard = none) (p x : Operand)
    (ho : o.op = .call { callee := .builtin .append, args := #[p, x], argTypes := #[43, 43] })
    (base : Nat) (s : SlA) (l : List Nat) (hv : a.eval p = .slice s.1 s.2.1 s.2.2) (hown : OwN w base s l)
    (B : Nat) (A : Option Addr) (m c : Nat) (l2 : List Nat) (hx : a.eval x = .slice A m c) (hr : RdN w B A m l2) (hb : s.2.1 + m ≤ 1000000000000) (hbase : base ≤ w.heap.size)
    (h : ∀ A' c' w', OwN w' base (A', s.2.1 + m, c') (l ++ l2) → Turn (fun k => s.1.map (·.block) = some k) w w' → (A'.map (·.block) = s.1.map (·.block) ∨ A'.map (·.block) = some w.heap.size) → wpList Try.prog ops Q rest (a.put o.dst (.slice A' (s.2.1 + m) c')) w') : wpList Try.prog ops Q (o :: rest) a w := by
  obtain ⟨i0, hi, hz0, hz1, hz2⟩ := info_parts intInfoT
  refine wpList_app w hgd p x 43 ho base 3 i0 _ 1 8 Try.underlying43 hi hz0 hz1 hz2 rfl (by decide) _ s.2.1 _ hv hown B A m c _ hx hr (nj_one l2) (by simp only [maxLen]; omega) (by omega) hbase ?_
  intro A' c' w' h4 h2 h3
  rw [ownBlk_slice, ownBlk_slice] at h3
  exact h A' c' w' (by unfold OwN; rw [List.map_append]; exact h4) (Turn.ofGrown h2 fun k hk => by rw [ownBlk_slice] at hk; exact hk) h3
/-! ### Rows of rows -/
def rowsC (R : Nat → SlA) (T : Nat) : List Value := (List.range T).map fun k => (R k).val
theorem rowsC_at {R : Nat → SlA} {T k : Nat} (h : k < T) : (rowsC R T)[k]? = some (R k).val := by
  unfold rowsC
  rw [List.getElem?_map, List.getElem?_range h]
  rfl
def updS (R : Nat → SlA) (k : Nat) (s : SlA) : Nat → SlA := fun j => if j = k then s else R j
theorem rowsC_set {R : Nat → SlA} {T k : Nat} (s : SlA) : (rowsC R T).set k s.val = rowsC (updS R k s) T := by
  have hl : ∀ R : Nat → SlA, (rowsC R T).length = T := fun R => by unfold rowsC; simp
  refine List.ext_getElem? fun i => ?_
  rw [List.getElem?_set]
  rcases Nat.lt_or_ge i T with hi | hi
  · rw [rowsC_at hi, rowsC_at hi, hl]
    unfold updS
    by_cases h : k = i
    · subst h
      rw [if_pos rfl, if_pos hi, if_pos rfl]
    · rw [if_neg h, if_neg (fun e => h e.symm)]
  · rw [List.getElem?_eq_none (l := rowsC R T) (by rw [hl]; exact hi), List.getElem?_eq_none (l := rowsC (updS R k s) T) (by rw [hl]; exact hi), hl]
    by_cases h : k = i
    · rw [if_pos h, if_neg (by omega)]
    · rw [if_neg h]
theorem rowsC_zero (T : Nat) : rowsC (fun _ => (none, 0, 0)) T = List.replicate T (.slice none 0 0) := by
  unfold rowsC
  rw [List.map_const', List.length_range]
  try rfl
/-- Strata that are being filled. -/
structure SR (w : World) (g base T : Nat) (R : Nat → SlA) (l : List Nat) : Prop where
  blk : Bk w g 43 (rowsC R T)
  own : ∀ k, k < T → OwN w base (R k) (rowM l k)
  apart : ∀ k k', k < T → k' < T → k ≠ k' → ∀ x, (R k).1.map (·.block) = some x → ¬ (R k').1.map (·.block) = some x
section
variable {w w' : World} {g base T : Nat} {R : Nat → SlA} {l : List Nat}
theorem SR.later (h : SR w g base T R l) (hb : Below w.heap.size w w') : SR w' g base T R l := ⟨h.blk.later hb, fun k hk => (h.own k hk).later hb, h.apart⟩
theorem SR.step (h : SR w g base T R l) (hg : g < base) {v : Nat} (hv : v < T) {Z V : World} (hZ : Below w.heap.size w Z) {A' : Option Addr} {c' : Nat}
    (ho : OwN V base (A', (R v).2.1 + 1, c') (rowM l v ++ [l.length])) (hT : Turn (fun k => (R v).1.map (·.block) = some k) Z V) (hA : A'.map (·.block) = (R v).1.map (·.block) ∨ A'.map (·.block) = some Z.heap.size) :
    SR (V.setCell ⟨g, v, none⟩ (.slice A' ((R v).2.1 + 1) c')) g base T (updS R v (A', (R v).2.1 + 1, c')) (l ++ [v]) := by
  have hng : ¬ (R v).1.map (·.block) = some g := fun e => by have := ((h.own v hv).low e).1; omega
  have hbV : Bk V g 43 (rowsC R T) := hT.bk (h.blk.later hZ) hng
  have hTg : Turn (fun k => k = g) V (V.setCell ⟨g, v, none⟩ (.slice A' ((R v).2.1 + 1) c')) := (Turn.refl (fun k => k = g) V).setCell (p := ⟨g, v, none⟩) (fun _ => rfl) _
  refine ⟨?_, fun k hk => ?_, fun k k' hk hk' hne x hx => ?_⟩
  · have := hbV.set_ v (.slice A' ((R v).2.1 + 1) c')
    rw [show (Value.slice A' ((R v).2.1 + 1) c') = SlA.val (A', (R v).2.1 + 1, c') from rfl, rowsC_set] at this
    exact this
  · rw [rowM_snoc]
    by_cases e : v = k
    · subst e
      rw [if_pos rfl, show updS R v (A', (R v).2.1 + 1, c') v = (A', (R v).2.1 + 1, c') from if_pos rfl]
      exact hTg.own ho (fun x hx e => by have := (World.ownsRow.lt ho x hx).1; omega)
    · rw [if_neg e, List.append_nil, show updS R v (A', (R v).2.1 + 1, c') k = R k from if_neg (fun q => e q.symm)]
      have h1 : OwN V base (R k) (rowM l k) := hT.own ((h.own k hk).later hZ) (fun x hx q => h.apart k v hk hv (fun q => e q.symm) x (by rw [ownBlk_slice] at hx; exact hx) q)
      exact hTg.own h1 (fun x hx e => by have := (World.ownsRow.lt h1 x hx).1; omega)
  · unfold updS at hx ⊢
    have hfresh : ∀ j, j < T → ¬ (R j).1.map (·.block) = some Z.heap.size := fun j hj e => by
      have := ((h.own j hj).low e).2
      have := hZ.size
      omega
    by_cases e : k = v
    · rw [if_pos e] at hx
      have e' : ¬ k' = v := fun q => hne (by rw [e, q])
      rw [if_neg e']
      rcases hA with hA | hA
      · exact h.apart v k' hv hk' (fun q => e' q.symm) x (hA ▸ hx)
      · rw [hA] at hx
        cases hx
        exact hfresh k' hk'
    · rw [if_neg e] at hx
      by_cases e' : k' = v
      · rw [if_pos e']
        intro q
        rcases hA with hA | hA
        · exact h.apart k v hk hv e x hx (hA ▸ q)
        · rw [hA] at q
          cases q
          exact hfresh k hk hx
      · rw [if_neg e']
        exact h.apart k k' hk hk' hne x hx
end
/-- A list of lists of numbers that is read. -/
structure RdS (w : World) (B : Nat) (A : Option Addr) (n : Nat) (R : List SlA) (S : List (List Nat)) : Prop where
  lenR : R.length = n
  lenS : S.length = n
  top : Rd w B 1 A n (R.map SlA.val)
  row : ∀ (i : Nat) (r : SlA) (s : List Nat), R[i]? = some r → S[i]? = some s → RdN w B r.1 r.2.1 s
section
variable {w w' : World} {B n : Nat} {A : Option Addr} {R : List SlA} {S : List (List Nat)}
theorem RdS.below (h : RdS w B A n R S) (hb : Below B w w') : RdS w' B A n R S := ⟨h.lenR, h.lenS, h.top.below hb, fun i r s h1 h2 => (h.row i r s h1 h2).below hb⟩
theorem RdS.more {B' : Nat} (h : RdS w B A n R S) (hB : B ≤ B') : RdS w B' A n R S := ⟨h.lenR, h.lenS, h.top.more hB, fun i r s h1 h2 => (h.row i r s h1 h2).more hB⟩
theorem RdS.nil (w : World) (B : Nat) : RdS w B none 0 [] [] := ⟨rfl, rfl, Rd.nil, fun i r s h => by simp at h⟩
theorem RdS.at_ (h : RdS w B A n R S) {i : Nat} (hi : i < n) : ∃ b o Ai k c s, A = some ⟨b, o, none⟩ ∧ b < B ∧ S[i]? = some s ∧ s.length = k ∧ w.cell? ⟨b, o + i, none⟩ = some (.slice Ai k c) ∧ RdN w B Ai k s := by
  have h1 : R[i]? = some (R[i]'(by rw [h.lenR]; exact hi)) := List.getElem?_eq_getElem _
  have h2 : S[i]? = some (S[i]'(by rw [h.lenS]; exact hi)) := List.getElem?_eq_getElem _
  generalize R[i]'(by rw [h.lenR]; exact hi) = r at h1
  generalize S[i]'(by rw [h.lenS]; exact hi) = s at h2
  obtain ⟨Ai, k, c⟩ := r
  have hr := h.row i _ _ h1 h2
  obtain ⟨b, o, e, hb, hc⟩ := h.top.2 (by omega)
  exact ⟨b, o, Ai, k, c, s, e, hb, h2, by have := hr.1; simpa using this, hc i _ (by rw [List.getElem?_map, h1]; rfl), hr⟩
theorem SR.rd {g base T : Nat} {Rf : Nat → SlA} {l : List Nat} (h : SR w g base T Rf l) : RdS w w.heap.size (some ⟨g, 0, none⟩) T ((List.range T).map Rf) ((List.range T).map (rowM l)) := by
  refine ⟨by simp, by simp, ?_, fun i r s h1 h2 => ?_⟩
  · refine ⟨by simp, fun _ => ⟨g, 0, rfl, h.blk.lt, fun j u hu => ?_⟩⟩
    rw [Nat.zero_add, h.blk.cell]
    rw [List.map_map] at hu
    exact hu
  · rw [List.getElem?_map] at h1 h2
    obtain ⟨k, hk, rfl⟩ := Option.map_eq_some_iff.1 h1
    rw [hk] at h2
    simp only [Option.map_some, Option.some.injEq] at h2
    subst h2
    have hkT : k < T := List.mem_range.1 (List.mem_of_getElem? hk)
    exact (h.own k hkT).rd
end
end Go.Proofs.Ytfmghkplafploaa

set_option linter.unusedVariables false
set_option linter.unusedSimpArgs false
namespace Go.Proofs.Ytfmghkplafploaa
open Go Go.RowKit

theorem heads_step {C : List Cl} {i : Nat} {x : Cl} (f : UInt32 → Nat) (h : C[i]? = some x) : headsM f (C.take (i + 1)) = headsM f (C.take i) ++ [f x.1.1] := by
  unfold headsM
  rw [List.take_add_one, h, List.map_append]
  rfl
end Go.Proofs.Ytfmghkplafploaa

set_option linter.unusedVariables false
set_option linter.unusedSimpArgs false
namespace Go.Proofs.Ytfmghkplafploaa
open Go Go.RowKit

/-- A way from heads to bodies. -/
inductive Way (E : List Ed) (a : UInt32) : UInt32 → Prop
  | refl : Way E a a
  | step {b : UInt32} {e : Ed} : Way E a b → e ∈ E → e.1 = b → Way E a e.2.1
theorem Way.trans {E : List Ed} {a b c : UInt32} (h : Way E a b) (k : Way E b c) : Way E a c := by
  induction k with
  | refl => exact h
  | step _ he hb ih => exact ih.step he hb
theorem Way.closed {E : List Ed} {a b : UInt32} {S : List UInt32} (h : Way E a b) (ha : a ∈ S) (hc : ∀ e ∈ E, e.1 ∈ S → e.2.1 ∈ S) : b ∈ S := by
  induction h with
  | refl => exact ha
  | step _ he hb ih => exact hc _ he (hb ▸ ih)
theorem Way.le {E : List Ed} {f : UInt32 → Nat} (hf : Valid E f) {a b : UInt32} (h : Way E a b) : f b ≤ f a := by
  induction h with
  | refl => exact Nat.le_refl _
  | step _ he hb ih => have := hf _ he; subst hb; omega
theorem nodup_len : ∀ {S T : List UInt32}, S.Nodup → (∀ x ∈ S, x ∈ T) → S.length ≤ T.length
  | [], T, _, _ => Nat.zero_le _
  | x :: S, T, hn, h => by
    rw [List.nodup_cons] at hn
    have h1 : S.length ≤ (T.erase x).length := nodup_len hn.2 fun y hy => (List.mem_erase_of_ne (fun e => by subst e; exact hn.1 hy)).2 (h y (by simp [hy]))
    have h2 := List.length_erase_of_mem (h x (by simp))
    have h3 := List.length_pos_of_mem (h x (by simp))
    rw [List.length_cons]
    omega

/-! ### Rows of numbers of one's own -/
abbrev OwH (w : World) (base : Nat) (A : Option Addr) (c n : Nat) (l : List UInt32) : Prop := w.ownsRow base 25 1 (.slice A n c) n (l.map nv)
theorem OwH.rd {w : World} {base : Nat} {A : Option Addr} {c n : Nat} {l : List UInt32} (h : OwH w base A c n l) : RdU w w.heap.size A n l := Rd.ofOwn h
theorem OwH.low {w : World} {base : Nat} {A : Option Addr} {c n : Nat} {l : List UInt32} (h : OwH w base A c n l) {k : Nat} (hk : A.map (·.block) = some k) : base ≤ k ∧ k < w.heap.size := World.ownsRow.lt h k (by rw [ownBlk_slice]; exact hk)
end Go.Proofs.Ytfmghkplafploaa

