/- Texts, packed: StF StG StH -/
import Derived.Test.YtfmghkplafploaaGreatPzE
set_option linter.unusedVariables false
set_option linter.unusedSimpArgs false
namespace Go.Proofs.YtfmghkplafploaaGreat
open Go Go.RowKit

/-! ### Mathematics -/
def topM : List Nat → Nat := fun l => l.foldl (fun a v => max a (v + 1)) 0
theorem topM_snoc (l : List Nat) (v : Nat) : topM (l ++ [v]) = max (topM l) (v + 1) := by unfold topM; rw [List.foldl_append]; rfl
def rowM (l : List Nat) (k : Nat) : List Nat := (List.range l.length).filter fun i => l[i]? == some k
theorem rowM_snoc (l : List Nat) (v k : Nat) : rowM (l ++ [v]) k = rowM l k ++ if v = k then [l.length] else [] := by
  unfold rowM
  rw [List.length_append, List.length_singleton, List.range_succ, List.filter_append]
  congr 1
  · refine List.filter_congr fun i hi => ?_
    rw [List.mem_range] at hi
    rw [List.getElem?_append_left hi]
  · rw [List.filter_cons]
    simp only [List.getElem?_append_right (Nat.le_refl _), Nat.sub_self, List.getElem?_cons_zero, List.filter_nil]
    by_cases h : v = k
    · subst h; simp
    · rw [if_neg h, if_neg (by simpa using h)]
theorem topM_lt : ∀ (l : List Nat) {v : Nat}, v ∈ l → v < topM l := by
  intro l
  suffices h : ∀ (l : List Nat) (a : Nat), a ≤ l.foldl (fun a v => max a (v + 1)) a ∧ ∀ v ∈ l, v < l.foldl (fun a v => max a (v + 1)) a from fun {v} hv => (h l 0).2 v hv
  intro l
  induction l with
  | nil => intro a; exact ⟨Nat.le_refl _, fun v hv => by cases hv⟩
  | cons x l ih =>
    intro a
    obtain ⟨h1, h2⟩ := ih (max a (x + 1))
    rw [List.foldl_cons]
    refine ⟨by omega, fun v hv => ?_⟩
    rcases List.mem_cons.1 hv with rfl | hv
    · omega
    · exact h2 v hv
theorem topM_le {l : List Nat} {m : Nat} (h : ∀ v ∈ l, v < m) : topM l ≤ m := by
  suffices hh : ∀ (l : List Nat) (a : Nat), a ≤ m → (∀ v ∈ l, v < m) → l.foldl (fun a v => max a (v + 1)) a ≤ m from hh l 0 (Nat.zero_le _) h
  intro l
  induction l with
  | nil => intro a ha _; exact ha
  | cons x l ih =>
    intro a ha hl
    rw [List.foldl_cons]
    have := hl x (by simp)
    exact ih _ (by omega) fun v hv => hl v (by simp [hv])
theorem rowM_mem {l : List Nat} {k i : Nat} : i ∈ rowM l k ↔ l[i]? = some k := by
  unfold rowM
  rw [List.mem_filter, List.mem_range, beq_iff_eq]
  constructor
  · exact fun h => h.2
  · exact fun h => ⟨(List.getElem?_eq_some_iff.1 h).1, h⟩
theorem rowM_len (l : List Nat) (k : Nat) : (rowM l k).length ≤ l.length := by
  unfold rowM
  have := List.length_filter_le (fun i => l[i]? == some k) (List.range l.length)
  rwa [List.length_range] at this
def strM (l : List Nat) : List (List Nat) := (List.range (topM l)).map (rowM l)
def headsM (f : UInt32 → Nat) (C : List Cl) : List Nat := C.map fun x => f x.1.1
/-- What Strata answers. -/
inductive StrTold (C : List Cl) : Nat → List (List Nat) → Prop
  | bad {e : Nat} : LevTold C e [] → e ≠ 0 → StrTold C e []
  | good {f : UInt32 → Nat} : (rightM C).2 = 0 → Least (edL C) f → StrTold C 0 (strM (headsM f C))
theorem StrTold.unique {C : List Cl} {e e' : Nat} {S S' : List (List Nat)} (h : StrTold C e S) (k : StrTold C e' S') : e = e' ∧ S = S' := by
  have hbg : ∀ {e : Nat} {f : UInt32 → Nat}, LevTold C e [] → e ≠ 0 → (rightM C).2 = 0 → Least (edL C) f → False := fun h1 h2 h3 h4 => by
    cases h1 with
    | wrong q => exact q h3
    | none _ q => exact q ⟨_, h4.valid⟩
    | some _ _ _ _ _ => exact h2 rfl
  cases h with
  | bad h1 h2 =>
    cases k with
    | bad k1 k2 => exact ⟨(h1.unique k1).1, rfl⟩
    | good k1 k2 => exact (hbg h1 h2 k1 k2).elim
  | good h1 h2 =>
    cases k with
    | bad k1 k2 => exact (hbg k1 k2 h1 h2).elim
    | good k1 k2 => rw [h2.unique k2]; exact ⟨rfl, rfl⟩

/-! ### Rows of numbers -/
abbrev nj (k : Nat) : Value := .int .i64 (k : Int)
theorem nj_one (l : List Nat) : ∀ u ∈ l.map nj, u.oneCell' = true := by
  intro u hu
  obtain ⟨_, _, rfl⟩ := List.mem_map.1 hu
  rfl
abbrev RdN (w : World) (B : Nat) (A : Option Addr) (n : Nat) (l : List Nat) : Prop := Rd w B 1 A n (l.map nj)
def OwN (w : World) (base : Nat) (s : SlA) (l : List Nat) : Prop := w.ownsRow base 3 1 (.slice s.1 s.2.1 s.2.2) s.2.1 (l.map nj)
theorem intInfoT : (Tryz.prog.info? 3).map (fun i => (i.zero, i.size, i.bytes)) = some (some (.int .i64 0), 1, 8) := by kernel_rfl
theorem intsInfo : (Tryz.prog.info? 35).map (fun i => (i.zero, i.size, i.bytes)) = some (some (.slice none 0 0), 1, 24) := by kernel_rfl
section
variable {w w' : World} {base : Nat} {s : SlA} {l : List Nat}
theorem OwN.rd (h : OwN w base s l) : RdN w w.heap.size s.1 s.2.1 l := Rd.ofOwn h
theorem OwN.len (h : OwN w base s l) : l.length = s.2.1 := by have := h.rd.1; simpa using this
theorem OwN.later (h : OwN w base s l) (hb : Below w.heap.size w w') : OwN w' base s l := ownBelow h hb (Nat.le_refl _)
theorem OwN.low (h : OwN w base s l) {k : Nat} (hk : s.1.map (·.block) = some k) : base ≤ k ∧ k < w.heap.size := World.ownsRow.lt h k (by rw [ownBlk_slice]; exact hk)
theorem OwN.nil (w : World) (base : Nat) : OwN w base (none, 0, 0) [] := World.ownsRow_nil _ _ _ _
end
theorem litN_rd (w : World) (k : Nat) : RdN (w.alloc (.cells #[nj k] 3)) (w.heap.size + 1) (some ⟨w.heap.size, 0, none⟩) 1 [k] :=
  ⟨rfl, fun _ => ⟨_, _, rfl, by omega, fun j u hu => by
    rw [Nat.zero_add, cell_of_row _ _ j #[nj k] 3 (0, 0) (heap_alloc_new w _)]
    simpa using hu⟩⟩
theorem appN {ops : Array Oper} {rest : List Oper} {o : Oper} {a : Act} {Q : Exit → Act → World → Prop} (w : World) (hgd : o.guard = none) (p x : Operand)
    (ho : o.op = .call { callee := .builtin .append, args := #[p, x], argTypes := #[35, 35] })
    (base : Nat) (s : SlA) (l : List Nat) (hv : a.eval p = .slice s.1 s.2.1 s.2.2) (hown : OwN w base s l)
    (B : Nat) (A : Option Addr) (m c : Nat) (l2 : List Nat) (hx : a.eval x = .slice A m c) (hr : RdN w B A m l2) (hb : s.2.1 + m ≤ 1000000000000) (hbase : base ≤ w.heap.size)
    (h : ∀ A' c' w', OwN w' base (A', s.2.1 + m, c') (l ++ l2) → Turn (fun k => s.1.map (·.block) = some k) w w' → (A'.map (·.block) = s.1.map (·.block) ∨ A'.map (·.block) = some w.heap.size) → wpList Tryz.prog ops Q rest (a.put o.dst (.slice A' (s.2.1 + m) c')) w') : wpList Tryz.prog ops Q (o :: rest) a w := by
  obtain ⟨i0, hi, hz0, hz1, hz2⟩ := info_parts intInfoT
  refine wpList_app w hgd p x 35 ho base 3 i0 _ 1 8 Tryz.underlying35 hi hz0 hz1 hz2 rfl (by decide) _ s.2.1 _ hv hown B A m c _ hx hr (nj_one l2) (by simp only [maxLen]; omega) (by omega) hbase ?_
  intro A' c' w' h4 h2 h3
  rw [ownBlk_slice, ownBlk_slice] at h3
  exact h A' c' w' (by unfold OwN; rw [List.map_append]; exact h4) (Turn.ofGrown h2 fun k hk => by rw [ownBlk_slice] at hk; exact hk) h3
/-! ### Rows of rows -/
def rowsC (R : Nat → SlA) (T : Nat) : List Value := (List.range T).map fun k => (R k).val
theorem rowsC_at {R : Nat → SlA} {T k : Nat} (h : k < T) : (rowsC R T)[k]? = some (R k).val := by
  unfold rowsC
  rw [List.getElem?_map, List.getElem?_range h]
  rfl
def updS (R : Nat → SlA) (k : Nat) (s : SlA) : Nat → SlA := fun j => if j = k then s else R j
theorem rowsC_set {R : Nat → SlA} {T k : Nat} (s : SlA) : (rowsC R T).set k s.val = rowsC (updS R k s) T := by
  have hl : ∀ R : Nat → SlA, (rowsC R T).length = T := fun R => by unfold rowsC; simp
  refine List.ext_getElem? fun i => ?_
  rw [List.getElem?_set]
  rcases Nat.lt_or_ge i T with hi | hi
  · rw [rowsC_at hi, rowsC_at hi, hl]
    unfold updS
    by_cases h : k = i
    · subst h
      rw [if_pos rfl, if_pos hi, if_pos rfl]
    · rw [if_neg h, if_neg (fun e => h e.symm)]
  · rw [List.getElem?_eq_none (l := rowsC R T) (by rw [hl]; exact hi), List.getElem?_eq_none (l := rowsC (updS R k s) T) (by rw [hl]; exact hi), hl]
    by_cases h : k = i
    · rw [if_pos h, if_neg (by omega)]
    · rw [if_neg h]
theorem rowsC_zero (T : Nat) : rowsC (fun _ => (none, 0, 0)) T = List.replicate T (.slice none 0 0) := by
  unfold rowsC
  rw [List.map_const', List.length_range]
  try rfl
/-- Strata that are being filled. -/
structure SR (w : World) (g base T : Nat) (R : Nat → SlA) (l : List Nat) : Prop where
  blk : Bk w g 35 (rowsC R T)
  own : ∀ k, k < T → OwN w base (R k) (rowM l k)
  apart : ∀ k k', k < T → k' < T → k ≠ k' → ∀ x, (R k).1.map (·.block) = some x → ¬ (R k').1.map (·.block) = some x
section
variable {w w' : World} {g base T : Nat} {R : Nat → SlA} {l : List Nat}
theorem SR.later (h : SR w g base T R l) (hb : Below w.heap.size w w') : SR w' g base T R l := ⟨h.blk.later hb, fun k hk => (h.own k hk).later hb, h.apart⟩
theorem SR.step (h : SR w g base T R l) (hg : g < base) {v : Nat} (hv : v < T) {Z V : World} (hZ : Below w.heap.size w Z) {A' : Option Addr} {c' : Nat}
    (ho : OwN V base (A', (R v).2.1 + 1, c') (rowM l v ++ [l.length])) (hT : Turn (fun k => (R v).1.map (·.block) = some k) Z V) (hA : A'.map (·.block) = (R v).1.map (·.block) ∨ A'.map (·.block) = some Z.heap.size) :
    SR (V.setCell ⟨g, v, none⟩ (.slice A' ((R v).2.1 + 1) c')) g base T (updS R v (A', (R v).2.1 + 1, c')) (l ++ [v]) := by
  have hng : ¬ (R v).1.map (·.block) = some g := fun e => by have := ((h.own v hv).low e).1; omega
  have hbV : Bk V g 35 (rowsC R T) := hT.bk (h.blk.later hZ) hng
  have hTg : Turn (fun k => k = g) V (V.setCell ⟨g, v, none⟩ (.slice A' ((R v).2.1 + 1) c')) := (Turn.refl (fun k => k = g) V).setCell (p := ⟨g, v, none⟩) (fun _ => rfl) _
  refine ⟨?_, fun k hk => ?_, fun k k' hk hk' hne x hx => ?_⟩
  · have := hbV.set_ v (.slice A' ((R v).2.1 + 1) c')
    rw [show (Value.slice A' ((R v).2.1 + 1) c') = SlA.val (A', (R v).2.1 + 1, c') from rfl, rowsC_set] at this
    exact this
  · rw [rowM_snoc]
    by_cases e : v = k
    · subst e
      rw [if_pos rfl, show updS R v (A', (R v).2.1 + 1, c') v = (A', (R v).2.1 + 1, c') from if_pos rfl]
      exact hTg.own ho (fun x hx e => by have := (World.ownsRow.lt ho x hx).1; omega)
    · rw [if_neg e, List.append_nil, show updS R v (A', (R v).2.1 + 1, c') k = R k from if_neg (fun q => e q.symm)]
      have h1 : OwN V base (R k) (rowM l k) := hT.own ((h.own k hk).later hZ) (fun x hx q => h.apart k v hk hv (fun q => e q.symm) x (by rw [ownBlk_slice] at hx; exact hx) q)
      exact hTg.own h1 (fun x hx e => by have := (World.ownsRow.lt h1 x hx).1; omega)
  · unfold updS at hx ⊢
    have hfresh : ∀ j, j < T → ¬ (R j).1.map (·.block) = some Z.heap.size := fun j hj e => by
      have := ((h.own j hj).low e).2
      have := hZ.size
      omega
    by_cases e : k = v
    · rw [if_pos e] at hx
      have e' : ¬ k' = v := fun q => hne (by rw [e, q])
      rw [if_neg e']
      rcases hA with hA | hA
      · exact h.apart v k' hv hk' (fun q => e' q.symm) x (hA ▸ hx)
      · rw [hA] at hx
        cases hx
        exact hfresh k' hk'
    · rw [if_neg e] at hx
      by_cases e' : k' = v
      · rw [if_pos e']
        intro q
        rcases hA with hA | hA
        · exact h.apart k v hk hv e x hx (hA ▸ q)
        · rw [hA] at q
          cases q
          exact hfresh k hk hx
      · rw [if_neg e']
        exact h.apart k k' hk hk' hne x hx
end
/-- A list of lists of numbers that is read. -/
structure RdS (w : World) (B : Nat) (A : Option Addr) (n : Nat) (R : List SlA) (S : List (List Nat)) : Prop where
  lenR : R.length = n
  lenS : S.length = n
  top : Rd w B 1 A n (R.map SlA.val)
  row : ∀ (i : Nat) (r : SlA) (s : List Nat), R[i]? = some r → S[i]? = some s → RdN w B r.1 r.2.1 s
section
variable {w w' : World} {B n : Nat} {A : Option Addr} {R : List SlA} {S : List (List Nat)}
theorem RdS.below (h : RdS w B A n R S) (hb : Below B w w') : RdS w' B A n R S := ⟨h.lenR, h.lenS, h.top.below hb, fun i r s h1 h2 => (h.row i r s h1 h2).below hb⟩
theorem RdS.more {B' : Nat} (h : RdS w B A n R S) (hB : B ≤ B') : RdS w B' A n R S := ⟨h.lenR, h.lenS, h.top.more hB, fun i r s h1 h2 => (h.row i r s h1 h2).more hB⟩
theorem RdS.nil (w : World) (B : Nat) : RdS w B none 0 [] [] := ⟨rfl, rfl, Rd.nil, fun i r s h => by simp at h⟩
theorem RdS.at_ (h : RdS w B A n R S) {i : Nat} (hi : i < n) : ∃ b o Ai k c s, A = some ⟨b, o, none⟩ ∧ b < B ∧ S[i]? = some s ∧ s.length = k ∧ w.cell? ⟨b, o + i, none⟩ = some (.slice Ai k c) ∧ RdN w B Ai k s := by
  have h1 : R[i]? = some (R[i]'(by rw [h.lenR]; exact hi)) := List.getElem?_eq_getElem _
  have h2 : S[i]? = some (S[i]'(by rw [h.lenS]; exact hi)) := List.getElem?_eq_getElem _
  generalize R[i]'(by rw [h.lenR]; exact hi) = r at h1
  generalize S[i]'(by rw [h.lenS]; exact hi) = s at h2
  obtain ⟨Ai, k, c⟩ := r
  have hr := h.row i _ _ h1 h2
  obtain ⟨b, o, e, hb, hc⟩ := h.top.2 (by omega)
  exact ⟨b, o, Ai, k, c, s, e, hb, h2, by have := hr.1; simpa using this, hc i _ (by rw [List.getElem?_map, h1]; rfl), hr⟩
theorem SR.rd {g base T : Nat} {Rf : Nat → SlA} {l : List Nat} (h : SR w g base T Rf l) : RdS w w.heap.size (some ⟨g, 0, none⟩) T ((List.range T).map Rf) ((List.range T).map (rowM l)) := by
  refine ⟨by simp, by simp, ?_, fun i r s h1 h2 => ?_⟩
  · refine ⟨by simp, fun _ => ⟨g, 0, rfl, h.blk.lt, fun j u hu => ?_⟩⟩
    rw [Nat.zero_add, h.blk.cell]
    rw [List.map_map] at hu
    exact hu
  · rw [List.getElem?_map] at h1 h2
    obtain ⟨k, hk, rfl⟩ := Option.map_eq_some_iff.1 h1
    rw [hk] at h2
    simp only [Option.map_some, Option.some.injEq] at h2
    subst h2
    have hkT : k < T := List.mem_range.1 (List.mem_of_getElem? hk)
    exact (h.own k hkT).rd
end
end Go.Proofs.YtfmghkplafploaaGreat

set_option linter.unusedVariables false
set_option linter.unusedSimpArgs false
namespace Go.Proofs.YtfmghkplafploaaGreat
open Go Go.RowKit

theorem heads_step {C : List Cl} {i : Nat} {x : Cl} (f : UInt32 → Nat) (h : C[i]? = some x) : headsM f (C.take (i + 1)) = headsM f (C.take i) ++ [f x.1.1] := by
  unfold headsM
  rw [List.take_add_one, h, List.map_append]
  rfl
set_option maxRecDepth 100000 in
set_option maxHeartbeats 8000000 in
theorem rStrata_any (A : Option Addr) (n c : Nat) (Q : List ClA) (C : List Cl) (w : World) (h : RdCs w w.heap.size A n Q C) (hnc : n ≤ c) (hS : Slim C) (hn : n ≤ 100000) :
    Calls Tryz.prog 11 #[.slice A n c] w fun e w' => ∃ (er : Nat) (A' : Option Addr) (c' : Nat) (S : List (List Nat)) (R : List SlA), e = .returned (.tuple #[.slice A' S.length c', .int .i64 (er : Int)]) ∧ StrTold C er S ∧ RdS w' w'.heap.size A' S.length R S ∧ S.length ≤ n * 1000001 ∧ (∀ s ∈ S, s.length ≤ n) ∧ Below w.heap.size w w' := by
  have hlev := rLevels_any A n c Q C w h hnc hS hn
  have HC := Lib.hid h
  clear h
  go_enter Tryz.func11, Tryz.ntmps11
  repeat (first | go_skip | go_guarded | go_step)
  refine hlev.mono ?_
  rintro e w1 ⟨er, Al, cl, L, rfl, htold, hol, hll, hb1⟩
  have HB1 := Lib.hid hb1
  clear hlev hb1
  dsimp only
  by_cases he : er = 0
  · subst he
    have hne : ((((0 : Nat)) : Int) != 0) = false := by simp
    have hcase : ∀ e, LevTold C e L → e = 0 → ∃ f, (rightM C).2 = 0 ∧ Least (edL C) f ∧ (L.map (·.1)).Pairwise (· < ·) ∧ (∀ p, p ∈ L.map (·.1) ↔ p ∈ prL C) ∧ ∀ x ∈ L, x.2 = f x.1 := fun e h he => by
      cases h with
      | wrong q => exact absurd he q
      | none _ _ => cases he
      | some a b c d e => exact ⟨_, a, b, c, d, e⟩
    obtain ⟨f, hz, hls, hsort, hmem, hval⟩ := hcase 0 htold rfl
    obtain ⟨m, hm⟩ : ∃ m, m = L.length := ⟨_, rfl⟩
    have hbd : n * 1000001 ≤ 100000 * 1000001 := Nat.mul_le_mul_right _ (by omega)
    have hmb : m ≤ 1000000000000 := by omega
    have hof : ∀ p ∈ prL C, ofM L p = (f p : Int) ∧ f p < m := fun p hp => by
      have h1 := (hmem p).2 hp
      have h2 := hval _ (lvN_mem h1)
      dsimp only at h2
      refine ⟨by rw [ofM_in h1, h2], ?_⟩
      have := hls.lt (P := L.map (·.1)) (fun e he => (hmem _).2 (edge_body he)) h1
      rwa [List.length_map, ← hm] at this
    rw [← hm] at hol ⊢
    have HOF := Lib.hid hof
    have HOL := Lib.hid hol
    have HZ := Lib.hid hz
    have HLS := Lib.hid hls
    have HML := Lib.hid (show m ≤ n * 1000001 by omega)
    clear htold hcase hll hsort hmem hval hm hof hol hz hls hbd
    repeat (first | go_skip | go_guarded | go_step)
    go_loopw [6, 7] (fun tv q wr => ∃ (i : Nat) (z : Int), i ≤ n ∧ tv = .int .i64 z ∧ q = .int .i64 (i : Int) ∧ z = (topM (headsM f (C.take i)) : Int) - 1 ∧ topM (headsM f (C.take i)) ≤ m ∧ Below w1.heap.size w1 wr) (fun _ q _ => n - (intOf q).toNat)
    case atStart => exact ⟨0, -1, by omega, rfl, rfl, by simp [headsM, topM], by simp [headsM, topM], Below.refl _ _⟩
    case round =>
      rename World => wr
      obtain ⟨i, z, hi, rfl, rfl, hz, htm, hbr⟩ := hrel
      have HZZ := Lib.hid hz
      have HTM := Lib.hid htm
      have HBR := Lib.hid hbr
      clear hz htm hbr
      by_cases hlt : i < n
      · have hci : (i : Int) < (n : Int) := by omega
        have HBW := Lib.hid (HB1.out.trans (HBR.out.mono HB1.out.size))
        obtain ⟨b, o, p, l, L', A0, n0, c0, A1, n1, c1, R, hA, hb, hx, hq, hd0, hd1, hd2, hrt, hrl⟩ := (HC.out.below HBW.out).at_ hlt
        obtain ⟨v, hv⟩ : ∃ v, v = f p := ⟨_, rfl⟩
        obtain ⟨ho1, ho2⟩ := HOF.out p (List.mem_flatMap.2 ⟨_, List.mem_of_getElem? hx, by unfold prC; simp⟩)
        have hcall := rOf_any Al m cl L p wr (Rd.more (Rd.below HOL.out.rd HBR.out) HBR.out.size) hmb
        rw [ho1, ← hv] at hcall
        rw [← hv] at ho2
        have HST := Lib.hid (show topM (headsM f (C.take (i + 1))) = max (topM (headsM f (C.take i))) (v + 1) by rw [heads_step f hx, topM_snoc, hv])
        subst hA
        clear hx hq hrt hrl hb hd1 hd2 ho1 hv
        by_cases hzv : z < (v : Int)
        · repeat (first | go_skip | go_guarded | go_step)
          refine hcall.mono ?_
          rintro e w3 ⟨rfl, rfl⟩
          clear hcall
          dsimp only
          repeat (first | go_skip | go_guarded | go_step)
          go_roundw
          case rel => exact ⟨i + 1, (v : Int), by omega, rfl, by go_num, by have h1 := HZZ.out; have h2 := HST.out; omega, by have h2 := HST.out; have := HTM.out; omega, HBR.out⟩
          case measure => simp [intOf]; omega
        · repeat (first | go_skip | go_guarded | go_step)
          refine hcall.mono ?_
          rintro e w3 ⟨rfl, rfl⟩
          clear hcall
          dsimp only
          repeat (first | go_skip | go_guarded | go_step)
          go_roundw
          case rel => exact ⟨i + 1, z, by omega, rfl, by go_num, by have h1 := HZZ.out; have h2 := HST.out; omega, by have h2 := HST.out; have := HTM.out; omega, HBR.out⟩
          case measure => simp [intOf]; omega
      · obtain rfl : n = i := by omega
        have hci : ¬ (n : Int) < (n : Int) := by omega
        obtain ⟨T, hT⟩ : ∃ T, T = topM (headsM f C) := ⟨_, rfl⟩
        have htake : C.take n = C := List.take_of_length_le (by rw [HC.out.lenC]; exact Nat.le_refl _)
        have hzT : IntKind.i64.wrap (z + 1) = (T : Int) := by
          have h1 := HZZ.out
          have h2 := HTM.out
          rw [htake, ← hT] at h1 h2
          rw [IntKind.wrap_i64]
          omega
        have hTm : T ≤ m := by
          have h2 := HTM.out
          rwa [htake, ← hT] at h2
        have HT := Lib.hid hT
        obtain ⟨i0, hi0, hz0, hz1, hz2⟩ := info_parts intsInfo
        have hb4 : i0.bytes * T ≤ 281474976710656 := by rw [hz2]; omega
        have hmx : T ≤ maxLen := by simp only [maxLen]; omega
        clear hT htake
        repeat (first
          | (at_make; refine wpList_make_bk _ rfl (.tmp 36) (.tmp 36) 29 rfl 35 i0 _ Tryz.underlying29 hi0 hz0 hz1 rfl .i64 .i64 (T : Int) (T : Int) T T rfl rfl rfl rfl (Nat.le_refl _) hb4 hmx ?_
             intro W1 hbk1 hbw1 hs1
             obtain ⟨g, hg⟩ : ∃ g, g = wr.heap.size := ⟨_, rfl⟩
             rw [← hg] at hbk1 hs1 ⊢
             have HSR := Lib.hid (show SR W1 g W1.heap.size T (fun _ => (none, 0, 0)) [] from ⟨by rw [rowsC_zero]; exact hbk1, fun k _ => OwN.nil _ _, fun k k' _ _ _ x hx => by cases hx⟩)
             have HGW := Lib.hid (show w1.heap.size ≤ g by rw [hg]; exact HBR.out.size)
             have HGS := Lib.hid (show g < W1.heap.size by omega)
             have HBW1 := Lib.hid (HBR.out.trans (hbw1.mono HBR.out.size))
             clear hbk1 hbw1 hs1 hg)
          | go_skip | go_guarded | go_step)
        go_loopw [9] (fun q w4 => ∃ (i : Nat) (R : Nat → SlA), i ≤ n ∧ q = .int .i64 (i : Int) ∧ SR w4 g W1.heap.size T R (headsM f (C.take i)) ∧ W1.heap.size ≤ w4.heap.size ∧ Below w1.heap.size w1 w4) (fun q _ => n - (intOf q).toNat)
        case atStart => exact ⟨0, _, by omega, rfl, by rw [List.take_zero]; exact HSR.out, Nat.le_refl _, HBW1.out⟩
        case round =>
          rename World => w4
          obtain ⟨i, R, hi, rfl, hsr, hs4, hb4⟩ := hrel
          have HSR4 := Lib.hid hsr
          have HB4 := Lib.hid hb4
          clear hsr hb4
          by_cases hlti : i < n
          · have hii : (i : Int) < (n : Int) := by omega
            have HBW := Lib.hid (HB1.out.trans (HB4.out.mono HB1.out.size))
            obtain ⟨b, o, p, l, L', A0, n0, c0, A1, n1, c1, R', hA, hb, hx, hq, hd0, hd1, hd2, hrt, hrl⟩ := (HC.out.below HBW.out).at_ hlti
            obtain ⟨v, hv⟩ : ∃ v, v = f p := ⟨_, rfl⟩
            obtain ⟨ho1, ho2⟩ := HOF.out p (List.mem_flatMap.2 ⟨_, List.mem_of_getElem? hx, by unfold prC; simp⟩)
            have hcall := rOf_any Al m cl L p w4 (Rd.more (Rd.below HOL.out.rd HB4.out) HB4.out.size) hmb
            rw [ho1, ← hv] at hcall
            have hvT : v < T := by
              rw [HT.out, hv]
              exact topM_lt _ (List.mem_map.2 ⟨_, List.mem_of_getElem? hx, rfl⟩)
            have HST := Lib.hid (show headsM f (C.take (i + 1)) = headsM f (C.take i) ++ [v] by rw [heads_step f hx, hv])
            have HLN := Lib.hid (show (headsM f (C.take i)).length = i by unfold headsM; rw [List.length_map, List.length_take, HC.out.lenC]; omega)
            have hvi : (v : Int) < (T : Int) := by omega
            have hv0 : (0 : Int) ≤ (v : Int) := by omega
            obtain ⟨⟨Av, nv', cv⟩, hs⟩ : ∃ s, s = R v := ⟨_, rfl⟩
            have hcell : w4.cell? ⟨g, v, none⟩ = some (.slice Av nv' cv) := by
              rw [HSR4.out.blk.cell, rowsC_at hvT, ← hs]
              try rfl
            have hown := HSR4.out.own v hvT
            rw [← hs] at hown
            have hnvl := hown.len
            have hnvi : nv' ≤ i := by
              have := rowM_len (headsM f (C.take i)) v
              rw [HLN.out] at this
              dsimp only at hnvl
              omega
            have hZ : Below w4.heap.size w4 (w4.alloc (.cells #[.int .i64 (i : Int)] 3)) := (Below.refl _ _).alloc (Nat.le_refl _) _
            have HOZ := Lib.hid (hown.later hZ)
            have HZB := Lib.hid hZ
            have HLIT := Lib.hid (litN_rd w4 i)
            have HS := Lib.hid hs
            have hbase : W1.heap.size ≤ (w4.alloc (.cells #[.int .i64 (i : Int)] 3)).heap.size := Nat.le_trans hs4 hZ.size
            subst hA
            clear hx hq hrt hrl hb hd1 hd2 ho1 ho2 hv hs hown hnvl hZ
            repeat (first | go_skip | go_guarded | go_step)
            refine hcall.mono ?_
            rintro e w5 ⟨rfl, rfl⟩
            clear hcall
            dsimp only
            repeat (first
              | (at_builtin
                 refine appN _ rfl (.tmp 57) (.tmp 59) rfl W1.heap.size (Av, nv', cv) _ rfl HOZ.out _ _ 1 1 [i] rfl HLIT.out (by show nv' + 1 ≤ _; omega) hbase ?_
                 intro A6 c6 w6 ho6 ht6 hg6
                 try dsimp only at ht6 hg6 ho6
                 have hng : ¬ Av.map (·.block) = some g := fun e => by have := (HOZ.out.low e).1; have := HGS.out; omega
                 have HST6 := Lib.hid (HSR4.out.step HGS.out hvT HZB.out (A' := A6) (c' := c6) (by rw [← HS.out, HLN.out]; exact ho6) (by rw [← HS.out]; exact ht6) (by rw [← HS.out]; exact hg6))
                 have hb6 : Bk w6 g 35 (rowsC R T) := ht6.bk (HSR4.out.blk.later HZB.out) hng
                 have hc6 : w6.cell? ⟨g, v, none⟩ = some (.slice Av nv' cv) := by rw [hb6.cell, rowsC_at hvT, ← HS.out]; try rfl
                 have hf6 := hb6.frozen v
                 have HS6 := Lib.hid (show W1.heap.size ≤ w6.heap.size from Nat.le_trans hbase ht6.size)
                 have HB6 := Lib.hid (show Below w1.heap.size w1 (w6.setCell ⟨g, v, none⟩ (.slice A6 (nv' + 1) c6)) from (HB4.out.trans ((HZB.out.mono HB4.out.size).trans (ht6.below (B := w1.heap.size) (fun y _ e => by have := (HOZ.out.low e).1; have := HGS.out; have := HGW.out; omega) (Nat.le_trans HB4.out.size HZB.out.size)))).setCell (p := ⟨g, v, none⟩) HGW.out _)
                 clear ho6 ht6 hg6 hb6 hng hcell)
              | go_skip | go_guarded | go_step)
            go_roundw
            case rel => exact ⟨i + 1, _, by omega, by go_num, by
              rw [HST.out]
              have h := HST6.out
              rw [← HS.out] at h
              exact h, by have := HS6.out; simpa using this, HB6.out⟩
            case measure => simp [intOf]; omega
          · obtain rfl : n = i := by omega
            have hii : ¬ (n : Int) < (n : Int) := by omega
            have htake : C.take n = C := List.take_of_length_le (by rw [HC.out.lenC]; exact Nat.le_refl _)
            repeat (first | go_skip | go_guarded | go_step)
            go_ret2
            have hsr := HSR4.out
            rw [htake] at hsr
            have hrd := hsr.rd
            have hst : strM (headsM f C) = (List.range T).map (rowM (headsM f C)) := by unfold strM; rw [← HT.out]
            refine ⟨0, some ⟨g, 0, none⟩, T, strM (headsM f C), (List.range T).map R, ?_, StrTold.good HZ.out HLS.out, ?_, ?_, ?_, HB1.out.trans (HB4.out.mono HB1.out.size)⟩
            · rw [hst, List.length_map, List.length_range]; rfl
            · rw [hst, List.length_map, List.length_range]
              exact hrd
            · rw [hst, List.length_map, List.length_range]
              have := HML.out
              omega
            · intro s hs
              rw [hst] at hs
              obtain ⟨k, _, rfl⟩ := List.mem_map.1 hs
              have := rowM_len (headsM f C) k
              rwa [show (headsM f C).length = n by unfold headsM; rw [List.length_map, HC.out.lenC]] at this
  · have hne : ((er : Int) != 0) = true := by simp; omega
    have hL : L = [] := by
      cases htold with
      | wrong _ => rfl
      | none _ _ => rfl
      | some _ _ _ _ _ => exact absurd rfl he
    subst hL
    have HT := Lib.hid htold
    have HE := Lib.hid he
    clear htold hol hll he
    repeat (first | go_skip | go_guarded | go_step)
    go_ret2
    exact ⟨er, none, 0, [], [], rfl, StrTold.bad HT.out HE.out, RdS.nil _ _, Nat.zero_le _, (fun s h => by cases h), HB1.out⟩
end Go.Proofs.YtfmghkplafploaaGreat

set_option linter.unusedVariables false
set_option linter.unusedSimpArgs false
namespace Go.Proofs.YtfmghkplafploaaGreat
open Go Go.RowKit

/-- A way from heads to bodies. -/
inductive Way (E : List Ed) (a : UInt32) : UInt32 → Prop
  | refl : Way E a a
  | step {b : UInt32} {e : Ed} : Way E a b → e ∈ E → e.1 = b → Way E a e.2.1
theorem Way.trans {E : List Ed} {a b c : UInt32} (h : Way E a b) (k : Way E b c) : Way E a c := by
  induction k with
  | refl => exact h
  | step _ he hb ih => exact ih.step he hb
theorem Way.closed {E : List Ed} {a b : UInt32} {S : List UInt32} (h : Way E a b) (ha : a ∈ S) (hc : ∀ e ∈ E, e.1 ∈ S → e.2.1 ∈ S) : b ∈ S := by
  induction h with
  | refl => exact ha
  | step _ he hb ih => exact hc _ he (hb ▸ ih)
/-- Does a way go round through a Not? -/
def Rounds (E : List Ed) : Prop := ∃ e ∈ E, e.2.2 = true ∧ Way E e.2.1 e.1
theorem Way.le {E : List Ed} {f : UInt32 → Nat} (hf : Valid E f) {a b : UInt32} (h : Way E a b) : f b ≤ f a := by
  induction h with
  | refl => exact Nat.le_refl _
  | step _ he hb ih => have := hf _ he; subst hb; omega
/-- By a way with a Not on it. -/
def Thr (E : List Ed) (a q : UInt32) : Prop := ∃ e ∈ E, e.2.2 = true ∧ Way E a e.1 ∧ Way E e.2.1 q
open Classical in
noncomputable def cntT (E : List Ed) (P : List UInt32) (a : UInt32) : Nat := (P.filter fun q => decide (Thr E a q)).length
theorem filter_le {P : List UInt32} {f g : UInt32 → Bool} (h : ∀ q ∈ P, f q = true → g q = true) : (P.filter f).length ≤ (P.filter g).length := by
  induction P with
  | nil => exact Nat.le_refl _
  | cons q P ih =>
    have h1 := ih fun x hx => h x (List.mem_cons_of_mem _ hx)
    have h2 := h q (by simp)
    rw [List.filter_cons, List.filter_cons]
    cases hf : f q <;> cases hg : g q
    · simpa using h1
    · simp; omega
    · rw [hf, hg] at h2; exact absurd (h2 rfl) (by decide)
    · simp; omega
theorem filter_lt {P : List UInt32} {f g : UInt32 → Bool} (h : ∀ q ∈ P, f q = true → g q = true) {x : UInt32} (hx : x ∈ P) (hf : f x = false) (hg : g x = true) : (P.filter f).length < (P.filter g).length := by
  induction P with
  | nil => cases hx
  | cons q P ih =>
    rw [List.filter_cons, List.filter_cons]
    by_cases hq : q = x
    · subst hq
      rw [hf, hg]
      have := filter_le (P := P) (f := f) (g := g) fun y hy => h y (List.mem_cons_of_mem _ hy)
      simp
      omega
    · have hm : x ∈ P := by
        rcases List.mem_cons.1 hx with e | e
        · exact absurd e.symm hq
        · exact e
      have h1 := ih (fun y hy => h y (List.mem_cons_of_mem _ hy)) hm
      have h2 := h q (by simp)
      cases hf' : f q <;> cases hg' : g q
      · simpa using h1
      · simp; omega
      · rw [hf', hg'] at h2; exact absurd (h2 rfl) (by decide)
      · simp; omega
/-- There are levels just if no way goes round through a Not. -/
theorem valid_iff {C : List Cl} : (∃ f, Valid (edL C) f) ↔ ¬ Rounds (edL C) := by
  constructor
  · rintro ⟨f, hf⟩ ⟨e, he, hn, hw⟩
    have h1 := hw.le hf
    have h2 := hf e he
    rw [hn] at h2
    simp only [dl, if_true] at h2
    omega
  · intro hno
    refine ⟨cntT (edL C) (prL C), fun e he => ?_⟩
    unfold cntT
    have hsub : ∀ q, Thr (edL C) e.2.1 q → Thr (edL C) e.1 q := fun q ⟨d, hd, hn, h1, h2⟩ => ⟨d, hd, hn, (Way.refl.step he rfl).trans h1, h2⟩
    cases hn : e.2.2 with
    | false =>
      simp only [dl]
      refine filter_le fun q _ hq => ?_
      simp only [decide_eq_true_eq] at hq ⊢
      exact hsub q hq
    | true =>
      simp only [dl, if_true]
      refine filter_lt (x := e.2.1) (fun q _ hq => ?_) (edge_body he) ?_ ?_
      · simp only [decide_eq_true_eq] at hq ⊢
        exact hsub q hq
      · rw [decide_eq_false_iff_not]
        rintro ⟨d, hd, hdn, h1, h2⟩
        exact hno ⟨d, hd, hdn, h2.trans h1⟩
      · simp only [decide_eq_true_eq]
        exact ⟨e, he, hn, Way.refl, Way.refl⟩
theorem nodup_len : ∀ {S T : List UInt32}, S.Nodup → (∀ x ∈ S, x ∈ T) → S.length ≤ T.length
  | [], T, _, _ => Nat.zero_le _
  | x :: S, T, hn, h => by
    rw [List.nodup_cons] at hn
    have h1 : S.length ≤ (T.erase x).length := nodup_len hn.2 fun y hy => (List.mem_erase_of_ne (fun e => by subst e; exact hn.1 hy)).2 (h y (by simp [hy]))
    have h2 := List.length_erase_of_mem (h x (by simp))
    have h3 := List.length_pos_of_mem (h x (by simp))
    rw [List.length_cons]
    omega

/-! ### Rows of numbers of one's own -/
abbrev OwH (w : World) (base : Nat) (A : Option Addr) (c n : Nat) (l : List UInt32) : Prop := w.ownsRow base 32 1 (.slice A n c) n (l.map nv)
theorem u32InfoH : (Tryz.prog.info? 32).map (fun i => (i.zero, i.size, i.bytes)) = some (some (.int .u32 0), 1, 4) := by kernel_rfl
theorem OwH.rd {w : World} {base : Nat} {A : Option Addr} {c n : Nat} {l : List UInt32} (h : OwH w base A c n l) : RdU w w.heap.size A n l := Rd.ofOwn h
theorem OwH.low {w : World} {base : Nat} {A : Option Addr} {c n : Nat} {l : List UInt32} (h : OwH w base A c n l) {k : Nat} (hk : A.map (·.block) = some k) : base ≤ k ∧ k < w.heap.size := World.ownsRow.lt h k (by rw [ownBlk_slice]; exact hk)
theorem litU_rd (w : World) (x : UInt32) : RdU (w.alloc (.cells #[nv x] 32)) (w.heap.size + 1) (some ⟨w.heap.size, 0, none⟩) 1 [x] :=
  ⟨rfl, fun _ => ⟨_, _, rfl, by omega, fun j u hu => by
    rw [Nat.zero_add, cell_of_row _ _ j #[nv x] 32 (0, 0) (heap_alloc_new w _)]
    simpa using hu⟩⟩
theorem appH {ops : Array Oper} {rest : List Oper} {o : Oper} {a : Act} {Q : Exit → Act → World → Prop} (w : World) (hgd : o.guard = none) (p x : Operand)
    (ho : o.op = .call { callee := .builtin .append, args := #[p, x], argTypes := #[50, 50] })
    (base : Nat) (A0 : Option Addr) (c0 n : Nat) (l : List UInt32) (hv : a.eval p = .slice A0 n c0) (hown : OwH w base A0 c0 n l)
    (B : Nat) (A : Option Addr) (m c : Nat) (news : List UInt32) (hx : a.eval x = .slice A m c) (hr : RdU w B A m news) (hb : n + m ≤ 1000000000000) (hbase : base ≤ w.heap.size)
    (h : ∀ A' c' w', OwH w' base A' c' (n + m) (l ++ news) → Turn (fun k => A0.map (·.block) = some k) w w' → wpList Tryz.prog ops Q rest (a.put o.dst (.slice A' (n + m) c')) w') : wpList Tryz.prog ops Q (o :: rest) a w := by
  obtain ⟨i0, hi, hz0, hz1, hz2⟩ := info_parts u32InfoH
  refine wpList_app w hgd p x 50 ho base 32 i0 _ 1 4 Tryz.underlying50 hi hz0 hz1 hz2 rfl (by decide) _ n _ hv hown B A m c _ hx hr (nv_one news) (by simp only [maxLen]; omega) (by omega) hbase ?_
  intro A' c' w' h1 h2 h3
  refine h A' c' w' ?_ (Turn.ofGrown h2 fun k hk => by rw [ownBlk_slice] at hk; exact hk)
  show World.ownsRow _ _ _ _ _ _ _
  rw [List.map_append]
  exact h1
end Go.Proofs.YtfmghkplafploaaGreat

