/- Slices of byte slices: read, made, opened as an argument. -/
import Derived.Test.YtdoonjldnehbdaaArg
import Derived.Deep.Matrix
set_option linter.unusedVariables false
set_option maxRecDepth 100000
namespace Go.Proofs.Ytdoonjldnehbdaa
open Go Go.RowKit

/-- A slice of byte slices that is read: each row's slice, and what it holds. -/
structure Rws (w : World) (B : Nat) (A : Option Addr) (n : Nat) (R : List (Option Addr × Nat × Nat)) (sl : List (List UInt8)) : Prop where
  lenR : R.length = n
  lenS : sl.length = n
  top : Rd w B 1 A n (R.map fun r : Option Addr × Nat × Nat => Value.slice r.1 r.2.1 r.2.2)
  row : ∀ (i : Nat) (r : Option Addr × Nat × Nat) (l : List UInt8), R[i]? = some r → sl[i]? = some l → Rd w B 1 r.1 r.2.1 (l.map bv) ∧ r.2.1 ≤ r.2.2
theorem Rws.below {w w' : World} {B n : Nat} {A : Option Addr} {R : List (Option Addr × Nat × Nat)} {sl : List (List UInt8)} (h : Rws w B A n R sl) (hb : Below B w w') : Rws w' B A n R sl :=
  ⟨h.lenR, h.lenS, h.top.below hb, fun i r l h1 h2 => ⟨(h.row i r l h1 h2).1.below hb, (h.row i r l h1 h2).2⟩⟩
theorem Rws.at_ {w : World} {B n : Nat} {A : Option Addr} {R : List (Option Addr × Nat × Nat)} {sl : List (List UInt8)} (h : Rws w B A n R sl) {i : Nat} (hi : i < n) :
    ∃ b o Ai ni ci l, A = some ⟨b, o, none⟩ ∧ b < B ∧ w.cell? ⟨b, o + i, none⟩ = some (.slice Ai ni ci) ∧ sl[i]? = some l ∧ Rd w B 1 Ai ni (l.map bv) ∧ ni ≤ ci := by
  obtain ⟨b, o, u, rfl, hb, hu, hc⟩ := h.top.at1 hi
  have h1 : R[i]? = some (R[i]'(by rw [h.lenR]; exact hi)) := List.getElem?_eq_getElem _
  have h2 : sl[i]? = some (sl[i]'(by rw [h.lenS]; exact hi)) := List.getElem?_eq_getElem _
  rw [List.getElem?_map, h1] at hu
  simp only [Option.map_some, Option.some.injEq] at hu
  have hrow := h.row i _ _ h1 h2
  exact ⟨b, o, _, _, _, _, rfl, hb, by rw [hc, ← hu], h2, hrow.1, hrow.2⟩
theorem Rws.zero {w : World} {B : Nat} {A : Option Addr} : Rws w B A 0 [] [] := ⟨rfl, rfl, Rd.nil, fun i r l h => by simp at h⟩
abbrev RowA := Option Addr × Nat × Nat
abbrev RowA.val (r : RowA) : Value := .slice r.1 r.2.1 r.2.2
def RowIs (w : World) (B : Nat) (r : RowA) (l : List UInt8) : Prop := Rd w B 1 r.1 r.2.1 (l.map bv) ∧ r.2.1 ≤ r.2.2
theorem Rws.mk1 {w : World} {B : Nat} {A : Option Addr} {r0 : RowA} {l0 : List UInt8} (h : Rd w B 1 A 1 [r0.val]) (h0 : RowIs w B r0 l0) : Rws w B A 1 [r0] [l0] :=
  ⟨rfl, rfl, h, fun i r l hr hl => by
    have hi : i < 1 := (List.getElem?_eq_some_iff.1 hr).1
    obtain rfl : i = 0 := by omega
    cases hr
    cases hl
    exact h0⟩
theorem Rws.mk2 {w : World} {B : Nat} {A : Option Addr} {r0 r1 : RowA} {l0 l1 : List UInt8} (h : Rd w B 1 A 2 [r0.val, r1.val]) (h0 : RowIs w B r0 l0) (h1 : RowIs w B r1 l1) : Rws w B A 2 [r0, r1] [l0, l1] :=
  ⟨rfl, rfl, h, fun i r l hr hl => by
    have hi : i < 2 := (List.getElem?_eq_some_iff.1 hr).1
    have c : i = 0 ∨ i = 1 := by omega
    rcases c with rfl | rfl
    · cases hr
      cases hl
      exact h0
    · cases hr
      cases hl
      exact h1⟩
theorem Rws.mk3 {w : World} {B : Nat} {A : Option Addr} {r0 r1 r2 : RowA} {l0 l1 l2 : List UInt8} (h : Rd w B 1 A 3 [r0.val, r1.val, r2.val]) (h0 : RowIs w B r0 l0) (h1 : RowIs w B r1 l1) (h2 : RowIs w B r2 l2) : Rws w B A 3 [r0, r1, r2] [l0, l1, l2] :=
  ⟨rfl, rfl, h, fun i r l hr hl => by
    have hi : i < 3 := (List.getElem?_eq_some_iff.1 hr).1
    have c : i = 0 ∨ i = 1 ∨ i = 2 := by omega
    rcases c with rfl | rfl | rfl
    · cases hr
      cases hl
      exact h0
    · cases hr
      cases hl
      exact h1
    · cases hr
      cases hl
      exact h2⟩
/-- The cells of a literal, as a slice. -/
theorem rdNew {w : World} {H : Nat} (t : TypeId) (cs : List Value) (fr : Nat × Nat) (h : w.heap.size = H) (B : Nat) (hB : H < B) : Rd (w.alloc (.cells cs.toArray t fr)) B 1 (some ⟨H, 0, none⟩) cs.length cs :=
  ⟨by simp, fun _ => ⟨_, _, rfl, hB, fun j u hu => by
    subst h
    rw [Nat.zero_add, cell_of_row _ _ j cs.toArray t fr (heap_alloc_new w _)]
    simpa using hu⟩⟩
theorem Rws.lit1 {W : World} {A0 : Option Addr} {n0 c0 : Nat} {l0 : List UInt8} (t : TypeId) (h0 : Rd W W.heap.size 1 A0 n0 (l0.map bv)) (k0 : n0 ≤ c0) :
    Rws (W.alloc (.cells #[.slice A0 n0 c0] t)) (W.alloc (.cells #[.slice A0 n0 c0] t)).heap.size (some ⟨W.heap.size, 0, none⟩) 1 [(A0, n0, c0)] [l0] :=
  Rws.mk1 (rdNew t [.slice A0 n0 c0] (0, 0) rfl _ (by simp)) ⟨(h0.alloc (Nat.le_refl _) _).more (by simp), k0⟩
theorem Rws.lit2 {W : World} {A0 A1 : Option Addr} {n0 c0 n1 c1 : Nat} {l0 l1 : List UInt8} (t : TypeId) (h0 : Rd W W.heap.size 1 A0 n0 (l0.map bv)) (k0 : n0 ≤ c0) (h1 : Rd W W.heap.size 1 A1 n1 (l1.map bv)) (k1 : n1 ≤ c1) :
    Rws (W.alloc (.cells #[.slice A0 n0 c0, .slice A1 n1 c1] t)) (W.alloc (.cells #[.slice A0 n0 c0, .slice A1 n1 c1] t)).heap.size (some ⟨W.heap.size, 0, none⟩) 2 [(A0, n0, c0), (A1, n1, c1)] [l0, l1] :=
  Rws.mk2 (rdNew t [.slice A0 n0 c0, .slice A1 n1 c1] (0, 0) rfl _ (by simp)) ⟨(h0.alloc (Nat.le_refl _) _).more (by simp), k0⟩ ⟨(h1.alloc (Nat.le_refl _) _).more (by simp), k1⟩

theorem bytesB : Try.prog.bytesOf 22 = 24 := by kernel_rfl
theorem cellsB : Try.prog.cellsOf 22 = 1 := by kernel_rfl
theorem mem_weightsAll {H : Type} {P : Program} {e : TypeId} : ∀ {ds : List (DataW H)} {d : DataW H}, d ∈ ds → ∀ n ∈ d.weights P e, n ∈ DataW.weightsAll P e ds
  | x :: r, d, hd, n, hn => by
    simp only [DataW.weightsAll, List.mem_append]
    rcases List.mem_cons.1 hd with rfl | hd
    · exact Or.inl hn
    · exact Or.inr (mem_weightsAll hd n hn)

open Go.ChangeShapes Go.WideShapes Go.Deep in
/-- A [][]byte among the arguments. -/
theorem open_rows {H : Type} {enc : TypeId × Value → H} {W : World} {v : Value} {d : DataW H} {p : List MemPlace} (hv : Value.okWide Try.prog W .any 0 43 v) (h : DataW.Trod enc Try.prog W 0 (fun _ => true) true 43 v d p)
    (hlt : ∀ x ∈ p, x.block < W.heap.size) (hsz : ∀ n ∈ d.weights Try.prog 43, n ≤ 140737488351232) :
    ∃ (A : Option Addr) (n c : Nat) (R : List RowA) (sl : List (List UInt8)), v = .slice A n c ∧ n ≤ c ∧ n ≤ 5864062014806 ∧ Rws W W.heap.size A n R sl ∧ (∀ l ∈ sl, l.length ≤ 140737488351232) := by
  obtain ⟨a0, len, cap, rfl⟩ := okWide_slice Try.underlying43 hv
  obtain ⟨fuel, hf⟩ := h
  rcases open_int_rows Try.underlying43 Try.underlying22 Try.underlying5 cellsB cells8 hf with ⟨hcs, hx⟩ | ⟨a, len', cap', A, L, C, Z, hcs, _, hl, hm, hx, hrow⟩
  · simp [Value.cells] at hcs
    obtain ⟨rfl, rfl, rfl⟩ := hcs
    exact ⟨none, 0, 0, [], [], rfl, Nat.le_refl _, by omega, Rws.zero, by simp⟩
  · simp [Value.cells] at hcs
    obtain ⟨rfl, rfl, rfl⟩ := hcs
    simp only [Prod.mk.injEq] at hx
    obtain ⟨rfl, rfl⟩ := hx
    have hw0 := hsz ((len + (cap - len)) * 24) (by simp [DataW.weights, Try.underlying43, bytesB])
    have hC : ∀ r, r < len → C r ≤ 140737488351232 := by
      intro r hr
      obtain ⟨_, hLC, _, hZ, _, hnone, _⟩ := hrow r (by omega)
      cases hA : A r with
      | none => rw [hnone hA]; omega
      | some a' =>
        have h1 : intRow (H := H) .u8 (A r) (L r) (Z r) ∈ (List.range len).map fun r => intRow (H := H) .u8 (A r) (L r) (Z r) := List.mem_map.2 ⟨r, List.mem_range.2 hr, rfl⟩
        have h2 := hsz (((lits (H := H) .u8 ((Z r).take (L r))).length + (lits (H := H) .u8 ((Z r).drop (L r))).length) * 1) (by
          simp only [DataW.weights, Try.underlying43, List.mem_cons, List.mem_append]
          refine .inr (.inl (mem_weightsAll h1 _ ?_))
          simp [intRow, hA, DataW.weights, Try.underlying22, bytes8])
        simp only [lits, List.length_map, List.length_take, List.length_drop] at h2
        omega
    rcases Nat.eq_zero_or_pos len with h0 | h0
    · subst h0
      exact ⟨some a, 0, cap, [], [], rfl, hl, by omega, Rws.zero, by simp⟩
    obtain ⟨b, off, spot⟩ := a
    have hspot : spot = none := by simpa [Addr.add] using World.cell?_spot (hrow 0 (by omega)).1
    subst hspot
    have hb : b < W.heap.size := hlt (.cell b off) (List.mem_append.2 (.inl (MemPlace.mem_row.2 ⟨0, by omega, by simp⟩)))
    refine ⟨some ⟨b, off, none⟩, len, cap, (List.range len).map (fun r => (A r, L r, C r)), (List.range len).map (fun r => ((Z r).take (L r)).map fun z => UInt8.ofNat z.toNat), rfl, hl, by omega, ?_, ?_⟩
    · refine ⟨by simp, by simp, ⟨by simp, fun hn => ⟨b, off, rfl, hb, fun j u hu => ?_⟩⟩, fun i r l hr hl => ?_⟩
      · have hj : j < len := by
          have := (List.getElem?_eq_some_iff.1 hu).1
          simpa using this
        have hc := (hrow j (by omega)).1
        rw [addPlain] at hc
        rw [hc, ← hu]
        simp [hj]
      · have hi : i < len := by
          have := (List.getElem?_eq_some_iff.1 hr).1
          simpa using this
        simp only [List.getElem?_map, List.getElem?_range hi, Option.map_some, Option.some.injEq] at hr hl
        subst hr hl
        obtain ⟨_, hLC, _, hZ, hwz, hnone, hsome⟩ := hrow i (by omega)
        refine ⟨⟨by simp; omega, fun hn => ?_⟩, hLC⟩
        cases hA : A i with
        | none => have := hnone hA; simp only at hn; omega
        | some a' =>
          obtain ⟨_, hcell⟩ := hsome a' hA
          obtain ⟨b', off', spot'⟩ := a'
          simp only at hn
          have hs' : spot' = none := by simpa [Addr.add] using World.cell?_spot (hcell 0 (by omega))
          subst hs'
          refine ⟨b', off', rfl, hlt (.cell b' off') (List.mem_append.2 (.inr (List.mem_flatMap.2 ⟨i, List.mem_range.2 (by omega), ?_⟩))), fun j u hu => ?_⟩
          · simp only [intRowPlaces, hA]
            exact MemPlace.mem_row.2 ⟨0, by omega, by simp⟩
          · have hj : j < L i := by
              have := (List.getElem?_eq_some_iff.1 hu).1
              simp at this
              omega
            have hc := hcell j (by omega)
            rw [addPlain] at hc
            rw [hc]
            have hjz : j < (Z i).length := by omega
            have hw := hwz (Z i)[j] (List.getElem_mem _)
            have hbd : 0 ≤ (Z i)[j] ∧ (Z i)[j] < 256 := by
              have h1 : IntKind.u8.min = 0 := rfl
              have h2 : IntKind.u8.max = 255 := rfl
              simp only [Lit.wf, Bool.and_eq_true, decide_eq_true_eq] at hw
              omega
            simp only [List.getElem?_map, List.getElem?_take, hj, if_true, List.getElem?_eq_getElem hjz, Option.map_some, Option.some.injEq] at hu
            rw [← hu, ← bv_mk _ hbd.1 hbd.2]
            simp [List.getD, List.getElem?_eq_getElem hjz]
    · intro l hl
      obtain ⟨r, hr, rfl⟩ := List.mem_map.1 hl
      have hr' := List.mem_range.1 hr
      have := hC r hr'
      have h2 := (hrow r (by omega)).2.1
      simp
      omega
end Go.Proofs.Ytdoonjldnehbdaa
