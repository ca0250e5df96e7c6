/- Layer 18 (ring): steps and bytes among the arguments of a statement. -/
import Derived.Test.YtedgigoelhcfnaaRnW
import Derived.Deep.Strs
import Derived.Deep.SlicePairs
set_option linter.unusedVariables false
set_option linter.unusedSimpArgs false
set_option maxRecDepth 100000
namespace Go.Proofs.Ytedgigoelhcfnaa
open Go Go.RowKit Go.ChangeShapes Go.WideShapes Go.Joins Go.Deep

theorem laidOutR : laidOutB Try.prog = true := by kernel_rfl
theorem ownKR : ownKnob Try.prog.godebug = none := by kernel_rfl
theorem cells8R : Try.prog.cellsOf 5 = 1 := by kernel_rfl
theorem cellsStep : Try.prog.cellsOf 34 = 3 := by kernel_rfl
theorem list_ofR {α : Type} {p : Nat → α → Prop} : ∀ (n : Nat), (∀ i, i < n → ∃ x, p i x) → ∃ l : List α, l.length = n ∧ ∀ (i : Nat) (x : α), l[i]? = some x → p i x
  | 0, _ => ⟨[], rfl, fun i x h => by simp at h⟩
  | n + 1, h => by
    obtain ⟨l, hl, hp⟩ := list_ofR n (fun i hi => h i (by omega))
    obtain ⟨x, hx⟩ := h n (by omega)
    refine ⟨l ++ [x], by simp [hl], fun i y hy => ?_⟩
    by_cases hi : i < n
    · rw [List.getElem?_append_left (by omega)] at hy
      exact hp i y hy
    · have hlt := (List.getElem?_eq_some_iff.1 hy).1
      simp only [List.length_append, List.length_singleton] at hlt
      obtain rfl : i = n := by omega
      rw [List.getElem?_append_right (by omega), hl, Nat.sub_self] at hy
      simp only [List.getElem?_cons_zero, Option.some.injEq] at hy
      subst hy
      exact hx
theorem u32_ofR {n : Int} (hw : (Lit.int .u32 n).wf = true) : ∃ x : UInt32, Value.int .u32 n = nr x := by
  have h1 : IntKind.u32.min = 0 := rfl
  have h2 : IntKind.u32.max = 4294967295 := rfl
  simp only [Lit.wf, Bool.and_eq_true, decide_eq_true_eq] at hw
  refine ⟨UInt32.ofNat n.toNat, ?_⟩
  unfold nr
  rw [UInt32.toNat_ofNat_of_lt' (by show n.toNat < 4294967296; omega)]
  congr 1
  omega

theorem flat_atR {α β : Type} (f : α → List β) (k : Nat) (hf : ∀ x, (f x).length = k) {l : List α} {i : Nat} {x : α} (h : l[i]? = some x) (j : Nat) (hj : j < k) : (l.flatMap f)[i * k + j]? = (f x)[j]? := by
  induction l generalizing i with
  | nil => simp at h
  | cons y l ih =>
    rw [List.flatMap_cons]
    cases i with
    | zero =>
      simp only [List.getElem?_cons_zero, Option.some.injEq] at h
      subst h
      rw [Nat.zero_mul, Nat.zero_add, List.getElem?_append_left (by rw [hf]; exact hj)]
    | succ i =>
      rw [List.getElem?_cons_succ] at h
      have e : (i + 1) * k + j = (f y).length + (i * k + j) := by rw [hf, Nat.add_mul]; omega
      rw [e, List.getElem?_append_right (by omega), Nat.add_sub_cancel_left]
      exact ih h
section
variable {H : Type} {enc : TypeId × Value → H} {W : World}
theorem row_ofR {α : Type} (f : α → List Value) (k : Nat) (hk : 0 < k) (hf : ∀ x, (f x).length = k) {a : Addr} {len : Nat} {l : List α} (hll : l.length = len) (hp : ∀ (i : Nat) (x : α), l[i]? = some x → ∀ j, j < k → W.cell? (a.add (i * k + j)) = (f x)[j]?) (hlt : 0 < len → a.block < W.heap.size) :
    Rd W W.heap.size k (some a) len (l.flatMap f) := by
  have hlen : ∀ l : List α, (l.flatMap f).length = l.length * k := by
    intro l
    induction l with
    | nil => simp
    | cons z l ih => rw [List.flatMap_cons, List.length_append, ih, hf, List.length_cons, Nat.add_mul]; omega
  refine ⟨by rw [hlen, hll], fun hn => ?_⟩
  obtain ⟨b, off, spot⟩ := a
  have hspot : spot = none := by
    have ht : l[0]? = some (l[0]'(by omega)) := List.getElem?_eq_getElem _
    have h1 := hp 0 _ ht 0 hk
    have h2 : (f (l[0]'(by omega)))[0]? = some ((f (l[0]'(by omega)))[0]'(by rw [hf]; exact hk)) := List.getElem?_eq_getElem _
    rw [h2] at h1
    simp only [Nat.zero_mul, Nat.add_zero] at h1
    have h3 := World.cell?_spot h1
    simpa [Addr.add] using h3
  subst hspot
  refine ⟨b, off, rfl, hlt hn, fun j u hu => ?_⟩
  have hj : j < len * k := by
    have := (List.getElem?_eq_some_iff.1 hu).1
    rw [hlen, hll] at this
    exact this
  have hjk : j / k < l.length := by rw [hll]; exact Nat.div_lt_of_lt_mul (by rw [Nat.mul_comm]; exact hj)
  have ht : l[j / k]? = some (l[j / k]'hjk) := List.getElem?_eq_getElem _
  have h2 := flat_atR f k hf ht (j % k) (Nat.mod_lt _ hk)
  have e1 : j / k * k + j % k = j := by rw [Nat.mul_comm]; exact Nat.div_add_mod j k
  have h3 := hp _ _ ht (j % k) (Nat.mod_lt _ hk)
  rw [e1] at h2 h3
  rw [addPlain] at h3
  rw [h3, ← h2, hu]
theorem in_bs {fuel : Nat} {v : Value} {y : DataW H × List MemPlace} (h : DataW.trod enc Try.prog W 0 (fun _ => true) true fuel 32 [v] = some y) (hlt : ∀ x ∈ y.2, x.block < W.heap.size) :
    ∃ (A : Option Addr) (n c : Nat) (l : List UInt8), v = .slice A n c ∧ n ≤ c ∧ c ≤ maxLen ∧ Rd W W.heap.size 1 A n (l.map bv) := by
  rcases open_ints Try.underlying32 Try.underlying5 cells8R h with ⟨hcs, hx⟩ | ⟨a, len, cap, zs, hcs, _, hl, hm, hz, hx, hcell, hwz⟩
  · simp only [List.cons.injEq, and_true] at hcs
    exact ⟨none, 0, 0, [], hcs, by omega, by omega, Rd.nil⟩
  · simp only [List.cons.injEq, and_true] at hcs
    subst hx
    simp only [if_true] at hz
    obtain ⟨l, hll, hp⟩ := list_ofR (p := fun i (x : UInt8) => W.cell? (a.add i) = some (bv x)) len (fun i hi => by
      have hw := hwz zs[i] (List.getElem_mem _)
      have h1 : IntKind.u8.min = 0 := rfl
      have h2 : IntKind.u8.max = 255 := rfl
      simp only [Lit.wf, Bool.and_eq_true, decide_eq_true_eq] at hw
      refine ⟨UInt8.ofNat (zs[i]).toNat, ?_⟩
      have hc := hcell i (by omega)
      show W.cell? (a.add i) = some (bv (UInt8.ofNat (zs[i]).toNat))
      rw [hc, ← bv_mk zs[i] (by omega) (by omega)]
      simp [List.getD, List.getElem?_eq_getElem (show i < zs.length by omega)])
    refine ⟨some a, len, cap, l, hcs, hl, hm, by simp [hll], fun hn => ?_⟩
    obtain ⟨b, off, spot⟩ := a
    have hspot : spot = none := by simpa [Addr.add] using World.cell?_spot (hcell 0 (by omega))
    subst hspot
    refine ⟨b, off, rfl, hlt (.cell b off) (MemPlace.mem_row.2 ⟨0, by omega, by simp⟩), fun j u hu => ?_⟩
    rw [List.getElem?_map] at hu
    obtain ⟨x, hx, rfl⟩ := Option.map_eq_some_iff.1 hu
    have := hp j x hx
    rw [← addPlain]
    exact this
theorem open_bs {v : Value} {d : DataW H} {p : List MemPlace} (h : DataW.Trod enc Try.prog W 0 (fun _ => true) true 32 v d p) (hv : Value.okWide Try.prog W .any 0 32 v) (hlt : ∀ x ∈ p, x.block < W.heap.size) :
    ∃ (A : Option Addr) (n c : Nat) (l : List UInt8), v = .slice A n c ∧ n ≤ c ∧ c ≤ maxLen ∧ Rd W W.heap.size 1 A n (l.map bv) := by
  obtain ⟨a0, len0, cap0, rfl⟩ := okWide_slice Try.underlying32 hv
  obtain ⟨fuel, hf⟩ := h
  exact in_bs (y := (d, p)) hf hlt
theorem open_steps {v : Value} {d : DataW H} {p : List MemPlace} (hv : Value.okWide Try.prog W .any 0 22 v) (h : DataW.Trod enc Try.prog W 0 (fun _ => true) true 22 v d p) (hlt : ∀ x ∈ p, x.block < W.heap.size) :
    ∃ (A : Option Addr) (n c : Nat) (Z : List StE), v = .slice A n c ∧ n ≤ c ∧ c ≤ maxLen ∧ RdSt W W.heap.size A n Z := by
  obtain ⟨a0, len0, cap0, rfl⟩ := okWide_slice Try.underlying22 hv
  obtain ⟨fuel, hf⟩ := h
  rcases Go.Deep.open_slice Try.underlying22 hf with ⟨hcs, hx⟩ | ⟨a, len, cap, m, k, D, Pl, hcs, _, hl, hm, hz, hx, hi⟩
  · simp [Value.cells] at hcs
    obtain ⟨rfl, rfl, rfl⟩ := hcs
    exact ⟨none, 0, 0, [], rfl, by omega, by simp [maxLen], ⟨Rd.nil, fun z hz => by cases hz⟩⟩
  · simp [Value.cells] at hcs
    obtain ⟨rfl, rfl, rfl⟩ := hcs
    simp only [Prod.mk.injEq] at hx
    obtain ⟨rfl, rfl⟩ := hx
    simp only [if_true] at hz
    rw [cellsStep] at hi hlt
    obtain ⟨l, hll, hp⟩ := list_ofR (p := fun i (z : StE) => (∀ j, j < 3 → W.cell? (a.add (i * 3 + j)) = (stC z)[j]?) ∧ Rd W W.heap.size 1 z.2.1 z.2.2.1 (z.1.2.2.map bv) ∧ z.2.2.1 ≤ z.2.2.2) len0 (fun i hi' => by
      obtain ⟨cs, hcc, htr⟩ := hi i (by omega)
      obtain ⟨_, hcl, hat⟩ := World.cells?_some hcc
      match cs, hcl with
      | [c0, c1, c2], _ =>
        obtain ⟨y0, y1, y2, k2, hxy, _, h0, h1, h2⟩ := trod_struct3 Try.underlying34 htr
        simp only [Prod.mk.injEq] at hxy
        obtain ⟨b, hb, _⟩ := DataW.trod_bool (cs := [c0]) Try.underlying4 h0
        obtain ⟨n1, hv1, _, hw1⟩ := DataW.trod_int (cs := [c1]) Try.underlying31 h1
        obtain ⟨q, hq⟩ := u32_ofR hw1
        obtain ⟨A, n, c, t, hv, hnc, _, hr⟩ := in_bs (v := c2) h2 (fun x hx => hlt x (List.mem_append_right _ (List.mem_flatMap.2 ⟨i, by simp; omega, by rw [hxy.2]; simp [hx]⟩)))
        simp only [List.cons.injEq, and_true] at hb hv1
        subst hb hv1 hv
        rw [hq] at hat
        refine ⟨((b, q, t), (A, n, c)), fun j hj => ?_, hr, hnc⟩
        have g := hat j hj
        rw [addAdd] at g
        exact g)
    exact ⟨some a, len0, cap0, l, rfl, hl, hm, row_ofR stC 3 (by omega) (fun _ => rfl) hll (fun i x hx => (hp i x hx).1) (fun hn => hlt (.cell a.block a.off) (List.mem_append_left _ (MemPlace.mem_row.2 ⟨0, by omega, by simp⟩))), fun z hz => by
      obtain ⟨i, hi⟩ := List.mem_iff_getElem?.1 hz
      exact (hp i z hi).2⟩
end
end Go.Proofs.Ytedgigoelhcfnaa
