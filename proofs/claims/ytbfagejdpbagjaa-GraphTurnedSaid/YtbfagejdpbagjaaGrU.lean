/- Layer 9 (graph), the document: Parts. -/
import Derived.Test.YtbfagejdpbagjaaGrR
set_option linter.unusedVariables false
set_option linter.unusedSimpArgs false
namespace Go.Proofs.Ytbfagejdpbagjaa
open Go Go.RowKit

theorem brInfo : (Try.prog.info? 34).map (fun i => (i.zero, i.size, i.bytes)) = some (some (.slice none 0 0), 1, 24) := bslInfo
theorem run_litB (A : Option Addr) (k c : Nat) (w : World) : (Instr.buildSlice 41 1 #[(0, .slice A k c)]).run Try.prog w = .ok (.slice (some ⟨w.heap.size, 0, none⟩) 1 1) (w.alloc (.cells #[.slice A k c] 34)) := by
  obtain ⟨i0, hi, hz0, hz1, hz2⟩ := info_parts bslInfo
  simp [Instr.buildSlice, run_underlying Try.underlying41, sizeOf, typeInfo, zeroValue, hi, hz0, hz1, newRow, Instr.fill]
  kernel_rfl
theorem litB_rd (A : Option Addr) (k c : Nat) (w : World) : Rd (w.alloc (.cells #[.slice A k c] 34)) (w.alloc (.cells #[.slice A k c] 34)).heap.size 1 (some ⟨w.heap.size, 0, none⟩) 1 [.slice A k c] :=
  (Bk.new w 34 [.slice A k c]).rd 1 (by simp)
/-- 'l = append(l, x...)' over rows of truths. -/
theorem appB {ops : Array Oper} {rest : List Oper} {o : Oper} {a : Act} {Q : Exit → Act → World → Prop} (w : World) (hgd : o.guard = none) (p x : Operand)
    (ho : o.op = .call { callee := .builtin .append, args := #[p, x], argTypes := #[41, 41] })
    (base : Nat) (A0 : Option Addr) (c0 n : Nat) (l : List Value) (hv : a.eval p = .slice A0 n c0) (hown : w.ownsRow base 34 1 (.slice A0 n c0) n l)
    (B : Nat) (A : Option Addr) (m c : Nat) (news : List Value) (hx : a.eval x = .slice A m c) (hr : Rd w B 1 A m news) (h1 : ∀ u ∈ news, u.oneCell' = true) (hb : n + m ≤ 1000000000000) (hbase : base ≤ w.heap.size)
    (h : ∀ A' c' w', w'.ownsRow base 34 1 (.slice A' (n + m) c') (n + m) (l ++ news) → Turn (fun k => blockOf A0 = some k) w w' → (blockOf A' = blockOf A0 ∨ blockOf A' = some w.heap.size) → wpList Try.prog ops Q rest (a.put o.dst (.slice A' (n + m) c')) w') : wpList Try.prog ops Q (o :: rest) a w := by
  obtain ⟨i0, hi, hz0, hz1, hz2⟩ := info_parts bslInfo
  refine wpList_app w hgd p x 41 ho base 34 i0 _ 1 24 Try.underlying41 hi hz0 hz1 hz2 rfl (by decide) _ n _ hv hown B A m c _ hx hr h1 (by simp only [maxLen]; omega) (by omega) hbase ?_
  intro A' c' w' h4 h2 h3
  rw [ownBlock_slice, ownBlock_slice] at h3
  exact h A' c' w' h4 (Turn.ofGrown h2 fun k hk => by rw [ownBlock_slice] at hk; exact hk) h3
/-- The rows of truths, as they are made. -/
structure CM (w : World) (base : Nat) (A : Option Addr) (c n v : Nat) (E : List (Nat × Nat)) (fG : Nat → Nat) : Prop where
  own : w.ownsRow base 34 1 (.slice A v c) v ((List.range v).map fun u => .slice (some ⟨fG u, 0, none⟩) n n)
  row : ∀ u, u < v → base ≤ fG u ∧ fG u < w.heap.size ∧ blockOf A ≠ some (fG u) ∧ ∀ x, x < n → w.cell? ⟨fG u, x, none⟩ = some (.bool (comB E u x))
section
variable {w w' : World} {base c n v : Nat} {A : Option Addr} {E : List (Nat × Nat)} {fG : Nat → Nat}
theorem CM.later (h : CM w base A c n v E fG) (hb : Below w.heap.size w w') : CM w' base A c n v E fG :=
  ⟨ownBelow h.own hb (Nat.le_refl _), fun u hu => by
    obtain ⟨q1, q2, q3, q4⟩ := h.row u hu
    have := hb.size
    exact ⟨q1, by omega, q3, fun x hx => (hb.cell (p := ⟨fG u, x, none⟩) q2).trans (q4 x hx)⟩⟩
theorem CM.push {A' : Option Addr} {c' g : Nat} (h : CM w base A c n v E fG) (T : Turn (fun k => blockOf A = some k) w w') (ho : w'.ownsRow base 34 1 (.slice A' (v + 1) c') (v + 1) (((List.range v).map fun u => .slice (some ⟨fG u, 0, none⟩) n n) ++ [.slice (some ⟨g, 0, none⟩) n n]))
    (hb : blockOf A' = blockOf A ∨ blockOf A' = some w.heap.size) (hg1 : base ≤ g) (hg2 : g < w.heap.size) (hg3 : blockOf A ≠ some g) (hc : ∀ x, x < n → w.cell? ⟨g, x, none⟩ = some (.bool (comB E v x))) : CM w' base A' c' n (v + 1) E (upd fG v g) := by
  have hap : ∀ y, y < w.heap.size → blockOf A ≠ some y → blockOf A' ≠ some y := fun y hy hn e => by
    rcases hb with q | q
    · exact hn (q ▸ e)
    · rw [q] at e
      have := Option.some.inj e
      omega
  refine ⟨?_, fun u hu => ?_⟩
  · have e : (List.range (v + 1)).map (fun u => Value.slice (some ⟨upd fG v g u, 0, none⟩) n n) = ((List.range v).map fun u => .slice (some ⟨fG u, 0, none⟩) n n) ++ [.slice (some ⟨g, 0, none⟩) n n] := by
      rw [List.range_succ, List.map_append]
      congr 1
      · refine List.map_congr_left fun u hu => ?_
        rw [upd_other (by have := List.mem_range.1 hu; omega)]
      · simp [upd_same]
    rw [e]; exact ho
  · have hs := T.size
    by_cases e : u = v
    · subst e
      rw [upd_same]
      exact ⟨hg1, by omega, hap _ hg2 hg3, fun x hx => (T.cell (p := ⟨g, x, none⟩) hg2 hg3).trans (hc x hx)⟩
    · rw [upd_other e]
      obtain ⟨q1, q2, q3, q4⟩ := h.row u (by omega)
      exact ⟨q1, by omega, hap _ q2 q3, fun x hx => (T.cell (p := ⟨fG u, x, none⟩) q2 q3).trans (q4 x hx)⟩
theorem CM.rdC (h : CM w base A c n n E fG) : RdC w A n n E fG := ⟨Rd.ofOwn h.own, fun v hv => ⟨(h.row v hv).2.1, (h.row v hv).2.2.2⟩⟩
end
section
variable {w w' : World} {base c : Nat} {A : Option Addr} {P : List (List Nat)} {R : List (Nat × Nat)}
theorem PR.nil (w : World) (base : Nat) : PR w base none 0 [] [] := ⟨World.ownsRow_nil _ _ _ _, rfl, fun i r p hr => by simp at hr, fun r hr => by simp at hr⟩
theorem PR.turn {G : Nat → Prop} (h : PR w base A c P R) (T : Turn G w w') (hn : ∀ k, base ≤ k → ¬ G k) : PR w' base A c P R :=
  ⟨turn_own T h.own fun k hk => hn k (own_low h.own hk).1, h.rlen, fun i r p hr hp => by
    obtain ⟨q1, q2, q3, q4⟩ := h.row i r p hr hp
    have := T.size
    exact ⟨q1, by omega, q3, fun j v hv => (T.cell (p := ⟨r.1, j, none⟩) q2 (hn _ q1)).trans (q4 j v hv)⟩, h.ap⟩
theorem PR.push {A' : Option Addr} {c' g cp : Nat} {p : List Nat} (h : PR w base A c P R) (T : Turn (fun k => blockOf A = some k) w w')
    (ho : w'.ownsRow base 33 1 (.slice A' (P.length + 1) c') (P.length + 1) (((R.zip P).map fun x => .slice (some ⟨x.1.1, 0, none⟩) x.2.length x.1.2) ++ [.slice (some ⟨g, 0, none⟩) p.length cp]))
    (hb : blockOf A' = blockOf A ∨ blockOf A' = some w.heap.size) (hg1 : base ≤ g) (hg2 : g < w.heap.size) (hg3 : blockOf A ≠ some g) (hl : p.length ≤ cp) (hc : ∀ j v, p[j]? = some v → w.cell? ⟨g, j, none⟩ = some (ni v)) : PR w' base A' c' (P ++ [p]) (R ++ [(g, cp)]) := by
  have hap : ∀ y, y < w.heap.size → blockOf A ≠ some y → blockOf A' ≠ some y := fun y hy hn e => by
    rcases hb with q | q
    · exact hn (q ▸ e)
    · rw [q] at e
      have := Option.some.inj e
      omega
  have hs := T.size
  have hlt : ∀ r ∈ R, r.1 < w.heap.size := fun r hr => by
    obtain ⟨i, hi, e⟩ := List.getElem_of_mem hr
    have h1 : R[i]? = some r := by rw [List.getElem?_eq_getElem hi, e]
    have h2 : P[i]? = some (P[i]'(by rw [← h.rlen]; exact hi)) := List.getElem?_eq_getElem _
    exact (h.row i r _ h1 h2).2.1
  refine ⟨?_, by simp [h.rlen], fun i r q hr hq => ?_, fun r hr => ?_⟩
  · have e : ((R ++ [(g, cp)]).zip (P ++ [p])).map (fun x => Value.slice (some ⟨x.1.1, 0, none⟩) x.2.length x.1.2) = ((R.zip P).map fun x => .slice (some ⟨x.1.1, 0, none⟩) x.2.length x.1.2) ++ [.slice (some ⟨g, 0, none⟩) p.length cp] := by
      rw [List.zip_append h.rlen, List.map_append]; rfl
    rw [e, List.length_append]; exact ho
  · by_cases hi : i < P.length
    · rw [List.getElem?_append_left (by rw [h.rlen]; exact hi)] at hr
      rw [List.getElem?_append_left hi] at hq
      obtain ⟨q1, q2, q3, q4⟩ := h.row i r q hr hq
      exact ⟨q1, by omega, q3, fun j v hv => (T.cell (p := ⟨r.1, j, none⟩) q2 (h.ap r (List.mem_of_getElem? hr))).trans (q4 j v hv)⟩
    · have hi2 := (List.getElem?_eq_some_iff.1 hq).1
      simp only [List.length_append, List.length_singleton] at hi2
      have ei : i = P.length := by omega
      subst ei
      rw [List.getElem?_append_right (by rw [h.rlen]; exact Nat.le_refl _), h.rlen, Nat.sub_self] at hr
      rw [List.getElem?_append_right (Nat.le_refl _), Nat.sub_self] at hq
      cases hr
      cases hq
      exact ⟨hg1, by omega, hl, fun j v hv => (T.cell (p := ⟨g, j, none⟩) hg2 hg3).trans (hc j v hv)⟩
  · rcases List.mem_append.1 hr with hr | hr
    · exact hap _ (hlt r hr) (h.ap r hr)
    · simp only [List.mem_singleton] at hr
      subst hr
      exact hap _ hg2 hg3
end
theorem cntF_mono {n : Nat} {f g : Nat → Bool} (h : ∀ u, u < n → f u = true → g u = true) : cntF n g ≤ cntF n f := by
  unfold cntF
  refine List.countP_mono_left fun u hu hg => ?_
  have := h u (List.mem_range.1 hu)
  cases hf : f u with
  | false => rfl
  | true => rw [this hf] at hg; cases hg
theorem cntF_lt {n v : Nat} {f g : Nat → Bool} (h : ∀ u, u < n → f u = true → g u = true) (hv : v < n) (hf : f v = false) (hg : g v = true) : cntF n g < cntF n f := by
  have h1 := cntF_upd hv hf
  have h2 : cntF n g ≤ cntF n (upd f v true) := cntF_mono fun u hu hx => by
    by_cases e : u = v
    · subst e; exact hg
    · rw [upd_other e] at hx; exact h u hu hx
  omega
noncomputable def bothB (E : List (Nat × Nat)) (v u : Nat) : Bool := comB E v u && comB E u v
theorem bothB_iff {E : List (Nat × Nat)} {v u : Nat} : bothB E v u = true ↔ Both E v u := by unfold bothB Both; rw [Bool.and_eq_true, comB_true, comB_true]
theorem part_bothB (n : Nat) (E : List (Nat × Nat)) (v : Nat) : part n E v = (List.range n).filter (bothB E v) := by
  unfold part
  refine List.filter_congr fun u _ => ?_
  rw [Bool.eq_iff_iff, bothB_iff]
  exact @decide_eq_true_iff _ (Classical.propDecidable _)
end Go.Proofs.Ytbfagejdpbagjaa
