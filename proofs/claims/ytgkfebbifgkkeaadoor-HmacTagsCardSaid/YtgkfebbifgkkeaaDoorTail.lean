/- A region that draws its order, whose first operations can be taken first (they read no memory and nothing waits for them but the tail), and whose other operations but the tail only read. -/
import Derived.StillTail
import Derived.StillTailTactics
import Derived.KernelRfl
set_option linter.unusedVariables false
namespace Go.Proofs.YtgkfebbifgkkeaaDoor
open Go

/-- The operation, waiting for those of Z too. -/
def addWaits (Z : List Nat) (o : Oper) : Oper := { o with after := o.after ++ (Z.map fun i => ({ on := i, ground := .data } : Edge)).toArray }
def patchA (ops : Array Oper) (n : Nat) (Z : List Nat) : Array Oper := ops.modify n (addWaits Z)

section
variable {P : Program} {ops : Array Oper} {n : Nat} {Z : List Nat} {md : Region.Mode}
theorem patch_size : (patchA ops n Z).size = ops.size := by simp [patchA]
theorem patch_get (i : Nat) : (patchA ops n Z)[i]? = (ops[i]?).map fun o => if n = i then addWaits Z o else o := by
  unfold patchA
  rw [Array.getElem?_modify]
  split
  · rfl
  · simp
theorem yielded_patch (tmps : Array Value) : yielded (patchA ops n Z) tmps = yielded ops tmps := by
  funext j
  unfold yielded
  rw [patch_get]
  cases ops[j]? with
  | none => rfl
  | some o =>
    have h : (if n = j then addWaits Z o else o).dst = o.dst := by split <;> rfl
    simp [h]
theorem ready_patch {listed : Array Bool} (hZ : ∀ z ∈ Z, listed.getD z false = true) : Region.ready md (patchA ops n Z) listed = Region.ready md ops listed := by
  unfold Region.ready
  rw [patch_size]
  refine List.filter_congr fun i _ => ?_
  rw [patch_get]
  cases ops[i]? with
  | none => rfl
  | some o =>
    by_cases hi : n = i
    · have hall : ((Z.map fun i => ({ on := i, ground := .data } : Edge)).toArray.all fun e => !Region.binds md e || listed.getD e.on false) = true := by
        rw [Array.all_eq_true_iff_forall_mem]
        intro e he
        simp only [List.mem_toArray, List.mem_map] at he
        obtain ⟨z, hz, rfl⟩ := he
        simp [hZ z hz]
      simp only [Option.map_some, Option.getD_some, hi, if_true, addWaits, Array.all_append, hall, Bool.and_true]
    · simp [hi]
theorem upon_patch (b : Bool) (o : Oper) (a : Act) (K : Act → World → Prop) (Q : Exit → Act → World → Prop) (w : World) :
    (if b then addWaits Z o else o).wp P a w K Q ↔ o.wp P a w K Q := by
  cases b
  · exact Iff.rfl
  · exact Iff.rfl
theorem wanted_patch (o : Oper) (y : Nat → Option Bool) : Region.wanted (addWaits Z o) y = Region.wanted o y := rfl
theorem wpOp_patch {Q : Exit → Act → World → Prop} (i : Nat) (K : Act → World → Prop) (a : Act) (w : World) : wpOp P (patchA ops n Z) Q i K a w ↔ wpOp P ops Q i K a w := by
  unfold wpOp
  rw [patch_get, yielded_patch]
  cases ops[i]? with
  | none => exact Iff.rfl
  | some o =>
    by_cases hi : n = i
    · simp only [Option.map_some, hi, if_true]
      exact Iff.rfl
    · simp [hi]
theorem wpAny_patch {Q : Exit → Act → World → Prop} : ∀ (fuel : Nat) (listed : Array Bool) (a : Act) (w : World), (∀ z ∈ Z, listed.getD z false = true) → wpAny P md (patchA ops n Z) Q fuel listed a w → wpAny P md ops Q fuel listed a w
  | 0, listed, a, w, hZ, h => by
    refine ⟨?_, h.2⟩
    rw [← ready_patch hZ]
    exact h.1
  | fuel + 1, listed, a, w, hZ, h => by
    refine ⟨fun h0 => h.1 (by rw [ready_patch hZ]; exact h0), fun i hi => ?_⟩
    have h1 := h.2 i (by rw [ready_patch hZ]; exact hi)
    exact wpOp_mono (fun a' w' h' => wpAny_patch fuel _ a' w' (fun z hz => getD_set_true (hZ z hz)) h') ((wpOp_patch i _ a w).1 h1)
theorem wpStill_patch {w : World} {Q : Act → Prop} : ∀ (l : List Oper) (a : Act), wpStill P ops w Q l a → wpStill P (patchA ops n Z) w Q l a
  | [], _, h => h
  | o :: r, a, h => by
    unfold wpStill at h ⊢
    rw [yielded_patch]
    split
    · rename_i hw
      rw [if_pos hw] at h
      exact Oper.still_mono (fun a' h' => wpStill_patch r a' h') h
    · rename_i hw
      rw [if_neg hw] at h
      exact wpStill_patch r _ h
theorem wpList_patch {Q : Exit → Act → World → Prop} : ∀ (l : List Oper) (a : Act) (w : World), wpList P ops Q l a w → wpList P (patchA ops n Z) Q l a w
  | [], _, _, h => h
  | o :: r, a, w, h => by
    rw [wpList.eq_2] at h ⊢
    rw [yielded_patch]
    split
    · rename_i hw
      rw [if_pos hw] at h
      exact h.imp (Oper.wp_mono fun a' w' h' => wpList_patch r a' w' h') id
    · rename_i hw
      rw [if_neg hw] at h
      exact wpList_patch r _ _ h
theorem wpList_head {Q : Exit → Act → World → Prop} (o : Oper) (r : List Oper) (a : Act) (w : World) (h : wpList P ops Q (o :: r) a w) : wpList P ops Q (addWaits Z o :: r) a w := by
  rw [wpList.eq_2] at h ⊢
  exact h
end

/-- Whatever is listed, what it waits for is listed. -/
def closedB (md : Region.Mode) (ops : Array Oper) (L : Array Bool) : Bool :=
  (List.range ops.size).all fun j => !L.getD j false || ((ops[j]?).map fun o => o.after.all fun e => !Region.binds md e || L.getD e.on false).getD true
def tailB (l : List Oper) (n k : Nat) (L : Array Bool) : Bool :=
  Region.noSelect (patchA l.toArray n (List.range k)) && decide (n < l.length) && decide (k ≤ n) && Region.sinkB .any (patchA l.toArray n (List.range k)) n && Region.chainB .any (patchA l.toArray n (List.range k)) n &&
    Region.lexHead .any (patchA l.toArray n (List.range k)) (l.length - n) (n - k) k L && closedB .any (patchA l.toArray n (List.range k)) L && decide (L.size = l.length) &&
    ((List.range k).all fun z => L.getD z false) && ((List.range l.length).all fun t => decide (t < n) || !L.getD t true)

theorem wpAny_tail {P : Program} {Q : Exit → Act → World → Prop} {l : List Oper} {a : Act} {w : World} {L : Array Bool} (n k : Nat) (hB : tailB l n k L = true)
    (h : wpStill P l.toArray w (fun a' => wpList P l.toArray Q (l.drop n) a' w) ((l.take n).drop k) a) : wpAny P .any l.toArray Q (l.length - k) L a w := by
  simp only [tailB, Bool.and_eq_true, decide_eq_true_eq] at hB
  obtain ⟨⟨⟨⟨⟨⟨⟨⟨⟨hsel, hn⟩, hkn⟩, hs⟩, hc⟩, hlex⟩, hcl⟩, hsz⟩, hZ⟩, htl⟩ := hB
  have hZ' : ∀ z ∈ List.range k, L.getD z false = true := fun z hz => List.all_eq_true.1 hZ z hz
  refine wpAny_patch (n := n) (Z := List.range k) _ L a w hZ' ?_
  have hps : (patchA l.toArray n (List.range k)).size = l.length := by rw [patch_size]; simp
  have hll : ((l.take n).drop k).length = n - k := by simp; omega
  have hdl : (l.drop n).length = l.length - n := by simp
  have inv : HeadInv .any (patchA l.toArray n (List.range k)) n L := by
    refine ⟨by rw [hsz, hps], fun j oj hj hl e he hb => ?_, fun t ht ht' => ?_⟩
    · have hjl : j < (patchA l.toArray n (List.range k)).size := (Array.getElem?_eq_some_iff.1 hj).1
      have h1 := List.all_eq_true.1 hcl j (List.mem_range.2 hjl)
      rw [hj, hl] at h1
      simp only [Bool.not_true, Bool.false_or, Option.map_some, Option.getD_some] at h1
      have h2 := (Array.all_eq_true_iff_forall_mem.1 h1) e he
      rw [hb] at h2
      simpa using h2
    · rw [hps] at ht'
      have h1 := List.all_eq_true.1 htl t (List.mem_range.2 ht')
      simp only [Bool.or_eq_true, decide_eq_true_eq, Bool.not_eq_true'] at h1
      rcases h1 with h1 | h1
      · omega
      · exact h1
  have H := wpAnyL_lex (md := .any) (g := l.length - n) (Lq := fun a' => wpList P l.toArray Q (l.drop n) a' w) hsel hs hc (by rw [hps]; exact hn) ((l.take n).drop k) k L a (fun j hj => by
      rw [hll] at hj
      rw [patch_get, List.getElem?_drop, List.getElem?_take, if_pos (by omega)]
      have hne : ¬ n = k + j := by omega
      simp [hne]) (by rw [hll]; omega) inv (by rw [hll]; exact hlex) (wpStill_patch _ _ h)
  have R := wpAny_of_head (Q' := Q) (g := l.length - n) (fun listed a' hL => by
    obtain ⟨o, r, ho⟩ : ∃ o r, l.drop n = o :: r := by
      cases hd : l.drop n with
      | nil => rw [hd] at hdl; simp at hdl; omega
      | cons o r => exact ⟨o, r, rfl⟩
    have hw : wpList P (patchA l.toArray n (List.range k)) Q (addWaits (List.range k) o :: r) a' w := wpList_head o r a' w (by
      have := hL.2
      rw [ho] at this
      exact wpList_patch _ _ _ this)
    have hlen : (addWaits (List.range k) o :: r).length = l.length - n := by
      rw [← hdl, ho]
      rfl
    have := wpAny_of_seq (md := .any) (Q' := Q) (addWaits (List.range k) o :: r) n listed a' w (fun j => by
      rw [patch_get]
      have hg : l[n + j]? = (o :: r)[j]? := by rw [← ho, List.getElem?_drop]
      cases j with
      | zero =>
        have h0 : l[n]? = some o := by simpa using hg
        simp [h0]
      | succ j =>
        have h0 : l[n + (j + 1)]? = r[j]? := by simpa using hg
        simp [h0]) (by rw [hlen]; exact hL.1) hw
    rwa [hlen] at this) _ _ _ H
  rw [hll, show n - k + (l.length - n) = l.length - k by omega] at R
  exact R
theorem wpAny_tail' {P : Program} {Q : Exit → Act → World → Prop} {l : List Oper} {a : Act} {w : World} {L : Array Bool} {f : Nat} (n k : Nat) (hf : f = l.length - k) (hB : tailB l n k L = true)
    (h : wpStill P l.toArray w (fun a' => wpList P l.toArray Q (l.drop n) a' w) ((l.take n).drop k) a) : wpAny P .any l.toArray Q f L a w := by
  subst hf
  exact wpAny_tail n k hB h
end Go.Proofs.YtgkfebbifgkkeaaDoor
