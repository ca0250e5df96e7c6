/- Layer 11 (safe), the landed program: the map of the lengths that predicates have; fits. -/
import Derived.Test.YtggnhgfickkgdaaSfV
import Derived.Maps.OwnSet
import Derived.Maps.OwnOps
set_option linter.unusedVariables false
set_option linter.unusedSimpArgs false
namespace Go.Proofs.Ytggnhgfickkgdaa
open Go Go.RowKit Go.Maps

abbrev LenF := UInt32 → Option Nat
def fitsB (f : LenF) (k : Key) : Bool := match f k.1 with | some m => decide (m = k.2) | none => true
def fitsF (f : LenF) (k : Key) : LenF := match f k.1 with | some _ => f | none => fun q => if q = k.1 then some k.2 else f q
def keyU (p : UInt32) : Lit := .int .u32 (p.toNat : Int)
theorem keyU_inj {a b : UInt32} (h : keyU a = keyU b) : a = b := by
  simp only [keyU, Lit.int.injEq, true_and] at h
  exact UInt32.toNat_inj.1 (by omega)
theorem keyU_law : Keyed Try.prog 30 := int_keyed Try.underlying30
theorem keyU_of (p : UInt32) : keyOf Try.prog 30 (nv p) = some (keyU p) := keyOf_int_mk Try.underlying30 (by
  have h := n32_lt p
  have e1 : IntKind.u32.min = 0 := rfl
  have e2 : IntKind.u32.max = 4294967295 := rfl
  simp only [Lit.wf, Bool.and_eq_true, decide_eq_true_eq]
  omega)
theorem zero_i64 (w : World) : (zeroValue 3).run Try.prog w = .ok (.int .i64 0) w := by kernel_rfl
/-- Block b is a map that tells of each predicate what f does; it was written at most M times. -/
def MapL (w : World) (b M : Nat) (f : LenF) : Prop :=
  ∃ (m : Nat) (D : DataW Unit), m ≤ M ∧ w.ownsMap Try.prog 30 (plainElem Try.prog 3) b m D ∧ ∀ p, has D (keyU p) = (f p).isSome ∧ ∀ k, f p = some k → ∀ z, D.atKey (keyU p) z = .lit (.int .i64 (k : Int))
theorem MapL.lt {w : World} {b M : Nat} {f : LenF} (h : MapL w b M f) : b < w.heap.size := by
  obtain ⟨m, D, _, h1, _⟩ := h
  exact h1.lt
theorem MapL.turn {G : Nat → Prop} {w w' : World} {b M : Nat} {f : LenF} (h : MapL w b M f) (ht : Turn G w w') (hn : ¬ G b) : MapL w' b M f := by
  obtain ⟨m, D, hm, ⟨es, clock, hb, h1⟩, h2⟩ := h
  exact ⟨m, D, hm, ⟨es, clock, (ht.block b (Array.getElem?_eq_some_iff.1 hb).1 hn).trans hb, h1⟩, h2⟩
theorem MapL.below {w w' : World} {b M : Nat} {f : LenF} (h : MapL w b M f) (hb : Below w.heap.size w w') : MapL w' b M f := h.turn (G := fun _ => False) (Turn.ofBelow hb) id
theorem MapL.more {w : World} {b M M' : Nat} {f : LenF} (h : MapL w b M f) (hM : M ≤ M') : MapL w b M' f := by
  obtain ⟨m, D, hm, h1, h2⟩ := h
  exact ⟨m, D, by omega, h1, h2⟩
theorem MapL.made (w : World) : MapL (w.alloc (.map #[] 0)) w.heap.size 0 (fun _ => none) :=
  ⟨0, .map [], Nat.le_refl _, World.ownsMap_made w _ _ _, fun p => ⟨rfl, fun k hk => by simp at hk⟩⟩
/-- 'n, is := m[p]': a predicate that is there. -/
theorem lookL_is {ops : Array Oper} {rest : List Oper} {o : Oper} {a : Act} {Q : Exit → Act → World → Prop} (w : World) (hg : o.guard = none) (m x : Operand) (hop : o.op = Op.lookup 52 m x true)
    (b M : Nat) (f : LenF) (p : UInt32) (k : Nat) (hm : a.eval m = .map (some b)) (hx : a.eval x = nv p) (h : MapL w b M f) (hf : f p = some k)
    (hK : wpList Try.prog ops Q rest (a.put o.dst (.tuple #[.int .i64 (k : Int), .bool true])) w) : wpList Try.prog ops Q (o :: rest) a w := by
  obtain ⟨_, D, _, h1, h2⟩ := h
  refine wpList_lookup_own_ok_int w hg m x _ hop 30 3 .i64 keyU_law Try.underlying52 Try.underlying3 (zero_i64 w) b _ D hm h1 (nv p) (keyU p) hx (keyU_of p) ?_
  intro c hc _
  rw [(h2 p).2 k hf] at hc
  rw [(h2 p).1, hf]
  simp only [DataW.lit.injEq, Lit.int.injEq, true_and] at hc
  subst hc
  exact hK
/-- .. one that is not. -/
theorem lookL_not {ops : Array Oper} {rest : List Oper} {o : Oper} {a : Act} {Q : Exit → Act → World → Prop} (w : World) (hg : o.guard = none) (m x : Operand) (hop : o.op = Op.lookup 52 m x true)
    (b M : Nat) (f : LenF) (p : UInt32) (hm : a.eval m = .map (some b)) (hx : a.eval x = nv p) (h : MapL w b M f) (hf : f p = none)
    (hK : wpList Try.prog ops Q rest (a.put o.dst (.tuple #[.int .i64 0, .bool false])) w) : wpList Try.prog ops Q (o :: rest) a w := by
  obtain ⟨_, D, _, h1, h2⟩ := h
  refine wpList_lookup_own_ok_int w hg m x _ hop 30 3 .i64 keyU_law Try.underlying52 Try.underlying3 (zero_i64 w) b _ D hm h1 (nv p) (keyU p) hx (keyU_of p) ?_
  intro c hc _
  have hh := (h2 p).1
  rw [hf] at hh
  rw [atKey_of_not_has (by simpa using hh)] at hc
  rw [hh]
  simp only [DataW.lit.injEq, Lit.int.injEq, true_and] at hc
  subst hc
  exact hK
/-- 'm[p] = n', of a new predicate. -/
theorem putL_new {ops : Array Oper} {rest : List Oper} {o : Oper} {a : Act} {Q : Exit → Act → World → Prop} (w : World) (hg : o.guard = none) (m x v : Operand) (hop : o.op = Op.mapUpdate 52 m x v)
    (b M n : Nat) (f : LenF) (p : UInt32) (hm : a.eval m = .map (some b)) (hx : a.eval x = nv p) (hv : a.eval v = .int .i64 (n : Int)) (h : MapL w b M f) (hf : f p = none) (hM : M ≤ 1000000000000000) (hn : n ≤ 1000000000)
    (hK : ∀ w', MapL w' b (M + 1) (fitsF f (p, n)) → w.grownBy w' (some b) → wpList Try.prog ops Q rest (a.put o.dst undef) w') : wpList Try.prog ops Q (o :: rest) a w := by
  obtain ⟨mm, D, hmm, h1, h2⟩ := h
  have hwf : (Lit.int .i64 (n : Int)).wf = true := by
    have e1 : IntKind.i64.min = -9223372036854775808 := rfl
    have e2 : IntKind.i64.max = 9223372036854775807 := rfl
    simp only [Lit.wf, Bool.and_eq_true, decide_eq_true_eq]
    omega
  refine wpList_mapUpdate_own w hg m x v _ hop 30 3 keyU_law Try.underlying52 (plainElem Try.prog 3) b _ D hm h1 (by simp only [maxLen]; omega) (nv p) _ (keyU p) hx hv (keyU_of p) (.lit (.int .i64 (n : Int))) [] (plainElem_int Try.underlying3 hwf) ?_
  intro w' h3 h4
  refine hK w' ⟨mm + 1, _, by omega, h3, fun q => ?_⟩ h4
  have e : fitsF f (p, n) q = if q = p then some n else f q := by unfold fitsF; rw [show f (p, n).1 = none from hf]
  rw [e]
  by_cases hq : q = p
  · subst hq
    rw [if_pos rfl]
    refine ⟨has_put_same (World.ownsMap.isMap h1) (by trivial) _, fun k hk z => ?_⟩
    simp only [Option.some.injEq] at hk
    subst hk
    exact atKey_put_same (World.ownsMap.isMap h1) (by trivial) _ z
  · have hne : keyU q ≠ keyU p := fun e => hq (keyU_inj e)
    rw [if_neg hq]
    refine ⟨by rw [has_put_other hne]; exact (h2 q).1, fun k hk z => ?_⟩
    rw [atKey_put_other hne]
    exact (h2 q).2 k hk z
set_option maxRecDepth 100000 in
set_option maxHeartbeats 4000000 in
theorem fits_any (b M : Nat) (f : LenF) (p : UInt32) (n : Nat) (w : World) (h : MapL w b M f) (hM : M ≤ 1000000000000000) (hn : n ≤ 1000000000) :
    Calls Try.prog 24 #[.map (some b), nv p, .int .i64 (n : Int)] w fun e w' => e = .returned (.bool (fitsB f (p, n))) ∧ MapL w' b (M + 1) (fitsF f (p, n)) ∧ w.grownBy w' (some b) := by
  have HM := Lib.hid h
  clear h
  cases hf : f p with
  | some k =>
    have HF := Lib.hid hf
    have HB := Lib.hid (show fitsB f (p, n) = decide (k = n) by unfold fitsB; rw [show f (p, n).1 = some k from hf])
    have HG := Lib.hid (show fitsF f (p, n) = f by unfold fitsF; rw [show f (p, n).1 = some k from hf])
    clear hf
    by_cases hkn : k = n
    · have hd : ((k : Int) == (n : Int)) = true := by rw [hkn]; simp
      have HD := Lib.hid (decide_eq_true hkn)
      clear hkn
      go_enter Try.func24, Try.ntmps24
      repeat (first | (at_lookup; refine lookL_is w rfl _ _ rfl b M f p k rfl rfl HM.out HF.out ?_) | go_skip | go_guarded | go_step)
      go_ret
      exact ⟨by rw [HB.out, HD.out]; rfl, by rw [HG.out]; exact HM.out.more (by omega), World.grownBy.refl _ _⟩
    · have hd : ((k : Int) == (n : Int)) = false := by rw [beq_eq_false_iff_ne]; omega
      have HD := Lib.hid (decide_eq_false hkn)
      clear hkn
      go_enter Try.func24, Try.ntmps24
      repeat (first | (at_lookup; refine lookL_is w rfl _ _ rfl b M f p k rfl rfl HM.out HF.out ?_) | go_skip | go_guarded | go_step)
      go_ret
      exact ⟨by rw [HB.out, HD.out]; rfl, by rw [HG.out]; exact HM.out.more (by omega), World.grownBy.refl _ _⟩
  | none =>
    have HF := Lib.hid hf
    have HB := Lib.hid (show fitsB f (p, n) = true by unfold fitsB; rw [show f (p, n).1 = none from hf])
    clear hf
    go_enter Try.func24, Try.ntmps24
    repeat (first
      | (at_lookup; refine lookL_not w rfl _ _ rfl b M f p rfl rfl HM.out HF.out ?_)
      | (at_mapUpdate; refine putL_new w rfl _ _ _ rfl b M n f p rfl rfl rfl HM.out HF.out hM hn ?_; intro w3 hm3 hg3)
      | go_skip | go_guarded | go_step)
    go_ret
    exact ⟨by rw [HB.out]; rfl, hm3, hg3⟩
end Go.Proofs.Ytggnhgfickkgdaa
