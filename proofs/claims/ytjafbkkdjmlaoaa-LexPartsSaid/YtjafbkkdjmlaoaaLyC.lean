/- Layer 7 (lex), the program's: the map of the words that mean something, and what a word of letters is. -/
import Derived.Test.YtjafbkkdjmlaoaaLyA
set_option linter.unusedVariables false
set_option linter.unusedSimpArgs false
namespace Go.Proofs.Ytjafbkkdjmlaoaa
open Go Go.RowKit Go.Maps

def keyL (s : ByteArray) : Lit := .string s.data.toList
theorem keyL_inj {a b : ByteArray} (h : keyL a = keyL b) : a = b := by
  cases a
  cases b
  simp only [keyL, Lit.string.injEq] at h
  congr 1
  exact Array.toList_inj.1 h
theorem key_law : Keyed Try.prog 9 := string_keyed Try.underlying9
theorem key_of {s : ByteArray} (hs : s.size ≤ maxLen) : keyOf Try.prog 9 (sv s) = some (keyL s) := Go.WideMaps.keyOf_string_mk Try.underlying9 hs
theorem zero_u8 (w : World) : (zeroValue 5).run Try.prog w = .ok (.int .u8 0) w := by kernel_rfl
abbrev notT : ByteArray := ⟨#[110, 111, 116]⟩
abbrev saysT : ByteArray := ⟨#[115, 97, 121, 115]⟩
/-- Block b is a map that tells of 'not' and of 'says' what they mean, and of nothing else. -/
def MeanIs (w : World) (b : Nat) : Prop :=
  ∃ D : DataW Unit, w.ownsMap Try.prog 9 (plainElem Try.prog 5) b 2 D ∧
    ∀ s, has D (keyL s) = decide (s = notT ∨ s = saysT) ∧ (s = notT → ∀ z, D.atKey (keyL s) z = .lit (.int .u8 3)) ∧ (s = saysT → ∀ z, D.atKey (keyL s) z = .lit (.int .u8 4))
theorem MeanIs.lt {w : World} {b : Nat} (h : MeanIs w b) : b < w.heap.size := by
  obtain ⟨D, h1, _⟩ := h
  exact h1.lt
theorem MeanIs.below {w w' : World} {b B : Nat} (h : MeanIs w b) (hb : Below B w w') (hlt : b < B) : MeanIs w' b := by
  obtain ⟨D, ⟨es, clock, h0, h1⟩, h2⟩ := h
  exact ⟨D, ⟨es, clock, (hb.block b hlt).trans h0, h1⟩, h2⟩
theorem wpList_insert_run {P : Program} {ops : Array Oper} {rest : List Oper} {o : Oper} {a : Act} {Q : Exit → Act → World → Prop} (w w' : World) (hg : o.guard = none) (m x v : Operand) (t : TypeId) (hop : o.op = Op.insert t m x v)
    (hrun : (Instr.mapUpdate t (a.eval m) (a.eval x) (a.eval v)).run P w = .ok () w') (hK : wpList P ops Q rest (a.put o.dst undef) w') : wpList P ops Q (o :: rest) a w := by
  refine wpList_plain hg fun K hK' => ?_
  unfold Oper.wp
  simp [execOp, hop, hrun, Result.andThen]
  exact hK' _ _ hK
theorem owns_put {w : World} {b n : Nat} {D : DataW Unit} (h : w.ownsMap Try.prog 9 (plainElem Try.prog 5) b n D) (hn : n < 100) (s : ByteArray) (hs : s.size ≤ 100) (k : Nat) (hk : k < 256) :
    ∃ w', (Instr.mapUpdate 42 (.map (some b)) (sv s) (.int .u8 (k : Int))).run Try.prog w = .ok () w' ∧ w'.ownsMap Try.prog 9 (plainElem Try.prog 5) b (n + 1) (D.put (keyL s) (.lit (.int .u8 (k : Int)))) ∧ w.grownBy w' (some b) := by
  have hwf : (Lit.int .u8 (k : Int)).wf = true := by
    have e1 : IntKind.u8.min = 0 := rfl
    have e2 : IntKind.u8.max = 255 := rfl
    simp only [Lit.wf, Bool.and_eq_true, decide_eq_true_eq]
    omega
  exact h.update key_law Try.underlying42 (by simp only [maxLen]; omega) (key_of (by simp only [maxLen]; omega)) (plainElem_int Try.underlying5 hwf)

set_option maxRecDepth 100000 in
set_option maxHeartbeats 2000000 in
theorem meanings_any (w : World) :
    Calls Try.prog 14 #[] w fun e w' => ∃ b, e = .returned (.map (some b)) ∧ w.heap.size ≤ b ∧ MeanIs w' b ∧ Below w.heap.size w w' := by
  have h0 := World.ownsMap_made w Try.prog 9 (plainElem (H := Unit) Try.prog 5)
  obtain ⟨w1, hr1, h1, g1⟩ := owns_put h0 (by omega) notT (by decide) 3 (by omega)
  obtain ⟨w2, hr2, h2, g2⟩ := owns_put h1 (by omega) saysT (by decide) 4 (by omega)
  have hb0 : Below w.heap.size w (w.alloc (.map #[] 0)) := (Below.refl _ w).alloc (Nat.le_refl _) _
  have hb1 : Below w.heap.size w w1 := hb0.grown g1 (by have := hb0.size; omega) (fun k hk => by cases hk; exact Nat.le_refl _)
  have hb2 : Below w.heap.size w w2 := hb1.grown g2 (by have := hb1.size; omega) (fun k hk => by cases hk; exact Nat.le_refl _)
  have hM : MeanIs w2 w.heap.size := by
    refine ⟨_, h2, fun s => ?_⟩
    have hne : keyL notT ≠ keyL saysT := fun e => absurd (keyL_inj e) (by decide)
    by_cases e1 : s = saysT
    · subst e1
      refine ⟨(has_put_same (World.ownsMap.isMap h1) (by trivial) _).trans (by simp), fun e => absurd e (by decide), fun _ z => atKey_put_same (World.ownsMap.isMap h1) (by trivial) _ z⟩
    · have n1 : keyL s ≠ keyL saysT := fun e => e1 (keyL_inj e)
      rw [has_put_other n1]
      by_cases e2 : s = notT
      · subst e2
        refine ⟨(has_put_same (World.ownsMap.isMap h0) (by trivial) _).trans (by simp), fun _ z => ?_, fun e => absurd e e1⟩
        rw [atKey_put_other n1]
        exact atKey_put_same (World.ownsMap.isMap h0) (by trivial) _ z
      · have n2 : keyL s ≠ keyL notT := fun e => e2 (keyL_inj e)
        refine ⟨?_, fun e => absurd e e2, fun e => absurd e e1⟩
        rw [has_put_other n2, decide_eq_false (by simp [e1, e2])]
        rfl
  have hmk := run_makeMap (P := Try.prog) 42 w
  have HR1 := Lib.hid hr1
  have HR2 := Lib.hid hr2
  have HB := Lib.hid hb2
  have HMM := Lib.hid hM
  clear hr1 hr2 hb0 hb1 hb2 hM h0 h1 h2 g1 g2
  go_enter Try.func14, Try.ntmps14
  repeat (first
    | (refine wpList_insert_run _ _ rfl _ _ _ _ rfl HR1.out ?_)
    | (refine wpList_insert_run _ _ rfl _ _ _ _ rfl HR2.out ?_)
    | go_skip | go_guarded | go_step)
  go_ret
  exact ⟨_, rfl, Nat.le_refl _, HMM.out, HB.out⟩

/-- What a word of letters is: k, if it means nothing else. -/
def ofK (k : Nat) (s : ByteArray) : Nat := if s = notT then 3 else if s = saysT then 4 else k
theorem look_mean {ops : Array Oper} {rest : List Oper} {o : Oper} {a : Act} {Q : Exit → Act → World → Prop} (w : World) (hg : o.guard = none) (m x : Operand) (hop : o.op = Op.lookup 42 m x true)
    (b : Nat) (s : ByteArray) (hm : a.eval m = .map (some b)) (hx : a.eval x = sv s) (hs : s.size ≤ maxLen) (h : MeanIs w b)
    (hK : wpList Try.prog ops Q rest (a.put o.dst (.tuple #[.int .u8 (ofK 0 s : Int), .bool (decide (s = notT ∨ s = saysT))])) w) : wpList Try.prog ops Q (o :: rest) a w := by
  obtain ⟨D, h1, h2⟩ := h
  refine wpList_lookup_own_ok_int w hg m x _ hop 9 5 .u8 key_law Try.underlying42 Try.underlying5 (zero_u8 w) b _ D hm h1 (sv s) (keyL s) hx (key_of hs) ?_
  intro c hc _
  rw [(h2 s).1]
  have hcc : c = (ofK 0 s : Int) := by
    unfold ofK
    by_cases e1 : s = notT
    · rw [(h2 s).2.1 e1] at hc
      simp only [DataW.lit.injEq, Lit.int.injEq, true_and] at hc
      rw [if_pos e1, ← hc]; rfl
    · by_cases e2 : s = saysT
      · rw [(h2 s).2.2 e2] at hc
        simp only [DataW.lit.injEq, Lit.int.injEq, true_and] at hc
        rw [if_neg e1, if_pos e2, ← hc]; rfl
      · have hh := (h2 s).1
        rw [decide_eq_false (by simp [e1, e2])] at hh
        rw [atKey_of_not_has (by simpa using hh)] at hc
        simp only [DataW.lit.injEq, Lit.int.injEq, true_and] at hc
        rw [if_neg e1, if_neg e2, ← hc]; rfl
  subst hcc
  exact hK

set_option maxRecDepth 100000 in
set_option maxHeartbeats 2000000 in
theorem ofLetters_any (s : ByteArray) (k b : Nat) (w : World) (hm : MeanIs w b) (h1 : 1 ≤ s.size) (hs : s.size ≤ 1099511627776) (hal : (tb s).all okB = true) :
    Calls Try.prog 27 #[sv s, .int .u8 (k : Int), .map (some b)] w fun e w' => e = .returned (.tuple #[.int .u8 ((if 32 < s.size then 0 else ofK k s : Nat) : Int), .int .i64 ((if 32 < s.size then 0 else s.size : Nat) : Int)]) ∧ w = w' := by
  have HM := Lib.hid hm
  have hml : s.size ≤ maxLen := by simp only [maxLen]; omega
  clear hm
  by_cases hb : 32 < s.size
  · rw [if_pos hb, if_pos hb]
    have HY := Lib.hid (show mayB s = false by
      unfold mayB
      rw [show s.data.toList.all okB = true from hal, Bool.true_and, Bool.and_eq_false_iff]
      exact Or.inr (decide_eq_false (by omega)))
    clear hal hb
    go_enter Try.func27, Try.ntmps27
    repeat (first | go_skip | go_guarded | go_step)
    refine (may_any s w hs).mono ?_
    rintro e w1 ⟨rfl, rfl⟩
    rw [HY.out]
    dsimp only
    repeat (first | go_skip | go_guarded | go_step)
    go_ret2
    exact ⟨rfl, rfl⟩
  · rw [if_neg hb, if_neg hb]
    have HY := Lib.hid (show mayB s = true by
      unfold mayB
      rw [show s.data.toList.all okB = true from hal, Bool.true_and, Bool.and_eq_true]
      exact ⟨decide_eq_true (by omega), decide_eq_true (by omega)⟩)
    clear hal hb
    obtain ⟨c, hc⟩ : ∃ c, c = ofK 0 s := ⟨_, rfl⟩
    obtain ⟨q, hq⟩ : ∃ q, q = decide (s = notT ∨ s = saysT) := ⟨_, rfl⟩
    have hlk := fun {ops : Array Oper} {rest : List Oper} {o : Oper} {a : Act} {Q : Exit → Act → World → Prop} (hg : o.guard = none) (m x : Operand) (hop : o.op = Op.lookup 42 m x true) (h3 : a.eval m = .map (some b)) (h4 : a.eval x = sv s) (hK : wpList Try.prog ops Q rest (a.put o.dst (.tuple #[.int .u8 (c : Int), .bool q])) w) => look_mean w hg m x hop b s h3 h4 hml HM.out (by rw [← hc, ← hq]; exact hK)
    have HC : Hid (ofK k s = if q then c else k) := Lib.hid (by
      rw [hc, hq]
      unfold ofK
      by_cases e1 : s = notT
      · simp [e1]
      · by_cases e2 : s = saysT
        · simp [e2]
        · simp [e1, e2])
    clear hc hq hml HM
    cases q with
    | true =>
      go_enter Try.func27, Try.ntmps27
      repeat (first | go_skip | go_guarded | go_step)
      refine (may_any s w hs).mono ?_
      rintro e w1 ⟨rfl, rfl⟩
      rw [HY.out]
      dsimp only
      repeat (first | (at_lookup; refine hlk rfl _ _ rfl rfl rfl ?_) | go_skip | go_guarded | go_step)
      go_ret2
      exact ⟨by rw [HC.out]; rfl, rfl⟩
    | false =>
      go_enter Try.func27, Try.ntmps27
      repeat (first | go_skip | go_guarded | go_step)
      refine (may_any s w hs).mono ?_
      rintro e w1 ⟨rfl, rfl⟩
      rw [HY.out]
      dsimp only
      repeat (first | (at_lookup; refine hlk rfl _ _ rfl rfl rfl ?_) | go_skip | go_guarded | go_step)
      go_ret2
      exact ⟨by rw [HC.out]; rfl, rfl⟩
end Go.Proofs.Ytjafbkkdjmlaoaa
