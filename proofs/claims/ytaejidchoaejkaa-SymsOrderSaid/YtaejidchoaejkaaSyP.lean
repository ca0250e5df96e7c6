/- Layer 4 (syms): a map from names to their numbers. -/
import Derived.Test.YtaejidchoaejkaaSyA
import Derived.Maps.OwnSet
import Derived.Maps.OwnOps
import Derived.StringKeys
set_option linter.unusedVariables false
set_option linter.unusedSimpArgs false
namespace Go.Proofs.Ytaejidchoaejkaa
open Go Go.RowKit Go.Maps

def keyL (s : ByteArray) : Lit := .string s.data.toList
theorem keyL_inj {a b : ByteArray} (h : keyL a = keyL b) : a = b := by
  cases a
  cases b
  simp only [keyL, Lit.string.injEq] at h
  congr 1
  exact Array.toList_inj.1 h
theorem key_law : Keyed Try.prog 9 := string_keyed Try.underlying9
theorem key_of {s : ByteArray} (hs : s.size ≤ maxLen) : keyOf Try.prog 9 (sv s) = some (keyL s) := Go.WideMaps.keyOf_string_mk Try.underlying9 hs
theorem zero_u32 (w : World) : (zeroValue 35).run Try.prog w = .ok (.int .u32 0) w := by kernel_rfl

/-- Block b is a map that tells of each name of l its place, and of no other one. -/
def MapIs (w : World) (b : Nat) (l : List ByteArray) : Prop :=
  ∃ D : DataW Unit, w.ownsMap Try.prog 9 (plainElem Try.prog 35) b l.length D ∧ ∀ s, has D (keyL s) = (findO l s).isSome ∧ ∀ k, findO l s = some k → ∀ z, D.atKey (keyL s) z = .lit (.int .u32 (k : Int))
theorem MapIs.lt {w : World} {b : Nat} {l : List ByteArray} (h : MapIs w b l) : b < w.heap.size := by
  obtain ⟨D, h1, _⟩ := h
  exact h1.lt
theorem MapIs.turn {G : Nat → Prop} {w w' : World} {b : Nat} {l : List ByteArray} (h : MapIs w b l) (ht : Turn G w w') (hn : ¬ G b) : MapIs w' b l := by
  obtain ⟨D, ⟨es, clock, hb, h1⟩, h2⟩ := h
  exact ⟨D, ⟨es, clock, (ht.block b (Array.getElem?_eq_some_iff.1 hb).1 hn).trans hb, h1⟩, h2⟩
theorem MapIs.made (w : World) : MapIs (w.alloc (.map #[] 0)) w.heap.size [] :=
  ⟨.map [], World.ownsMap_made w _ _ _, fun s => ⟨rfl, fun k hk => by simp [findO] at hk⟩⟩
theorem findO_append (l : List ByteArray) (s x : ByteArray) (hx : findO l x = none) : findO (l ++ [x]) s = if s = x then some l.length else findO l s := by
  unfold findO at hx ⊢
  rw [List.findIdx?_append]
  by_cases h : s = x
  · subst h
    rw [hx]
    simp
  · rw [if_neg h]
    have : List.findIdx? (fun y => decide (y = s)) [x] = none := by simp [Ne.symm h]
    rw [this]
    simp

/-- 'n, is := m[name]': a name that is there. -/
theorem look_is {ops : Array Oper} {rest : List Oper} {o : Oper} {a : Act} {Q : Exit → Act → World → Prop} (w : World) (hg : o.guard = none) (m x : Operand) (hop : o.op = Op.lookup 54 m x true)
    (b : Nat) (l : List ByteArray) (s : ByteArray) (k : Nat) (hm : a.eval m = .map (some b)) (hx : a.eval x = sv s) (hs : s.size ≤ maxLen) (h : MapIs w b l) (hf : findO l s = some k)
    (hK : wpList Try.prog ops Q rest (a.put o.dst (.tuple #[.int .u32 (k : Int), .bool true])) w) : wpList Try.prog ops Q (o :: rest) a w := by
  obtain ⟨D, h1, h2⟩ := h
  refine wpList_lookup_own_ok_int w hg m x _ hop 9 35 .u32 key_law Try.underlying54 Try.underlying35 (zero_u32 w) b _ D hm h1 (sv s) (keyL s) hx (key_of hs) ?_
  intro c hc _
  rw [(h2 s).2 k hf] at hc
  rw [(h2 s).1, hf]
  simp only [DataW.lit.injEq, Lit.int.injEq, true_and] at hc
  subst hc
  exact hK
/-- .. one that is not. -/
theorem look_not {ops : Array Oper} {rest : List Oper} {o : Oper} {a : Act} {Q : Exit → Act → World → Prop} (w : World) (hg : o.guard = none) (m x : Operand) (hop : o.op = Op.lookup 54 m x true)
    (b : Nat) (l : List ByteArray) (s : ByteArray) (hm : a.eval m = .map (some b)) (hx : a.eval x = sv s) (hs : s.size ≤ maxLen) (h : MapIs w b l) (hf : findO l s = none)
    (hK : wpList Try.prog ops Q rest (a.put o.dst (.tuple #[.int .u32 0, .bool false])) w) : wpList Try.prog ops Q (o :: rest) a w := by
  obtain ⟨D, h1, h2⟩ := h
  refine wpList_lookup_own_ok_int w hg m x _ hop 9 35 .u32 key_law Try.underlying54 Try.underlying35 (zero_u32 w) b _ D hm h1 (sv s) (keyL s) hx (key_of hs) ?_
  intro c hc _
  have hh := (h2 s).1
  rw [hf] at hh
  rw [atKey_of_not_has (by simpa using hh)] at hc
  rw [hh]
  simp only [DataW.lit.injEq, Lit.int.injEq, true_and] at hc
  subst hc
  exact hK
/-- 'm[name] = its number', of a new name. -/
theorem put_new {ops : Array Oper} {rest : List Oper} {o : Oper} {a : Act} {Q : Exit → Act → World → Prop} (w : World) (hg : o.guard = none) (m x v : Operand) (hop : o.op = Op.mapUpdate 54 m x v)
    (b : Nat) (l : List ByteArray) (s : ByteArray) (hm : a.eval m = .map (some b)) (hx : a.eval x = sv s) (hv : a.eval v = .int .u32 (l.length : Int)) (hs : s.size ≤ maxLen) (h : MapIs w b l) (hf : findO l s = none) (hl : l.length ≤ 1000000)
    (hK : ∀ w', MapIs w' b (l ++ [s]) → w.grownBy w' (some b) → wpList Try.prog ops Q rest (a.put o.dst undef) w') : wpList Try.prog ops Q (o :: rest) a w := by
  obtain ⟨D, h1, h2⟩ := h
  have hwf : (Lit.int .u32 (l.length : Int)).wf = true := by
    have e1 : IntKind.u32.min = 0 := rfl
    have e2 : IntKind.u32.max = 4294967295 := rfl
    simp only [Lit.wf, Bool.and_eq_true, decide_eq_true_eq]
    omega
  refine wpList_mapUpdate_own w hg m x v _ hop 9 35 key_law Try.underlying54 (plainElem Try.prog 35) b _ D hm h1 (by simp only [maxLen]; omega) (sv s) _ (keyL s) hx hv (key_of hs) (.lit (.int .u32 (l.length : Int))) [] (plainElem_int Try.underlying35 hwf) ?_
  intro w' h3 h4
  refine hK w' ⟨_, by simpa using h3, fun t => ?_⟩ h4
  rw [findO_append l t s hf]
  by_cases ht : t = s
  · subst ht
    rw [if_pos rfl]
    refine ⟨has_put_same (World.ownsMap.isMap h1) (by trivial) _, fun k hk z => ?_⟩
    simp only [Option.some.injEq] at hk
    subst hk
    exact atKey_put_same (World.ownsMap.isMap h1) (by trivial) _ z
  · have hne : keyL t ≠ keyL s := fun e => ht (keyL_inj e)
    rw [if_neg ht]
    refine ⟨by rw [has_put_other hne]; exact (h2 t).1, fun k hk z => ?_⟩
    rw [atKey_put_other hne]
    exact (h2 t).2 k hk z
end Go.Proofs.Ytaejidchoaejkaa
