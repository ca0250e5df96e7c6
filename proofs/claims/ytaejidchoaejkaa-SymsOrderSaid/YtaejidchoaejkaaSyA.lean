/- Layer 4 (syms): the document's table: Find, Put. -/
import Derived.Test.YtaejidchoaejkaaSyM
import Derived.Test.YtaejidchoaejkaaFp
set_option linter.unusedVariables false
set_option linter.unusedSimpArgs false
namespace Go.Proofs.Ytaejidchoaejkaa
open Go Go.RowKit

theorem strInfo : (Try.prog.info? 9).map (fun i => (i.zero, i.size, i.bytes)) = some (some (.string ⟨#[]⟩), 1, 16) := by kernel_rfl
theorem sv_one (l : List ByteArray) : ∀ u ∈ l.map sv, u.oneCell' = true := by
  intro u hu
  obtain ⟨_, _, rfl⟩ := List.mem_map.1 hu
  rfl
/-- The slice value of n names l lies in a row of one's own. -/
abbrev OwS (w : World) (base : Nat) (A : Option Addr) (c n : Nat) (l : List ByteArray) : Prop := w.ownsRow base 9 1 (.slice A n c) n (l.map sv)
theorem rdS1 (w : World) (s : ByteArray) : Rd (w.alloc (.cells #[sv s] 9)) (w.heap.size + 1) 1 (some ⟨w.heap.size, 0, none⟩) 1 ([s].map sv) :=
  ⟨by simp, fun _ => ⟨_, _, rfl, by omega, fun j u hu => by
    rw [Nat.zero_add, cell_of_row _ _ j #[sv s] 9 (0, 0) (heap_alloc_new w _)]
    simpa using hu⟩⟩
/-- 'out = append(out, x...)' over strings, in this program. -/
theorem appS {ops : Array Oper} {rest : List Oper} {o : Oper} {a : Act} {Q : Exit → Act → World → Prop} (w : World) (hgd : o.guard = none) (p x : Operand)
    (ho : o.op = .call { callee := .builtin .append, args := #[p, x], argTypes := #[22, 22] })
    (base : Nat) (A0 : Option Addr) (c0 n : Nat) (l : List ByteArray) (hv : a.eval p = .slice A0 n c0) (hown : OwS w base A0 c0 n l)
    (B : Nat) (A : Option Addr) (m c : Nat) (news : List ByteArray) (hx : a.eval x = .slice A m c) (hr : Rd w B 1 A m (news.map sv)) (hb : n + m ≤ 1000000000) (hbase : base ≤ w.heap.size)
    (h : ∀ A' c' w', OwS w' base A' c' (n + m) (l ++ news) → w.grownBy w' (Value.slice A0 n c0).ownBlock → ((Value.slice A' (n + m) c').ownBlock = (Value.slice A0 n c0).ownBlock ∨ (Value.slice A' (n + m) c').ownBlock = some w.heap.size) → wpList Try.prog ops Q rest (a.put o.dst (.slice A' (n + m) c')) w') : wpList Try.prog ops Q (o :: rest) a w := by
  obtain ⟨i0, hi, hz0, hz1, hz2⟩ := info_parts strInfo
  refine wpList_app w hgd p x 22 ho base 9 i0 _ 1 16 Try.underlying22 hi hz0 hz1 hz2 rfl (by decide) _ n _ hv hown B A m c _ hx hr (sv_one news) (by simp only [maxLen]; omega) (by omega) hbase ?_
  intro A' c' w' h1 h2 h3
  exact h A' c' w' (by show World.ownsRow _ _ _ _ _ _ _; rw [List.map_append]; exact h1) h2 h3

theorem neS {x s : ByteArray} (h : x ≠ s) : (x.toList == s.toList) = false := by
  rw [ByteArray.toList_eq, ByteArray.toList_eq]
  refine beq_false_of_ne fun e => h ?_
  cases x
  cases s
  congr 1
  exact Array.toList_inj.1 e

/-! ### The mathematics of a table -/
def findO (l : List ByteArray) (s : ByteArray) : Option Nat := l.findIdx? (fun x => decide (x = s))
def findZ (l : List ByteArray) (s : ByteArray) : Int := match findO l s with | some k => (k : Int) | none => -1
/-- What is put: the names behind it, the number, the error. -/
def putL (l : List ByteArray) (s : ByteArray) : List ByteArray × Nat × Nat :=
  if mayB s = false then (l, 0, 8) else match findO l s with
    | some k => (l, k, 0)
    | none => if 4096 ≤ l.length then (l, 0, 6) else (l ++ [s], l.length, 0)
theorem findO_none {l : List ByteArray} {s : ByteArray} (h : ∀ (j : Nat) (x : ByteArray), l[j]? = some x → x ≠ s) : findO l s = none := by
  unfold findO
  rw [List.findIdx?_eq_none_iff]
  intro x hx
  obtain ⟨j, hj⟩ := List.mem_iff_getElem?.1 hx
  exact decide_eq_false (h j x hj)
theorem findO_some {l : List ByteArray} {s : ByteArray} {i : Nat} (hi : l[i]? = some s) (h : ∀ (j : Nat) (x : ByteArray), j < i → l[j]? = some x → x ≠ s) : findO l s = some i := by
  unfold findO
  have hl : i < l.length := (List.getElem?_eq_some_iff.1 hi).1
  rw [List.findIdx?_eq_some_iff_getElem]
  refine ⟨hl, ?_, fun j hj => ?_⟩
  · have := (List.getElem?_eq_some_iff.1 hi).2
    simp [this]
  · have := h j (l[j]'(by omega)) hj (List.getElem?_eq_getElem _)
    simpa using this
theorem findO_lt {l : List ByteArray} {s : ByteArray} {k : Nat} (h : findO l s = some k) : k < l.length := by
  unfold findO at h
  rw [List.findIdx?_eq_some_iff_getElem] at h
  exact h.1

/-- The document's table at block g: names l, in a row of its own in block X. -/
def RT (w : World) (g : Nat) (X : Option Nat) (l : List ByteArray) : Prop :=
  ∃ A c, Bk w g 34 [.slice A l.length c] ∧ OwS w 0 A c l.length l ∧ X = (Value.slice A l.length c).ownBlock ∧ X ≠ some g
/-- The blocks that a table is made of. -/
def Fp1 (g : Nat) (X : Option Nat) (k : Nat) : Prop := k = g ∨ X = some k
theorem RT.turn {G : Nat → Prop} {w w' : World} {g : Nat} {X : Option Nat} {l : List ByteArray} (h : RT w g X l) (ht : Turn G w w') (hn : ∀ k, Fp1 g X k → ¬ G k) : RT w' g X l := by
  obtain ⟨A, c, h1, h2, h3, h4⟩ := h
  exact ⟨A, c, ht.bk h1 (hn g (.inl rfl)), ht.own h2 (fun k hk => hn k (.inr (h3.trans hk))), h3, h4⟩
theorem RT.lt {w : World} {g : Nat} {X : Option Nat} {l : List ByteArray} (h : RT w g X l) : ∀ k, Fp1 g X k → k < w.heap.size := by
  obtain ⟨A, c, h1, h2, h3, h4⟩ := h
  rintro k (rfl | hk)
  · exact h1.lt
  · exact (World.ownsRow.lt h2 k (h3.symm.trans hk)).2

set_option maxRecDepth 100000 in
set_option maxHeartbeats 1000000 in
theorem rFind_any (g : Nat) (X : Option Nat) (l : List ByteArray) (s : ByteArray) (w : World) (h : RT w g X l) (hl : l.length ≤ 1000000) :
    Calls Try.prog 25 #[.pointer (some ⟨g, 0, none⟩), sv s] w fun e w' => e = .returned (.int .i64 (findZ l s)) ∧ w = w' := by
  obtain ⟨A, c, hb, ho, hX, hg⟩ := h
  have cg := hb.cell 0
  rw [show [Value.slice A l.length c][0]? = some (Value.slice A l.length c) from rfl] at cg
  have hr : Rd w w.heap.size 1 A l.length (l.map sv) := Rd.ofOwn ho
  have HR := Lib.hid hr
  clear hb ho hX hg hr
  go_enter Try.func25, Try.ntmps25
  repeat go_step
  go_loop [5] (fun p => ∃ i : Nat, i ≤ l.length ∧ p = .int .i64 (i : Int) ∧ ∀ (j : Nat) (x : ByteArray), j < i → l[j]? = some x → x ≠ s) (fun p => l.length - (intOf p).toNat)
  case atStart => exact ⟨0, by omega, rfl, fun j x hj => absurd hj (by omega)⟩
  case round =>
    obtain ⟨i, hi, rfl, hne⟩ := hrel
    by_cases hlt : i < l.length
    · have hci : (i : Int) < (l.length : Int) := by omega
      obtain ⟨b, o, u, hA, hbb, hu, hc⟩ := HR.out.at1 hlt
      subst hA
      obtain ⟨x, hx⟩ : ∃ x, l[i]? = some x := ⟨_, List.getElem?_eq_getElem hlt⟩
      rw [List.getElem?_map, hx] at hu
      simp only [Option.map_some, Option.some.injEq] at hu
      subst hu
      have HX := Lib.hid hx
      have HNE := Lib.hid hne
      clear hx hne
      by_cases he : x = s
      · subst he
        have hz : findZ l x = (i : Int) := by unfold findZ; rw [findO_some HX.out HNE.out]
        go_wp2
        go_ret
        exact ⟨rfl, rfl⟩
      · have hq := neS he
        have HE := Lib.hid he
        clear he
        go_wp2
        go_round
        case rel => exact ⟨i + 1, by omega, by go_num, fun j y hj hy => by
          rcases Nat.lt_succ_iff_lt_or_eq.1 hj with h1 | rfl
          · exact HNE.out j y h1 hy
          · rw [HX.out] at hy
            cases hy
            exact HE.out⟩
        case measure => simp [intOf]; omega
    · obtain rfl : i = l.length := by omega
      have hz : findZ l s = -1 := by unfold findZ; rw [findO_none fun j x hj => hne j x (List.getElem?_eq_some_iff.1 hj).1 hj]
      clear hne
      go_wp2
      go_ret
      exact ⟨rfl, rfl⟩
end Go.Proofs.Ytaejidchoaejkaa
