/- Layer 4 (syms): the program's table: List, Of; what all of it is, in words that hide the fields. -/
import Derived.Test.YtaejidchoaejkaaSyU
import Derived.Lib.SliceRun
set_option linter.unusedVariables false
set_option linter.unusedSimpArgs false
namespace Go.Proofs.Ytaejidchoaejkaa
open Go Go.RowKit

theorem owSLit0 (w : World) (base : Nat) (hb : base ≤ w.heap.size) : OwS (w.alloc (.cells #[] 9)) base (some ⟨w.heap.size, 0, none⟩) 0 0 [] :=
  World.ownsRow_lit (base := base) w #[] 0 hb (by simp [maxLen]) (by simp)
theorem owsBelow {base : Nat} {w0 w w' : World} {A : Option Addr} {c n : Nat} {l : List ByteArray} (hb : Below base w0 w) (hown : OwS w base A c n l) (hg : w.grownBy w' (Value.slice A n c).ownBlock) (hbase : base ≤ w.heap.size) : Below base w0 w' := belowApp hb hown hg hbase

set_option maxRecDepth 100000 in
set_option maxHeartbeats 1000000 in
theorem clone_any (A : Option Addr) (n c B : Nat) (l : List ByteArray) (w : World) (hr : Rd w B 1 A n (l.map sv)) (hB : B ≤ w.heap.size) (hn : n ≤ 1000000) :
    Calls Try.prog 27 #[.slice A n c] w fun e w' => ∃ A' c', e = .returned (.slice A' n c') ∧ OwS w' w.heap.size A' c' n l ∧ Below w.heap.size w w' := by
  have hl : l.length = n := by simpa using hr.len1
  cases A with
  | none =>
    have h0 : n = 0 := by
      rcases Nat.eq_zero_or_pos n with h | h
      · exact h
      · obtain ⟨b, o, e, _⟩ := hr.2 h
        cases e
    subst h0
    obtain rfl : l = [] := List.eq_nil_of_length_eq_zero hl
    have hq := Go.Lib.run_eql_slice_nil (P := Try.prog) w 22 9 none 0 c 0 0 Try.underlying22
    simp only [Option.isNone] at hq
    go_enter Try.func27, Try.ntmps27
    go_wp2
    go_ret
    exact ⟨none, 0, rfl, World.ownsRow_nil _ _ _ _, Below.refl _ _⟩
  | some a =>
    have hq := Go.Lib.run_eql_slice_nil (P := Try.prog) w 22 9 (some a) n c 0 0 Try.underlying22
    simp only [Option.isNone] at hq
    go_enter Try.func27, Try.ntmps27
    repeat (first
      | (at_builtin; refine appS _ rfl (.tmp 5) (.tmp 6) rfl w.heap.size _ 0 0 [] rfl (owSLit0 w _ (Nat.le_refl _)) B (some a) n c l rfl (hr.alloc hB _) (by omega) (by simp) ?_; intro A1 c1 w1 ho1 hg1 _)
      | go_step)
    have hb1 := owsBelow ((Below.refl _ _).alloc (Nat.le_refl _) _) (owSLit0 w _ (Nat.le_refl _)) hg1 (by simp)
    rw [Nat.zero_add, List.nil_append] at ho1
    go_ret
    refine ⟨A1, c1, ?_, ho1, hb1⟩
    first | rfl | simp

set_option maxRecDepth 100000 in
set_option maxHeartbeats 1000000 in
theorem list_any (g : Nat) (X M : Option Nat) (l : List ByteArray) (w : World) (h : ST w g X M l) (hl : l.length ≤ 1000000) :
    Calls Try.prog 17 #[.pointer (some ⟨g, 0, none⟩)] w fun e w' => ∃ A' c', e = .returned (.slice A' l.length c') ∧ OwS w' w.heap.size A' c' l.length l ∧ Below w.heap.size w w' := by
  obtain ⟨A, c, hb, ho, hM, hX, hg, hXM⟩ := id h
  have cg := hb.cell 0
  rw [show [Value.slice A l.length c, .map M][0]? = some (Value.slice A l.length c) from rfl] at cg
  have hr : Rd w w.heap.size 1 A l.length (l.map sv) := Rd.ofOwn ho
  have HR := Lib.hid hr
  clear hb ho hM hX hg hXM h hr
  go_enter Try.func17, Try.ntmps17
  repeat go_step
  refine (clone_any A l.length c w.heap.size l w HR.out (Nat.le_refl _) hl).mono ?_
  rintro e w1 ⟨A1, c1, rfl, ho1, hb1⟩
  dsimp only
  repeat go_step
  go_ret
  exact ⟨A1, c1, rfl, ho1, hb1⟩

/-! ### A table, in words that hide its fields -/
/-- The program's table at block g holds the names l; F: the blocks that it is made of. -/
def Tb (w : World) (g : Nat) (F : Nat → Prop) (l : List ByteArray) : Prop := ∃ X M, ST w g X M l ∧ F = Fp2 g X M
theorem Tb.turn {G F : Nat → Prop} {w w' : World} {g : Nat} {l : List ByteArray} (h : Tb w g F l) (ht : Turn G w w') (hn : ∀ k, F k → ¬ G k) : Tb w' g F l := by
  obtain ⟨X, M, h1, rfl⟩ := h
  exact ⟨X, M, h1.turn ht hn, rfl⟩
theorem Tb.lt {F : Nat → Prop} {w : World} {g : Nat} {l : List ByteArray} (h : Tb w g F l) : ∀ k, F k → k < w.heap.size := by
  obtain ⟨X, M, h1, rfl⟩ := h
  exact h1.lt
theorem Tb.later {F : Nat → Prop} {w w' : World} {g : Nat} {l : List ByteArray} (h : Tb w g F l) (hb : Below w.heap.size w w') : Tb w' g F l :=
  h.turn (Turn.ofBelow (G := fun _ => False) hb) (fun _ _ h => h)
theorem tNew (w : World) : Calls Try.prog 12 #[] w fun e w' => ∃ g F, e = .returned (.pointer (some ⟨g, 0, none⟩)) ∧ Tb w' g F [] ∧ (∀ k, F k → w.heap.size ≤ k) ∧ Below w.heap.size w w' := by
  refine (new_tab w).mono ?_
  rintro e w' ⟨g, rfl, hg, h, hb⟩
  refine ⟨g, _, rfl, ⟨none, none, h, rfl⟩, ?_, hb⟩
  rintro k (rfl | hk | hk)
  · exact hg
  · cases hk
  · cases hk
theorem tPut (g : Nat) (F : Nat → Prop) (l : List ByteArray) (s : ByteArray) (w : World) (h : Tb w g F l) (hl : l.length ≤ 1000000) (hs : s.size ≤ 1099511627776)
    (hmay : ∀ W : World, Calls Try.prog 15 #[sv s] W fun e w' => e = .returned (.bool (mayB s)) ∧ W = w') :
    Calls Try.prog 13 #[.pointer (some ⟨g, 0, none⟩), sv s] w fun e w' => e = .returned (.tuple #[.int .u32 ((putL l s).2.1 : Int), .int .i64 ((putL l s).2.2 : Int)]) ∧
      ∃ F', Tb w' g F' (putL l s).1 ∧ Turn F w w' ∧ ∀ k, F' k → F k ∨ w.heap.size ≤ k := by
  obtain ⟨X, M, h1, rfl⟩ := h
  refine (put_any g X M l s w h1 hl hs hmay).mono ?_
  rintro e w' ⟨rfl, X', M', h2, h3, h4, h5⟩
  refine ⟨rfl, _, ⟨X', M', h2, rfl⟩, h3, ?_⟩
  rintro k (rfl | hk | hk)
  · exact .inl (.inl rfl)
  · rcases h4 k hk with h | h
    · exact .inl (.inr (.inl h))
    · exact .inr h
  · rcases h5 k hk with h | h
    · exact .inl (.inr (.inr h))
    · exact .inr h
theorem tFind (g : Nat) (F : Nat → Prop) (l : List ByteArray) (s : ByteArray) (w : World) (h : Tb w g F l) (hs : s.size ≤ maxLen) :
    Calls Try.prog 19 #[.pointer (some ⟨g, 0, none⟩), sv s] w fun e w' => e = .returned (.tuple #[.int .u32 (((findO l s).getD 0 : Nat) : Int), .bool (findO l s).isSome]) ∧ w = w' := by
  obtain ⟨X, M, h1, rfl⟩ := h
  exact find_any g X M l s w h1 hs
theorem tName (g : Nat) (F : Nat → Prop) (l : List ByteArray) (n : Nat) (w : World) (h : Tb w g F l) (hn : n < 4294967296) :
    Calls Try.prog 20 #[.pointer (some ⟨g, 0, none⟩), .int .u32 (n : Int)] w fun e w' => e = .returned (.tuple #[sv (l.getD n ⟨#[]⟩), .bool (decide (n < l.length))]) ∧ w = w' := by
  obtain ⟨X, M, h1, rfl⟩ := h
  exact name_any g X M l n w h1 hn
theorem tLen (g : Nat) (F : Nat → Prop) (l : List ByteArray) (w : World) (h : Tb w g F l) :
    Calls Try.prog 22 #[.pointer (some ⟨g, 0, none⟩)] w fun e w' => e = .returned (.int .i64 (l.length : Int)) ∧ w = w' := by
  obtain ⟨X, M, h1, rfl⟩ := h
  exact len_any g X M l w h1
theorem tList (g : Nat) (F : Nat → Prop) (l : List ByteArray) (w : World) (h : Tb w g F l) (hl : l.length ≤ 1000000) :
    Calls Try.prog 17 #[.pointer (some ⟨g, 0, none⟩)] w fun e w' => ∃ A' c', e = .returned (.slice A' l.length c') ∧ OwS w' w.heap.size A' c' l.length l ∧ Below w.heap.size w w' := by
  obtain ⟨X, M, h1, rfl⟩ := h
  exact list_any g X M l w h1 hl
end Go.Proofs.Ytaejidchoaejkaa
