/- Layer 11 (safe), the landed program: rows of numbers of one's own. (Picked from AtF, AtQ by pick.py.) -/
import Derived.Test.YtggnhgfickkgdaaSaT
import Derived.Test.YtggnhgfickkgdaaSbG
import Derived.Test.YtggnhgfickkgdaaSbQ
import Derived.Test.YtggnhgfickkgdaaSfS
import Derived.Great.BuildSlice
import Derived.WalkKit
set_option linter.unusedVariables false
set_option linter.unusedSimpArgs false
namespace Go.Proofs.Ytggnhgfickkgdaa
open Go Go.RowKit

theorem u32Info : (Try.prog.info? 30).map (fun i => (i.zero, i.size, i.bytes)) = some (some (.int .u32 0), 1, 4) := by kernel_rfl
abbrev OwU (w : World) (base : Nat) (A : Option Addr) (c n : Nat) (l : List UInt32) : Prop := w.ownsRow base 30 1 (.slice A n c) n (l.map nv)
section
variable {w w' : World} {base : Nat} {A : Option Addr} {c n : Nat}
theorem OwU.rd {l : List UInt32} (h : OwU w base A c n l) : RdU w w.heap.size A n l := Rd.ofOwn h
theorem OwU.cap {l : List UInt32} (h : OwU w base A c n l) : n ≤ c := by
  obtain ⟨A1, c1, hv, hl⟩ := ownForm h
  cases hv
  exact hl
end
/-- 'out = append(out, x...)' over numbers. -/
theorem wp_appU {o : Oper} {a : Act} {K : Act → World → Prop} {Q : Exit → Act → World → Prop} (w : World) (p x : Operand)
    (ho : o.op = .call { callee := .builtin .append, args := #[p, x], argTypes := #[41, 41] })
    (base : Nat) (A0 : Option Addr) (c0 n : Nat) (l : List UInt32) (hv : a.eval p = .slice A0 n c0) (hown : OwU w base A0 c0 n l)
    (B : Nat) (A : Option Addr) (m c : Nat) (news : List UInt32) (hx : a.eval x = .slice A m c) (hr : RdU w B A m news) (hb : n + m ≤ 1000000000) (hbase : base ≤ w.heap.size)
    (h : ∀ A' c' w', OwU w' base A' c' (n + m) (l ++ news) → Below base w w' → K (a.put o.dst (.slice A' (n + m) c')) w') : o.wp Try.prog a w K Q := by
  obtain ⟨i0, hi, hz0, hz1, hz2⟩ := info_parts u32Info
  refine wp_app w p x 41 ho base 30 i0 _ 1 4 Try.underlying41 hi hz0 hz1 hz2 rfl (by decide) _ n _ hv hown B A m c _ hx hr (nv_one news) (by simp only [maxLen]; omega) (by omega) hbase ?_
  intro A' c' w' h1 h2 h3
  refine h A' c' w' ?_ (belowApp (Below.refl _ _) hown h2 hbase)
  show World.ownsRow _ _ _ _ _ _ _
  rw [List.map_append]
  exact h1
theorem appU {ops : Array Oper} {rest : List Oper} {o : Oper} {a : Act} {Q : Exit → Act → World → Prop} (w : World) (hgd : o.guard = none) (p x : Operand)
    (ho : o.op = .call { callee := .builtin .append, args := #[p, x], argTypes := #[41, 41] })
    (base : Nat) (A0 : Option Addr) (c0 n : Nat) (l : List UInt32) (hv : a.eval p = .slice A0 n c0) (hown : OwU w base A0 c0 n l)
    (B : Nat) (A : Option Addr) (m c : Nat) (news : List UInt32) (hx : a.eval x = .slice A m c) (hr : RdU w B A m news) (hb : n + m ≤ 1000000000) (hbase : base ≤ w.heap.size)
    (h : ∀ A' c' w', OwU w' base A' c' (n + m) (l ++ news) → Below base w w' → wpList Try.prog ops Q rest (a.put o.dst (.slice A' (n + m) c')) w') : wpList Try.prog ops Q (o :: rest) a w :=
  wpList_plain hgd fun _ hK => wp_appU w p x ho base A0 c0 n l hv hown B A m c news hx hr hb hbase fun A' c' w' h1 h2 => hK _ _ (h A' c' w' h1 h2)
/-- A row of one's own, as a block: its cells, and what lies behind them. -/
theorem OwU.block {w : World} {base : Nat} {A : Option Addr} {c n : Nat} {l : List UInt32} (h : OwU w base A c n l) (hn : 0 < n) :
    ∃ g rest, A = some ⟨g, 0, none⟩ ∧ base ≤ g ∧ n ≤ c ∧ c ≤ maxLen ∧ rest.length = c - n ∧ Bk w g 30 (l.map nv ++ rest) := by
  have hl := rdU_len h.rd
  rcases h.2 with ⟨_, h0⟩ | ⟨g, cap, cur, hv, hb, hg, h1, h2, h3, h4⟩
  · omega
  · cases hv
    refine ⟨g, cur.toList.drop n, rfl, hb, h1, h2, by simp; omega, ?_⟩
    rw [Nat.mul_one] at h4
    unfold Bk
    rw [← h4, List.take_append_drop]
    exact hg
theorem OwU.ofBlock {w : World} {base g c n : Nat} {l : List UInt32} {rest : List Value} (hb : base ≤ g) (hl : l.length = n) (hr : rest.length = c - n) (hn : n ≤ c) (hc : c ≤ maxLen) (h : Bk w g 30 (l.map nv ++ rest)) : OwU w base (some ⟨g, 0, none⟩) c n l := by
  refine ⟨by simp [hl], .inr ⟨g, c, _, rfl, hb, h, hn, hc, by simp; omega, ?_⟩⟩
  rw [Nat.mul_one, List.toList_toArray, List.take_append_of_le_length (by simp; omega), List.take_of_length_le (by simp; omega)]
theorem OwT.block {w : World} {base : Nat} {A : Option Addr} {c n : Nat} {l : List Tm} (h : OwT w base A c n l) (hn : 0 < n) :
    ∃ g rest, A = some ⟨g, 0, none⟩ ∧ base ≤ g ∧ n ≤ c ∧ c ≤ maxLen ∧ rest.length = c * 2 - n * 2 ∧ Bk w g 48 (tmCs l ++ rest) := by
  have hl := rdT_len h.rd
  rcases h.2 with ⟨_, h0⟩ | ⟨g, cap, cur, hv, hb, hg, h1, h2, h3, h4⟩
  · omega
  · cases hv
    refine ⟨g, cur.toList.drop (n * 2), rfl, hb, h1, h2, by simp; omega, ?_⟩
    unfold Bk
    rw [← h4, List.take_append_drop]
    exact hg
theorem OwT.ofBlock {w : World} {base g c n : Nat} {l : List Tm} {rest : List Value} (hb : base ≤ g) (hl : l.length = n) (hr : rest.length = c * 2 - n * 2) (hn : n ≤ c) (hc : c ≤ maxLen) (h : Bk w g 48 (tmCs l ++ rest)) : OwT w base (some ⟨g, 0, none⟩) c n l := by
  have h2 := tmCs_len l
  refine ⟨by omega, .inr ⟨g, c, _, rfl, hb, h, hn, hc, by simp; omega, ?_⟩⟩
  rw [List.toList_toArray, List.take_append_of_le_length (by omega), List.take_of_length_le (by omega)]
end Go.Proofs.Ytggnhgfickkgdaa
