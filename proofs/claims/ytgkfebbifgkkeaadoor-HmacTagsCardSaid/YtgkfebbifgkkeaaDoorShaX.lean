/- Layer 2 (sha): byte strings, one behind the other; in new memory. -/
import Derived.Test.YtgkfebbifgkkeaaDoorShaW
set_option linter.unusedVariables false
set_option linter.unusedSimpArgs false
namespace Go.Proofs.YtgkfebbifgkkeaaDoor
open Go Go.RowKit

set_option maxRecDepth 100000 in
set_option maxHeartbeats 1000000 in
theorem join_any (A : Option Addr) (n c : Nat) (R : List RowA) (sl : List (List UInt8)) (w : World) (hr : Rws w w.heap.size A n R sl) (hbd : sl.flatten.length ≤ 1099511627776) (hn : n ≤ 1099511627776) :
    Calls Tryd.prog 8 #[.slice A n c] w fun e w' => ∃ A' m c', e = .returned (.slice A' m c') ∧ Ow w' w.heap.size A' c' m sl.flatten ∧ Below w.heap.size w w' := by
  have HR := Lib.hid hr
  have HSL := Lib.hid hr.lenS
  clear hr
  go_enter Tryd.func8, Tryd.ntmps8
  go_wp2_with fail
  go_loopw [3, 4] (fun q p wr => ∃ (i m : Nat) (Ao : Option Addr) (co : Nat), i ≤ n ∧ p = .int .i64 (i : Int) ∧ q = .slice Ao m co ∧ Ow wr w.heap.size Ao co m (sl.take i).flatten ∧ Below w.heap.size w wr)
    (fun _ p _ => n - (intOf p).toNat)
  case atStart => exact ⟨0, 0, none, 0, by omega, rfl, rfl, owNil _ _, Below.refl _ _⟩
  case round =>
    obtain ⟨i, m, Ao, co, hi, rfl, rfl, ho, hbw⟩ := hrel
    by_cases hlt : i < n
    · have hci : (i : Int) < (n : Int) := by omega
      obtain ⟨b, o, Ai, ni, ci, l, hA, hb, hc, hl, hri, hnc⟩ := (HR.out.below hbw).at_ hlt
      subst hA
      have hfl := flat_step sl i l hl
      have hle := flat_le sl (i + 1)
      have hll : l.length = ni := by simpa using hri.len1
      have hm := ho.len
      have hbd2 : m + ni ≤ 1099511627776 := by
        rw [hfl, List.length_append] at hle
        omega
      have HFL := Lib.hid hfl
      clear hl hle hll hfl hm
      go_wp2_with (at_builtin; refine app8 _ rfl _ _ rfl w.heap.size Ao co m _ rfl ho w.heap.size Ai ni ci l rfl hri (by omega) hbw.size ?_; intro A4 c4 w4 ho4 hb4 _)
      go_roundw
      case rel => exact ⟨i + 1, m + ni, A4, c4, by omega, by go_num, rfl, by rw [HFL.out]; exact ho4, hbw.trans hb4⟩
      case measure => simp [intOf]; omega
    · obtain rfl : i = n := by omega
      rw [List.take_of_length_le (by have := HSL.out; omega)] at ho
      go_wp2
      go_ret
      exact ⟨Ao, m, co, rfl, ho, hbw⟩

theorem Rws.more {w : World} {B B' n : Nat} {A : Option Addr} {R : List RowA} {sl : List (List UInt8)} (h : Rws w B A n R sl) (hB : B ≤ B') : Rws w B' A n R sl :=
  ⟨h.lenR, h.lenS, h.top.more hB, fun i r l h1 h2 => ⟨(h.row i r l h1 h2).1.more hB, (h.row i r l h1 h2).2⟩⟩
/-- A row of byte strings that is being made: this row lies in another block than k. -/
def RowN (w : World) (k : Option Nat) (r : RowA) (l : List UInt8) : Prop :=
  Rd w w.heap.size 1 r.1 r.2.1 (l.map bv) ∧ r.2.1 ≤ r.2.2 ∧ (0 < r.2.1 → ∀ b o, r.1 = some ⟨b, o, none⟩ → some b ≠ k)
theorem RowN.below {w w' : World} {k : Option Nat} {r : RowA} {l : List UInt8} (h : RowN w k r l) (hb : Below w.heap.size w w') : RowN w' k r l :=
  ⟨(h.1.below hb).more hb.size, h.2⟩
theorem RowN.grown {w w' : World} {k k' : Option Nat} {r : RowA} {l : List UInt8} (h : RowN w k r l) (hg : w.grownBy w' k) (hk : k' = k ∨ k' = some w.heap.size) : RowN w' k' r l := by
  obtain ⟨h1, h2, h3⟩ := h
  refine ⟨⟨h1.1, fun hn => ?_⟩, h2, fun hn b o e => ?_⟩
  · obtain ⟨b, o, e, hb, hc⟩ := h1.2 hn
    refine ⟨b, o, e, Nat.lt_of_lt_of_le hb hg.size, fun j u hu => ?_⟩
    rw [World.cell?_of_block (hg.block b hb (h3 hn b o e))]
    exact hc j u hu
  · rcases hk with rfl | rfl
    · exact h3 hn b o e
    · obtain ⟨b', o', e', hb, hc⟩ := h1.2 hn
      rw [e] at e'
      cases e'
      intro hh
      cases hh
      omega
theorem RowN.new {w : World} {base n c : Nat} {A : Option Addr} {l : List UInt8} {k : Option Nat} (h : Ow w base A c n l) (hk : ∀ b, k = some b → b < base) : RowN w k (A, n, c) l :=
  ⟨h.rd, h.le, fun hn b o e hh => by
    have := World.ownsRow.lt h b (by simp only at e; rw [e]; rfl)
    have := hk b hh.symm
    omega⟩
end Go.Proofs.YtgkfebbifgkkeaaDoor
