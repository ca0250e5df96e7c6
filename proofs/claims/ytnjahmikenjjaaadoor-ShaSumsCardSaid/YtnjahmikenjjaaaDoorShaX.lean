/- Layer 2 (sha): byte strings, one behind the other; in new memory. -/
import Derived.Test.YtnjahmikenjjaaaDoorShaW
set_option linter.unusedVariables false
set_option linter.unusedSimpArgs false
namespace Go.Proofs.YtnjahmikenjjaaaDoor
open Go Go.RowKit

set_option maxRecDepth 100000 in
set_option maxHeartbeats 1000000 in
theorem join_any (A : Option Addr) (n c : Nat) (R : List RowA) (sl : List (List UInt8)) (w : World) (hr : Rws w w.heap.size A n R sl) (hbd : sl.flatten.length ≤ 1099511627776) (hn : n ≤ 1099511627776) :
    Calls Tryd.prog 12 #[.slice A n c] w fun e w' => ∃ A' m c', e = .returned (.slice A' m c') ∧ Ow w' w.heap.size A' c' m sl.flatten ∧ Below w.heap.size w w' := by
  have HR := Lib.hid hr
  have HSL := Lib.hid hr.lenS
  clear hr
  go_enter Tryd.func12, Tryd.ntmps12
  go_wp2_with fail
  go_loopw [3, 4] (fun q p wr => ∃ (i m : Nat) (Ao : Option Addr) (co : Nat), i ≤ n ∧ p = .int .i64 (i : Int) ∧ q = .slice Ao m co ∧ Ow wr w.heap.size Ao co m (sl.take i).flatten ∧ Below w.heap.size w wr)
    (fun _ p _ => n - (intOf p).toNat)
  case atStart => exact ⟨0, 0, none, 0, by omega, rfl, rfl, owNil _ _, Below.refl _ _⟩
  case round =>
    obtain ⟨i, m, Ao, co, hi, rfl, rfl, ho, hbw⟩ := hrel
    by_cases hlt : i < n
    · have hci : (i : Int) < (n : Int) := by omega
      obtain ⟨b, o, Ai, ni, ci, l, hA, hb, hc, hl, hri, hnc⟩ := (HR.out.below hbw).at_ hlt
      subst hA
      have hfl := flat_step sl i l hl
      have hle := flat_le sl (i + 1)
      have hll : l.length = ni := by simpa using hri.len1
      have hm := ho.len
      have hbd2 : m + ni ≤ 1099511627776 := by
        rw [hfl, List.length_append] at hle
        omega
      have HFL := Lib.hid hfl
      clear hl hle hll hfl hm
      go_wp2_with (at_builtin; refine app8 _ rfl _ _ rfl w.heap.size Ao co m _ rfl ho w.heap.size Ai ni ci l rfl hri (by omega) hbw.size ?_; intro A4 c4 w4 ho4 hb4 _)
      go_roundw
      case rel => exact ⟨i + 1, m + ni, A4, c4, by omega, by go_num, rfl, by rw [HFL.out]; exact ho4, hbw.trans hb4⟩
      case measure => simp [intOf]; omega
    · obtain rfl : i = n := by omega
      rw [List.take_of_length_le (by have := HSL.out; omega)] at ho
      go_wp2
      go_ret
      exact ⟨Ao, m, co, rfl, ho, hbw⟩

theorem Rws.more {w : World} {B B' n : Nat} {A : Option Addr} {R : List RowA} {sl : List (List UInt8)} (h : Rws w B A n R sl) (hB : B ≤ B') : Rws w B' A n R sl :=
  ⟨h.lenR, h.lenS, h.top.more hB, fun i r l h1 h2 => ⟨(h.row i r l h1 h2).1.more hB, (h.row i r l h1 h2).2⟩⟩
/-- A row of byte strings that is being made: this row lies in another block than k. -/
def RowN (w : World) (k : Option Nat) (r : RowA) (l : List UInt8) : Prop :=
  Rd w w.heap.size 1 r.1 r.2.1 (l.map bv) ∧ r.2.1 ≤ r.2.2 ∧ (0 < r.2.1 → ∀ b o, r.1 = some ⟨b, o, none⟩ → some b ≠ k)
theorem RowN.below {w w' : World} {k : Option Nat} {r : RowA} {l : List UInt8} (h : RowN w k r l) (hb : Below w.heap.size w w') : RowN w' k r l :=
  ⟨(h.1.below hb).more hb.size, h.2⟩
theorem RowN.grown {w w' : World} {k k' : Option Nat} {r : RowA} {l : List UInt8} (h : RowN w k r l) (hg : w.grownBy w' k) (hk : k' = k ∨ k' = some w.heap.size) : RowN w' k' r l := by
  obtain ⟨h1, h2, h3⟩ := h
  refine ⟨⟨h1.1, fun hn => ?_⟩, h2, fun hn b o e => ?_⟩
  · obtain ⟨b, o, e, hb, hc⟩ := h1.2 hn
    refine ⟨b, o, e, Nat.lt_of_lt_of_le hb hg.size, fun j u hu => ?_⟩
    rw [World.cell?_of_block (hg.block b hb (h3 hn b o e))]
    exact hc j u hu
  · rcases hk with rfl | rfl
    · exact h3 hn b o e
    · obtain ⟨b', o', e', hb, hc⟩ := h1.2 hn
      rw [e] at e'
      cases e'
      intro hh
      cases hh
      omega
theorem RowN.new {w : World} {base n c : Nat} {A : Option Addr} {l : List UInt8} {k : Option Nat} (h : Ow w base A c n l) (hk : ∀ b, k = some b → b < base) : RowN w k (A, n, c) l :=
  ⟨h.rd, h.le, fun hn b o e hh => by
    have := World.ownsRow.lt h b (by simp only at e; rw [e]; rfl)
    have := hk b hh.symm
    omega⟩
theorem slinfo : (Tryd.prog.info? 30).map (fun i => (i.zero, i.size, i.bytes)) = some (some (.slice none 0 0), 1, 24) := by kernel_rfl

set_option maxRecDepth 100000 in
set_option maxHeartbeats 1000000 in
theorem copies_any (A : Option Addr) (n c : Nat) (R : List RowA) (sl : List (List UInt8)) (w : World) (hr : Rws w w.heap.size A n R sl) (hbd : sl.flatten.length ≤ 1099511627776) (hn : n ≤ 200) :
    Calls Tryd.prog 9 #[.slice A n c] w fun e w' => ∃ A' c' R', e = .returned (.slice A' n c') ∧ Rws w' w'.heap.size A' n R' sl ∧ n ≤ c' ∧ Below w.heap.size w w' := by
  have HR := Lib.hid hr
  have HSL := Lib.hid hr.lenS
  have HFB := Lib.hid hbd
  obtain ⟨i0, hi0, hz0, hz1, hz2⟩ := info_parts slinfo
  clear hr hbd
  go_enter Tryd.func9, Tryd.ntmps9
  go_wp2_with fail
  go_loopw [3, 4] (fun q p wr => ∃ (i : Nat) (Ao : Option Addr) (co : Nat) (Ro : List RowA), i ≤ n ∧ p = .int .i64 (i : Int) ∧ q = .slice Ao i co ∧ wr.ownsRow w.heap.size 30 1 (.slice Ao i co) i (Ro.map RowA.val) ∧
      (∀ (j : Nat) (r : RowA) (l : List UInt8), Ro[j]? = some r → sl[j]? = some l → RowN wr (Value.slice Ao i co).ownBlock r l) ∧ Below w.heap.size w wr)
    (fun _ p _ => n - (intOf p).toNat)
  case atStart => exact ⟨0, none, 0, [], by omega, rfl, rfl, World.ownsRow_nil _ _ _ _, fun j r l h => by simp at h, Below.refl _ _⟩
  case round =>
    obtain ⟨i, Ao, co, Ro, hi, rfl, rfl, ho, hrows, hbw⟩ := hrel
    have HROW := Lib.hid hrows
    clear hrows
    have hlen : Ro.length = i := by simpa using ho.1
    by_cases hlt : i < n
    · have hci : (i : Int) < (n : Int) := by omega
      obtain ⟨b, o, Ai, ni, ci, l, hA, hb, hc, hl, hri, hnc⟩ := (HR.out.below hbw).at_ hlt
      subst hA
      have hfl := flat_step sl i l hl
      have hle := flat_le sl (i + 1)
      have hll : l.length = ni := by simpa using hri.len1
      have hbd2 : ni ≤ 1099511627776 := by
        have := HFB.out
        rw [hfl, List.length_append] at hle
        omega
      have HLL := Lib.hid hl
      have HLEN := Lib.hid hlen
      clear hfl hle hll hl hlen
      have HOW := Lib.hid ho
      clear ho
      have hbs := hbw.size
      have hc2 : (wr.alloc (.cells #[] 5)).cell? ⟨b, o + i, none⟩ = some (.slice Ai ni ci) := (((Below.refl wr.heap.size wr).alloc (Nat.le_refl _) (.cells #[] 5)).cell (p := ⟨b, o + i, none⟩) (by show b < _; omega)).trans hc
      have hlk := World.ownsRow.lt HOW.out
      have HLK := Lib.hid hlk
      clear hlk
      go_wp2_with (first
        | (at_builtin; refine app8 _ rfl (.tmp 12) (.tmp 16) rfl wr.heap.size _ _ 0 [] rfl (owLit0 wr _ (Nat.le_refl _)) w.heap.size Ai ni ci l rfl (hri.below ((Below.refl w.heap.size wr).alloc hbs _)) (by omega) (by simp) ?_; intro A1 c1 w1 ho1 hb1 _; rw [Nat.zero_add, List.nil_append] at ho1)
        | (have hbw1 : Below w.heap.size w w1 := (hbw.alloc hbs _).trans (hb1.mono hbs)
           have hbx : Below wr.heap.size wr w1 := ((Below.refl wr.heap.size wr).alloc (Nat.le_refl _) (.cells #[] 5)).trans hb1
           have hown1 : w1.ownsRow w.heap.size 30 1 (.slice Ao i co) i (Ro.map RowA.val) := ownBelow HOW.out hbx (Nat.le_refl _)
           at_builtin; refine wpList_app _ rfl (.tmp 11) (.tmp 18) 22 rfl w.heap.size 30 i0 _ 1 24 Tryd.underlying22 hi0 hz0 hz1 hz2 rfl (by decide) _ i _ rfl (World.ownsRow.alloc hown1 _) (w1.heap.size + 1) (some ⟨w1.heap.size, 0, none⟩) 1 1 [RowA.val (A1, ni, c1)] rfl (rdNew 30 [.slice A1 ni c1] (0, 0) rfl _ (by omega)) (by intro u hu; simp at hu; subst hu; rfl) (by simp only [maxLen]; omega) (by omega) (by have := hbw1.size; simp; omega) ?_; intro A2 c2 w2 ho2 hg2 hk2))
      go_roundw
      case rel =>
        refine ⟨i + 1, A2, c2, Ro ++ [(A1, ni, c1)], by omega, by go_num, rfl, by rw [List.map_append]; exact ho2, fun j r l' h1 h2 => ?_, belowApp (hbw1.alloc hbw1.size _) (World.ownsRow.alloc hown1 _) hg2 (by have := hbw1.size; simp; omega)⟩
        have hbase : RowN w1 (Value.slice Ao i co).ownBlock r l' := by
          by_cases hj : j < i
          · rw [List.getElem?_append_left (by rw [HLEN.out]; exact hj)] at h1
            exact (HROW.out j r l' h1 h2).below hbx
          · have hj2 : j < (Ro ++ [(A1, ni, c1)]).length := (List.getElem?_eq_some_iff.1 h1).1
            rw [List.length_append, HLEN.out] at hj2
            obtain rfl : j = i := by simp at hj2; omega
            rw [List.getElem?_append_right (by rw [HLEN.out]; omega), HLEN.out, Nat.sub_self] at h1
            rw [HLL.out] at h2
            cases h1
            cases h2
            exact RowN.new ho1 (fun b hb => (HLK.out b hb).2)
        exact (hbase.below ((Below.refl _ _).alloc (Nat.le_refl _) _)).grown hg2 hk2
      case measure => simp [intOf]; omega
    · obtain rfl : i = n := by omega
      go_wp2
      go_ret
      obtain ⟨A', c', e', hle⟩ := ownForm ho
      simp only [Value.slice.injEq] at e'
      exact ⟨Ao, co, Ro, rfl, ⟨hlen, HSL.out, Rd.ofOwn ho, fun j r l h1 h2 => ⟨(HROW.out j r l h1 h2).1, (HROW.out j r l h1 h2).2.1⟩⟩, by omega, hbw⟩
end Go.Proofs.YtnjahmikenjjaaaDoor
