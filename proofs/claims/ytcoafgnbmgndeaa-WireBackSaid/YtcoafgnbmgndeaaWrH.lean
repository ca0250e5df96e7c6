/- Layer 6 (wire), the document's: MayFact; bytes of a say. -/
import Derived.Test.YtcoafgnbmgndeaaWrG
set_option linter.unusedVariables false
set_option linter.unusedSimpArgs false
namespace Go.Proofs.Ytcoafgnbmgndeaa
open Go Go.RowKit

set_option maxRecDepth 100000 in
set_option maxHeartbeats 1000000 in
theorem rMayFact_any (p : UInt32) (A : Option Addr) (n c : Nat) (l : List UInt32) (w : World) (hl : l.length = n) :
    Calls Try.prog 13 #[.agg #[nv p, .slice A n c]] w fun e w' => e = .returned (.bool (mayF (p, l))) ∧ Below w.heap.size w w' := by
  have e0 : decide ((n : Int) ≤ 6) = mayF (p, l) := by
    unfold mayF
    rw [hl, Bool.eq_iff_iff, decide_eq_true_iff, decide_eq_true_iff]
    omega
  go_enter Try.func13, Try.ntmps13
  repeat (first | go_skip | go_guarded | go_step)
  go_ret
  exact ⟨rfl, (Below.refl _ _).alloc (Nat.le_refl _) _⟩
theorem bitB_bv (b : Bool) : (bitB b).map bv = [.int .u8 (bitN b : Int)] := by cases b <;> rfl

set_option maxRecDepth 100000 in
set_option maxHeartbeats 4000000 in
theorem rSayB_any (b : Bool) (x : Tm) (p : UInt32) (A : Option Addr) (n c : Nat) (l : List Tm) (w : World) (h : RdT w w.heap.size A n l) (hn : n ≤ 1000000) :
    Calls Try.prog 58 #[.agg #[.bool b, .bool x.1, nv x.2, nv p, .slice A n c]] w fun e w' => ∃ A' m c', e = .returned (.slice A' m c') ∧ Ow w' w.heap.size A' c' m (sayB (b, x, (p, l))) ∧ Below w.heap.size w w' := by
  obtain ⟨U, hU, hH, hbU⟩ : ∃ U, U = w.alloc (.cells #[.bool b, .bool x.1, nv x.2, nv p, .slice A n c] 56) ∧ Bk U w.heap.size 56 [.bool b, .bool x.1, nv x.2, nv p, .slice A n c] ∧ Below w.heap.size w U :=
    ⟨_, rfl, Bk.new w _ _, (Below.refl _ _).alloc (Nat.le_refl _) _⟩
  have HU := Lib.hid hU
  have HH := Lib.hid hH
  have HB := Lib.hid hbU
  have HR := Lib.hid (h.below hbU)
  have hl : l.length = n := rdT_len h
  have HL := Lib.hid hl
  have k0 := hH.readT (Below.refl _ _) 0 rfl
  clear hU hH hbU h hl
  go_enter Try.func58, Try.ntmps58
  go_upto_region 1 with (fail)
  rw [← HU.out]
  clear HU
  generalize hhb : w.heap.size = hb at HH HR HB k0 ⊢
  rw [← hhb] at HB
  have hbu := HH.out.lt
  repeat (first | go_skip | go_guarded | go_step)
  refine (rBit_any b U).mono ?_
  rintro e w1 ⟨rfl, rfl⟩
  clear k0
  dsimp only
  go_upto_region 2 with (fail)
  obtain ⟨W1, hW1, ho1, hb1⟩ : ∃ W1, W1 = U.alloc (.cells #[.int .u8 (bitN b : Int)] 5) ∧ Ow W1 U.heap.size (some ⟨U.heap.size, 0, none⟩) 1 1 (bitB b) ∧ Below U.heap.size U W1 :=
    ⟨_, rfl, by unfold Ow; rw [bitB_bv]; exact World.ownsRow_lit (base := U.heap.size) U #[.int .u8 (bitN b : Int)] 1 (Nat.le_refl _) (by simp [maxLen]) (by simp), (Below.refl _ _).alloc (Nat.le_refl _) _⟩
  try rw [← hW1]
  clear hW1
  have k0 := HH.out.readT hb1 0 rfl
  have k1 := HH.out.readT hb1 1 rfl
  have k2 := HH.out.readT hb1 2 rfl
  have k3 := HH.out.readT hb1 3 rfl
  have k4 := HH.out.readT hb1 4 rfl
  have HO1 := Lib.hid ho1
  have HB1 := Lib.hid hb1
  clear ho1 hb1
  cases b with
  | false =>
    repeat (first | go_skip | go_guarded | go_step)
    refine (rAtomB_any p A n c l W1 ((HR.out.below (HB1.out.mono (Nat.le_of_lt hbu))).more (Nat.le_trans (Nat.le_of_lt hbu) HB1.out.size)) hn).mono ?_
    rintro e V5 ⟨A5, m5, c5, rfl, ho5, hb5⟩
    have HR5 := Lib.hid (Ow.rd ho5)
    have hm5 : m5 ≤ 6000000 := by have h2 := Ow.len ho5; have h3 := (show (atomB (p, l)).length ≤ 6000000 from by have := HL.out; have h1 := u32B_len p; have h2 := flat_len termB 5 l (fun y _ => (termB_len y).2); show (atomB (p, l)).length ≤ 6000000; unfold atomB rowB; simp only [List.length_append, List.length_cons]; omega); omega
    have hsz5 := Nat.le_trans HB1.out.size hb5.size
    have HO5 := Lib.hid (ownBelow HO1.out hb5 (Nat.le_refl _))
    have HB5 := Lib.hid (HB1.out.trans (hb5.mono HB1.out.size))
    clear ho5 hb5
    dsimp only
    repeat (first
      | (at_builtin; refine app8h _ rfl (.tmp 15) (.tmp 18) rfl U.heap.size (some ⟨U.heap.size, 0, none⟩) 1 1 _ rfl HO5.out _ A5 m5 c5 (atomB (p, l)) rfl HR5.out (by omega) hsz5 ?_
         intro A6 c6 V6 ho6 hb6
         have HO6 := Lib.hid ho6
         have HB6 := Lib.hid (HB5.out.trans hb6)
         clear ho6 hb6)
      | go_skip | go_guarded | go_step)
    go_ret
    refine ⟨A6, 1 + m5, c6, rfl, ?_, HB.out.trans (HB6.out.mono HB.out.size)⟩
    have h := ownLower HO6.out (show hb ≤ U.heap.size by omega)
    rw [hhb]
    exact h
  | true =>
    repeat (first | go_skip | go_guarded | go_step)
    refine (rTermB_any x W1).mono ?_
    rintro e V5 ⟨A5, m5, c5, rfl, ho5, hb5⟩
    have HR5 := Lib.hid (Ow.rd ho5)
    have hm5 : m5 ≤ 5 := by have h2 := Ow.len ho5; have h3 := (termB_len x).2; omega
    have hsz5 := Nat.le_trans HB1.out.size hb5.size
    have HO5 := Lib.hid (ownBelow HO1.out hb5 (Nat.le_refl _))
    have HB5 := Lib.hid (HB1.out.trans (hb5.mono HB1.out.size))
    clear ho5 hb5
    dsimp only
    repeat (first
      | (at_builtin; refine app8h _ rfl (.tmp 10) (.tmp 13) rfl U.heap.size (some ⟨U.heap.size, 0, none⟩) 1 1 _ rfl HO5.out _ A5 m5 c5 (termB x) rfl HR5.out (by omega) hsz5 ?_
         intro A6 c6 V6 ho6 hb6
         have HO6 := Lib.hid ho6
         have HB6 := Lib.hid (HB5.out.trans hb6)
         clear ho6 hb6
         have j3 := HH.out.readT HB6.out 3 rfl
         have j4 := HH.out.readT HB6.out 4 rfl)
      | go_skip | go_guarded | go_step)
    refine (rAtomB_any p A n c l V6 ((HR.out.below (HB6.out.mono (Nat.le_of_lt hbu))).more (Nat.le_trans (Nat.le_of_lt hbu) HB6.out.size)) hn).mono ?_
    rintro e V7 ⟨A7, m7, c7, rfl, ho7, hb7⟩
    have HR7 := Lib.hid (Ow.rd ho7)
    have hm7 : m7 ≤ 6000000 := by have h2 := Ow.len ho7; have h3 := (show (atomB (p, l)).length ≤ 6000000 from by have := HL.out; have h1 := u32B_len p; have h2 := flat_len termB 5 l (fun y _ => (termB_len y).2); show (atomB (p, l)).length ≤ 6000000; unfold atomB rowB; simp only [List.length_append, List.length_cons]; omega); omega
    have hsz7 := Nat.le_trans HB6.out.size hb7.size
    have HO7 := Lib.hid (ownBelow HO6.out hb7 (Nat.le_refl _))
    have HB7 := Lib.hid (HB6.out.trans (hb7.mono HB6.out.size))
    clear ho7 hb7
    dsimp only
    repeat (first
      | (at_builtin; refine app8h _ rfl (.tmp 15) (.tmp 18) rfl U.heap.size A6 c6 (1 + m5) _ rfl HO7.out _ A7 m7 c7 (atomB (p, l)) rfl HR7.out (by omega) hsz7 ?_
         intro A8 c8 V8 ho8 hb8
         have HO8 := Lib.hid ho8
         have HB8 := Lib.hid (HB7.out.trans hb8)
         clear ho8 hb8)
      | go_skip | go_guarded | go_step)
    go_ret
    refine ⟨A8, 1 + m5 + m7, c8, rfl, ?_, HB.out.trans (HB8.out.mono HB.out.size)⟩
    have h := ownLower HO8.out (show hb ≤ U.heap.size by omega)
    rw [hhb]
    show Ow _ _ _ _ _ (bitB true ++ (termB x ++ atomB (p, l)))
    rw [← List.append_assoc]
    exact h
end Go.Proofs.Ytcoafgnbmgndeaa
