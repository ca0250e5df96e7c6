/- Layer 6 (wire), the document's: which says may be. -/
import Derived.Test.YtcoafgnbmgndeaaWrH
set_option linter.unusedVariables false
set_option linter.unusedSimpArgs false
namespace Go.Proofs.Ytcoafgnbmgndeaa
open Go Go.RowKit

set_option maxRecDepth 100000 in
set_option maxHeartbeats 4000000 in
theorem rMaySay_any (b : Bool) (x : Tm) (p : UInt32) (A : Option Addr) (n c : Nat) (l : List Tm) (w : World) (h : RdT w w.heap.size A n l) (hn : n ≤ 1000000) :
    Calls Try.prog 57 #[.agg #[.bool b, .bool x.1, nv x.2, nv p, .slice A n c]] w fun e w' => e = .returned (.bool (mayS (b, x, (p, l)))) ∧ Below w.heap.size w w' := by
  obtain ⟨U, hU, hH, hbU⟩ : ∃ U, U = w.alloc (.cells #[.bool b, .bool x.1, nv x.2, nv p, .slice A n c] 56) ∧ Bk U w.heap.size 56 [.bool b, .bool x.1, nv x.2, nv p, .slice A n c] ∧ Below w.heap.size w U :=
    ⟨_, rfl, Bk.new w _ _, (Below.refl _ _).alloc (Nat.le_refl _) _⟩
  have HU := Lib.hid hU
  have HB := Lib.hid hbU
  have HR := Lib.hid (h.below hbU)
  have k0 := hH.readT (Below.refl _ _) 0 rfl
  have k1 := hH.readT (Below.refl _ _) 1 rfl
  have k2 := hH.readT (Below.refl _ _) 2 rfl
  have k3 := hH.readT (Below.refl _ _) 3 rfl
  have k4 := hH.readT (Below.refl _ _) 4 rfl
  clear hU hH hbU h
  go_enter Try.func57, Try.ntmps57
  go_upto_region 1 with (fail)
  rw [← HU.out]
  clear HU
  generalize hhb : w.heap.size = hb at HR HB k0 k1 k2 k3 k4 ⊢
  rw [← hhb] at HB HR
  clear hhb
  obtain ⟨v, y⟩ := x
  dsimp only at k1 k2
  have hy := n32_lt y
  have heq : (Op.equalIn 10000 54 (.agg #[.bool v, nv y]) (.agg #[.bool false, .int .u32 0])).run Try.prog U = .ok (decide (((v, y) : Tm) = (false, 0))) U := by
    have h := run_eqT (v, y) (false, 0) U
    exact h
  cases b with
  | true =>
    cases v with
    | false =>
      have HM := Lib.hid (show mayS (true, (false, y), (p, l)) = mayA (p, l) by simp [mayS])
      repeat (first | go_skip | go_guarded | go_step)
      refine (rMayAtom_any p A n c l U (HR.out.more HB.out.size) hn).mono ?_
      rintro e V5 ⟨rfl, hb5⟩
      dsimp only
      repeat (first | go_skip | go_guarded | go_step)
      go_ret
      exact ⟨by rw [HM.out]; rfl, HB.out.trans (hb5.mono HB.out.size)⟩
    | true =>
      by_cases h16 : y.toNat < 16
      · have HM := Lib.hid (show mayS (true, (true, y), (p, l)) = mayA (p, l) by simp [mayS, h16])
        have d0 : decide ((16 : Int) ≤ (y.toNat : Int)) = false := by simp; omega
        repeat (first | go_skip | go_guarded | go_step)
        refine (rMayAtom_any p A n c l U (HR.out.more HB.out.size) hn).mono ?_
        rintro e V5 ⟨rfl, hb5⟩
        dsimp only
        repeat (first | go_skip | go_guarded | go_step)
        go_ret
        exact ⟨by rw [HM.out]; rfl, HB.out.trans (hb5.mono HB.out.size)⟩
      · have HM := Lib.hid (show mayS (true, (true, y), (p, l)) = false by simp [mayS, h16])
        have d0 : decide ((16 : Int) ≤ (y.toNat : Int)) = true := by simp; omega
        repeat (first | go_skip | go_guarded | go_step)
        go_ret
        exact ⟨by rw [HM.out]; rfl, HB.out⟩
  | false =>
    by_cases he : (v, y) = ((false, 0) : Tm)
    · have HM := Lib.hid (show mayS (false, (v, y), (p, l)) = mayA (p, l) by cases he; simp [mayS])
      have de : decide (((v, y) : Tm) = (false, 0)) = true := decide_eq_true he
      rw [de] at heq
      cases he
      repeat (first | go_skip | go_guarded | go_step)
      refine (rMayAtom_any p A n c l U (HR.out.more HB.out.size) hn).mono ?_
      rintro e V5 ⟨rfl, hb5⟩
      dsimp only
      repeat (first | go_skip | go_guarded | go_step)
      go_ret
      exact ⟨by rw [HM.out]; rfl, HB.out.trans (hb5.mono HB.out.size)⟩
    · have HM := Lib.hid (show mayS (false, (v, y), (p, l)) = false by simp only [mayS, decide_eq_false he]; simp)
      have de : decide (((v, y) : Tm) = (false, 0)) = false := decide_eq_false he
      rw [de] at heq
      have hy0 : v = false → ((y.toNat : Int) == 0) = false := fun hv => by
        rw [beq_eq_false_iff_ne]
        intro e
        exact he (by rw [hv, show y = 0 from UInt32.toNat_inj.1 (by simpa using e)])
      clear he de
      cases v with
      | false =>
        have hy0 := hy0 rfl
        repeat (first | go_skip | go_guarded | go_step)
        go_ret
        exact ⟨by rw [HM.out]; rfl, HB.out⟩
      | true =>
        repeat (first | go_skip | go_guarded | go_step)
        go_ret
        exact ⟨by rw [HM.out]; rfl, HB.out⟩

set_option maxRecDepth 100000 in
set_option maxHeartbeats 4000000 in
theorem rSameSay_any (b b' : Bool) (x x' : Tm) (p p' : UInt32) (A A' : Option Addr) (n c n' c' : Nat) (l l' : List Tm) (w : World) (h : RdT w w.heap.size A n l) (h' : RdT w w.heap.size A' n' l') (hn : n ≤ 1000000) :
    Calls Try.prog 62 #[.agg #[.bool b, .bool x.1, nv x.2, nv p, .slice A n c], .agg #[.bool b', .bool x'.1, nv x'.2, nv p', .slice A' n' c']] w fun e w' => e = .returned (.bool (decide (((b, x, (p, l)) : Sy) = (b', x', (p', l'))))) ∧ Below w.heap.size w w' := by
  obtain ⟨U, hU, hH, hH', hbU⟩ : ∃ U, U = (w.alloc (.cells #[.bool b, .bool x.1, nv x.2, nv p, .slice A n c] 56)).alloc (.cells #[.bool b', .bool x'.1, nv x'.2, nv p', .slice A' n' c'] 56) ∧ Bk U w.heap.size 56 [.bool b, .bool x.1, nv x.2, nv p, .slice A n c] ∧ Bk U (w.heap.size + 1) 56 [.bool b', .bool x'.1, nv x'.2, nv p', .slice A' n' c'] ∧ Below w.heap.size w U :=
    ⟨_, rfl, (Bk.new w _ _).alloc _, Bk.second w _ _ _, below2 _ _ _⟩
  have HU := Lib.hid hU
  have HB := Lib.hid hbU
  have HR := Lib.hid (h.below hbU)
  have HR' := Lib.hid (h'.below hbU)
  have k0 := hH.readT (Below.refl _ _) 0 rfl
  have k1 := hH.readT (Below.refl _ _) 1 rfl
  have k2 := hH.readT (Below.refl _ _) 2 rfl
  have k3 := hH.readT (Below.refl _ _) 3 rfl
  have k4 := hH.readT (Below.refl _ _) 4 rfl
  have j0 := hH'.readT (Below.refl _ _) 0 rfl
  have j1 := hH'.readT (Below.refl _ _) 1 rfl
  have j2 := hH'.readT (Below.refl _ _) 2 rfl
  have j3 := hH'.readT (Below.refl _ _) 3 rfl
  have j4 := hH'.readT (Below.refl _ _) 4 rfl
  clear hU hH hH' hbU h h'
  go_enter Try.func62, Try.ntmps62
  go_upto_region 1 with (fail)
  rw [← HU.out]
  clear HU
  generalize hhb : w.heap.size = hb at HR HR' HB k0 k1 k2 k3 k4 j0 j1 j2 j3 j4 ⊢
  rw [← hhb] at HB HR HR'
  clear hhb
  obtain ⟨v, y⟩ := x
  obtain ⟨v', y'⟩ := x'
  dsimp only at k1 k2 j1 j2
  have hyd : (y = y' ∧ ((y.toNat : Int) == (y'.toNat : Int)) = true) ∨ (y ≠ y' ∧ ((y.toNat : Int) == (y'.toNat : Int)) = false) := by
    by_cases h : y = y'
    · exact .inl ⟨h, by simp [h]⟩
    · refine .inr ⟨h, ?_⟩
      rw [beq_eq_false_iff_ne]
      intro e
      exact h (UInt32.toNat_inj.1 (by omega))
  rcases hyd with ⟨hy, hyb⟩ | ⟨hy, hyb⟩ <;> have HY := Lib.hid hy <;> clear hy <;> cases b <;> cases b' <;> cases v <;> cases v'
  all_goals first
    | (repeat (first | go_skip | go_guarded | go_step)
       refine (rSameAtom_any p p' A A' n c n' c' l l' U (HR.out.more HB.out.size) (HR'.out.more HB.out.size) hn).mono ?_
       rintro e V5 ⟨rfl, hb5⟩
       dsimp only
       repeat (first | go_skip | go_guarded | go_step)
       go_ret
       refine ⟨?_, HB.out.trans (hb5.mono HB.out.size)⟩
       have hy := HY.out
       simp [hy]
       done)
    | (repeat (first | go_skip | go_guarded | go_step)
       go_ret
       refine ⟨?_, HB.out⟩
       have hy := HY.out
       simp [hy]
       done)
end Go.Proofs.Ytcoafgnbmgndeaa
