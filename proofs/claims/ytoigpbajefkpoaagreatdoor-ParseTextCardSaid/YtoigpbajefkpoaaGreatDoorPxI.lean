/- Texts, packed: PaO -/
import Derived.Test.YtoigpbajefkpoaaGreatDoorPxH
set_option linter.unusedVariables false
set_option linter.unusedSimpArgs false
namespace Go.Proofs.YtoigpbajefkpoaaGreatDoor
open Go Go.RowKit

theorem atom_end {w : World} {r : Nat} {x0 x1 : Value} (h : Bk w r 49 [x0, x1]) (u v : Value) : Bk ((w.setCell ⟨r, 0, none⟩ u).setCell ⟨r, 1, none⟩ v) r 49 [u, v] := (h.set_ 0 u).set_ 1 v
/-- What the row of terms says, where the terms are read one by one. -/
theorem args_step {sz n : Nat} {acc : List Tm} {s : PS} (h : ¬ (acc.length = 6 ∧ (kindE s.1 = 1 ∨ kindE s.1 = 2))) :
    argsE sz (n + 1) acc s = bindE (termE sz s) fun t s1 => if kindE s1.1 = 7 then argsE sz n (acc ++ [t]) (nextE s1) else bindE (wordE sz 6 s1) fun _ s2 => .ok (acc ++ [t], s2) := by
  rw [argsE, if_neg h]
theorem args_many {sz n : Nat} {acc : List Tm} {s : PS} (h : acc.length = 6 ∧ (kindE s.1 = 1 ∨ kindE s.1 = 2)) : argsE sz (n + 1) acc s = .error (6, placeE sz s.1) := by
  rw [argsE, if_pos h]
theorem term_kind {sz : Nat} {s : PS} {t : Tm} {s' : PS} (h : termE sz s = .ok (t, s')) : kindE s.1 = 1 ∨ kindE s.1 = 2 := by
  by_cases h2 : kindE s.1 = 2
  · exact Or.inr h2
  · unfold termE at h
    rw [if_neg h2] at h
    obtain ⟨i, s1, h3, _⟩ := bindE_ok h
    unfold nameE at h3
    by_cases h1 : kindE s.1 = 1
    · exact Or.inl h1
    · rw [if_neg h1] at h3; cases h3
/-- What lies in memory while an atom is read. -/
structure EnvA (base g : Nat) (ws : List Wd) (sz : Nat) (w : World) (ab rr : Nat) (p : UInt32) (wr : World) (y : Except PE PS) (A : Option Addr) (n c : Nat) (l : List Tm) : Prop where
  st : PSt wr base g ws sz y
  a : Bk wr ab 49 [nv p, .slice A n c]
  r : Bk wr rr 49 [.int .u32 0, .slice none 0 0]
  own : OwT wr w.heap.size A c n l
  kp : Kp base g w wr
section
variable {base g sz ab rr n c : Nat} {ws : List Wd} {w wr V : World} {p : UInt32} {y y' : Except PE PS} {A : Option Addr} {l : List Tm}
theorem EnvA.go (h : EnvA base g ws sz w ab rr p wr y A n c l) (hp : PSt V base g ws sz y') (hk : Kp base g wr V) (h1 : ab ≠ g) (h2 : rr ≠ g) : EnvA base g ws sz w ab rr p V y' A n c l := by
  obtain ⟨cs, hb⟩ := h.st.bk
  exact ⟨hp, hk.bk h.a (by decide) h1, hk.bk h.r (by decide) h2, hk.own h.own hb (by decide) (by decide), h.kp.trans hk⟩
theorem EnvA.drews (h : EnvA base g ws sz w ab rr p wr y A n c l) (q : Nat) : EnvA base g ws sz w ab rr p (wr.drewN q) y A n c l := ⟨h.st.drews q, h.a, h.r, h.own, h.kp.drews q⟩
theorem EnvA.alloc (h : EnvA base g ws sz w ab rr p wr y A n c l) (o : Obj) : EnvA base g ws sz w ab rr p (wr.alloc o) y A n c l := by
  have hb : Below wr.heap.size wr (wr.alloc o) := (Below.refl _ _).alloc (Nat.le_refl _) _
  exact ⟨h.st.later hb, h.a.later hb, h.r.later hb, ownBelow h.own hb (Nat.le_refl _), h.kp.alloc h.st.text _⟩
end

set_option maxRecDepth 100000 in
set_option maxHeartbeats 8000000 in
theorem pAtom_any (base g : Nat) (ws : List Wd) (sz : Nat) (x : Except PE PS) (w : World) (h : PSt w base g ws sz x) :
    Calls Tryz.prog 85 #[.pointer (some ⟨g, 0, none⟩)] w fun e w' => ∃ (p : UInt32) (A : Option Addr) (n c : Nat) (l : List Tm), e = .returned (.agg #[nv p, .slice A n c]) ∧ OwT w' w.heap.size A c n l ∧ n ≤ 7 ∧ PSt w' base g ws sz (stE (runE x (atomE sz))) ∧ saysE (runE x (atomE sz)) (p, l) ∧ Kp base g w w' := by
  have hgl := h.at_.2
  have hgb := h.at_.1
  obtain ⟨U, hU, hH, hbU⟩ : ∃ U, U = w.alloc (.cells #[.int .u32 0, .slice none 0 0] 49) ∧ Bk U w.heap.size 49 [.int .u32 0, .slice none 0 0] ∧ Below w.heap.size w U := ⟨_, rfl, Bk.new w _ _, (Below.refl _ _).alloc (Nat.le_refl _) _⟩
  have hk0 : Kp base g w U := by rw [hU]; exact (Kp.refl base g w).alloc (by omega) _
  have HU := Lib.hid hU
  have HR := Lib.hid hH
  have HK := Lib.hid hk0
  have HP := Lib.hid (h.later hbU)
  obtain ⟨rr, hrr⟩ : ∃ rr, rr = w.heap.size := ⟨_, rfl⟩
  have hrg : rr ≠ g := by omega
  have hrw : w.heap.size ≤ rr := by omega
  have hrb : base ≤ rr := by omega
  rw [← hrr] at HR
  have HRR := Lib.hid hrr
  clear hU hH hk0 h hbU hrr
  go_enter Tryz.func85, Tryz.ntmps85
  go_upto_region 1 with (fail)
  rw [← HU.out, ← HRR.out]
  clear HU
  repeat (first | go_skip | go_guarded | go_step)
  refine (pNameS HP.out).mono ?_
  rintro e V ⟨p0, rfl, hp1, hs1, hk1⟩
  have hr1 := hk1.bk HR.out (by decide) hrg
  have HS1 := Lib.hid hs1
  obtain ⟨p, hp⟩ : ∃ p, p = UInt32.ofNat p0 := ⟨_, rfl⟩
  rw [← hp]
  have HPP := Lib.hid hp
  obtain ⟨W, hW, hA, hbW⟩ : ∃ W, W = V.alloc (.cells #[nv p, .slice none 0 0] 49) ∧ Bk W V.heap.size 49 [nv p, .slice none 0 0] ∧ Below V.heap.size V W := ⟨_, rfl, Bk.new V _ _, (Below.refl _ _).alloc (Nat.le_refl _) _⟩
  obtain ⟨ab, hab⟩ : ∃ ab, ab = V.heap.size := ⟨_, rfl⟩
  have hVg : w.heap.size ≤ V.heap.size := Nat.le_trans HK.out.below.size hk1.below.size
  have hrl := hr1.lt
  have hrr := HRR.out
  have hag : ab ≠ g := by omega
  have har : rr ≠ ab := by omega
  have hab2 : w.heap.size ≤ ab := by omega
  have hP2 := Lib.hid (hp1.later hbW)
  have HR2 := Lib.hid (hr1.later hbW)
  have HK2 := Lib.hid (show Kp base g w W by rw [hW]; exact (HK.out.trans hk1).alloc (by omega) _)
  rw [← hab] at hA
  have HA2 := Lib.hid hA
  have HWW := Lib.hid hW
  have HAB := Lib.hid hab
  obtain ⟨y, hy⟩ : ∃ y, y = stE (runE x (nameE sz)) := ⟨_, rfl⟩
  rw [← hy] at hP2
  have HY := Lib.hid hy
  clear hp hW hA hbW hab hp1 hs1 hk1 hr1 HP HR HK hy hrl hrr
  dsimp only
  go_upto_region 2 with (fail)
  rw [← HWW.out, ← HAB.out]
  clear HWW HAB HRR
  have HRUN := Lib.hid (show runE x (atomE sz) = runE y (fun s1 => if kindE s1.1 = 5 then bindE (argsE sz 7 [] (nextE s1)) fun l s2 => .ok ((p, l), s2) else .ok ((p, []), s1)) by
    rw [show runE x (atomE sz) = bindE (runE x (nameE sz)) (fun p s1 => if kindE s1.1 = 5 then bindE (argsE sz 7 [] (nextE s1)) fun l s2 => .ok ((UInt32.ofNat p, l), s2) else .ok ((UInt32.ofNat p, []), s1)) from runE_bind x _ _, bindE_st _ _ HS1.out, ← HY.out, ← HPP.out])
  clear HS1 HY HPP
  obtain ⟨e1, c5w, he1, he2⟩ := hP2.out.err
  have HK0 := Lib.hid (pKindS 0 (by omega) hP2.out)
  repeat (first | go_skip | go_guarded | go_step)
  refine HK0.out.mono ?_
  rintro e V3 ⟨kk, rfl, hkk, q, rfl⟩
  have HP3 := Lib.hid (hP2.out.drews q)
  have HR3 := Lib.hid (show Bk (W.drewN q) rr 49 [.int .u32 0, .slice none 0 0] from HR2.out)
  have HA3 := Lib.hid (show Bk (W.drewN q) ab 49 [nv p, .slice none 0 0] from HA2.out)
  have HK3 := Lib.hid (HK2.out.drews q)
  have c5 : (W.drewN q).cell? ⟨g, 5, none⟩ = some (.int .i64 (e1 : Int)) := c5w
  clear HK0 hP2 HR2 HA2 HK2 c5w
  generalize W.drewN q = X at HP3 HR3 HA3 HK3 c5 ⊢
  have a0 : X.cell? ⟨ab, 0, none⟩ = some (nv p) := HA3.out.cell 0
  have a1 : X.cell? ⟨ab, 1, none⟩ = some (.slice none 0 0) := HA3.out.cell 1
  have r0 : X.cell? ⟨rr, 0, none⟩ = some (.int .u32 0) := HR3.out.cell 0
  have r1 : X.cell? ⟨rr, 1, none⟩ = some (.slice none 0 0) := HR3.out.cell 1
  have rf0 : X.frozen? ⟨rr, 0, none⟩ = false := HR3.out.frozen 0
  have rf1 : X.frozen? ⟨rr, 1, none⟩ = false := HR3.out.frozen 1
  dsimp only
  by_cases h5 : kk = 5
  · have dk : ((kk : Int) != 5) = false := by rw [h5]; rfl
    cases y with
    | error z =>
      have de : ((e1 : Int) != 0) = true := by have := he2 z rfl; rw [bne_iff_ne]; omega
      clear hkk h5
      repeat (first | go_skip | go_guarded | go_step)
      (try simp only [Exit.inBlock, Exit.then])
      refine bodyPost_ret (results_cell_row rfl _ _ rr _ _ _ _ rfl (atom_end HR3.out _ _) Tryz.underlying49 rfl (by kernel_rfl)) rfl ?_
      exact ⟨p, none, 0, 0, [], rfl, World.ownsRow_nil _ _ _ _, by omega, PSt.far (by rw [HRUN.out]; exact HP3.out) HR3.out (by decide) (by decide) (by decide) (only_set2 _ _), (by rw [HRUN.out]; intro u s h; cases h), HK3.out.fresh (only_set2 _ _) hrw hrb HR3.out.lt⟩
    | ok s1 =>
      have de : ((e1 : Int) != 0) = false := by rw [he1 s1 rfl]; rfl
      have HK5 := Lib.hid (show kindE s1.1 = 5 by rw [← h5, hkk s1 rfl]; rfl)
      obtain ⟨k1, s1c, s1f, hk17, hst⟩ := HP3.out.step
      obtain ⟨hn1, hn2⟩ := hst s1 rfl (kindE_ne HK5.out (by omega))
      have HP4 := Lib.hid hn1
      have HK4 := Lib.hid (HK3.out.trans hn2)
      have ht4 : Only g X (X.setCell ⟨g, 1, none⟩ (.int .i64 ((k1 : Int) + 1))) := Turn.setCell (G := fun j => j = g) (Turn.refl _ X) (fun _ => rfl) _
      have HR4 := Lib.hid (ht4.bk HR3.out hrg)
      have HA4 := Lib.hid (ht4.bk HA3.out hag)
      have HRUN2 := Lib.hid (show runE x (atomE sz) = bindE (argsE sz 7 [] (nextE s1)) fun l s2 => .ok ((p, l), s2) by rw [HRUN.out]; show (if _ then _ else _) = _; rw [if_pos HK5.out])
      clear hkk h5 hst hn1 hn2 ht4 HRUN HP3 he1 he2
      repeat (first | go_skip | go_guarded | go_step)
      generalize X.setCell ⟨g, 1, none⟩ (.int .i64 ((k1 : Int) + 1)) = X4 at HP4 HK4 HR4 HA4 ⊢
      clear a0 a1 r0 r1 rf0 rf1 HR3 HA3 HK3 c5 s1c s1f de dk X
      go_loopw [] (fun wr => ∃ (y2 : Except PE PS) (A : Option Addr) (n c : Nat) (l : List Tm), EnvA base g ws sz w ab rr p wr y2 A n c l ∧ n ≤ 6 ∧ l.length = n ∧ runE y2 (argsE sz (7 - n) l) = argsE sz 7 [] (nextE s1)) (fun wr => 8 - slN (wr.cell? ⟨ab, 1, none⟩))
      case atStart => exact ⟨.ok (nextE s1), none, 0, 0, [], ⟨HP4.out, HA4.out, HR4.out, World.ownsRow_nil _ _ _ _, HK4.out⟩, by omega, rfl, rfl⟩
      case round =>
        obtain ⟨y2, A, n, c, l, hE, hn6, hll, hrun⟩ := hrel
        obtain ⟨e2, c5, he1, he2⟩ := hE.st.err
        have HE := Lib.hid hE
        have HN := Lib.hid hrun
        have HLL := Lib.hid hll
        clear hE hrun hll HP4 HK4 HR4 HA4
        have a0 : wr.cell? ⟨ab, 0, none⟩ = some (nv p) := HE.out.a.cell 0
        have a1 : wr.cell? ⟨ab, 1, none⟩ = some (.slice A n c) := HE.out.a.cell 1
        have r0 : wr.cell? ⟨rr, 0, none⟩ = some (.int .u32 0) := HE.out.r.cell 0
        have r1 : wr.cell? ⟨rr, 1, none⟩ = some (.slice none 0 0) := HE.out.r.cell 1
        have rf0 : wr.frozen? ⟨rr, 0, none⟩ = false := HE.out.r.frozen 0
        have rf1 : wr.frozen? ⟨rr, 1, none⟩ = false := HE.out.r.frozen 1
        cases y2 with
        | error z =>
          have de : ((e2 : Int) == 0) = false := by have := he2 z rfl; rw [beq_eq_false_iff_ne]; omega
          repeat (first | go_skip | go_guarded | go_step)
          (try simp only [Exit.inBlock, Exit.then])
          refine bodyPost_ret (results_cell_row rfl _ _ rr _ _ _ _ rfl (atom_end HE.out.r _ _) Tryz.underlying49 rfl (by kernel_rfl)) rfl ?_
          exact ⟨p, A, n, c, l, rfl, own_only HE.out.own HE.out.r (by decide) (only_set2 _ _), by omega, PSt.far (by rw [HRUN2.out, ← HN.out]; exact HE.out.st) HE.out.r (by decide) (by decide) (by decide) (only_set2 _ _), (by rw [HRUN2.out, ← HN.out]; intro u s h; cases h), HE.out.kp.fresh (only_set2 _ _) hrw hrb HE.out.r.lt⟩
        | ok s2 =>
          have de : ((e2 : Int) == 0) = true := by rw [he1 s2 rfl]; rfl
          have hN := HN.out
          rw [show 7 - n = (6 - n) + 1 by omega] at hN
          have hN : argsE sz ((6 - n) + 1) l s2 = argsE sz 7 [] (nextE s1) := hN
          have HN2 := Lib.hid hN
          have HKS := Lib.hid (fun q => pKindS 0 (by omega) (HE.out.st.drews q))
          clear hN HN
          by_cases hmany : n = 6 ∧ (kindE s2.1 = 1 ∨ kindE s2.1 = 2)
          · have HMY := Lib.hid (show argsE sz 7 [] (nextE s1) = .error (6, placeE sz s2.1) by rw [← HN2.out]; exact args_many (by rw [HLL.out]; exact hmany))
            obtain ⟨hn66, hkk2⟩ := hmany
            have d6 : ((n : Int) == 6) = true := by rw [hn66]; rfl
            clear hn66
            rcases hkk2 with h1 | h1
            · repeat (first | go_skip | go_guarded | go_step)
              refine (HKS.out 0).mono ?_
              rintro e V ⟨kk2, rfl, hq0, q1, rfl⟩
              have hq := hq0 s2 rfl
              clear hq0
              have d1 : ((kk2 : Int) == 1) = true := by rw [show kk2 = 1 from by rw [hq]; exact h1]; rfl
              have HE3 := Lib.hid ((HE.out.drews 0).drews q1)
              rw [World.drewN_zero] at HE3 ⊢
              generalize wr.drewN q1 = X at HE3 ⊢
              clear hq h1
              dsimp only
              repeat (first | go_skip | go_guarded | go_step)
              refine (pWrongS 6 (by omega) HE3.out.st).mono ?_
              rintro e V ⟨rfl, hp5, hk5⟩
              have HE5 := Lib.hid (HE3.out.go hp5 hk5 hag hrg)
              clear hp5 hk5 a0 a1 r0 r1 rf0 rf1
              dsimp only
              have a0 : V.cell? ⟨ab, 0, none⟩ = some (nv p) := HE5.out.a.cell 0
              have a1 : V.cell? ⟨ab, 1, none⟩ = some (.slice A n c) := HE5.out.a.cell 1
              have r0 : V.cell? ⟨rr, 0, none⟩ = some (.int .u32 0) := HE5.out.r.cell 0
              have r1 : V.cell? ⟨rr, 1, none⟩ = some (.slice none 0 0) := HE5.out.r.cell 1
              have rf0 : V.frozen? ⟨rr, 0, none⟩ = false := HE5.out.r.frozen 0
              have rf1 : V.frozen? ⟨rr, 1, none⟩ = false := HE5.out.r.frozen 1
              repeat (first | go_skip | go_guarded | go_step)
              (try simp only [Exit.inBlock, Exit.then])
              refine bodyPost_ret (results_cell_row rfl _ _ rr _ _ _ _ rfl (atom_end HE5.out.r _ _) Tryz.underlying49 rfl (by kernel_rfl)) rfl ?_
              exact ⟨p, A, n, c, l, rfl, own_only HE5.out.own HE5.out.r (by decide) (only_set2 _ _), by omega, PSt.far (by rw [HRUN2.out, HMY.out]; exact HE5.out.st) HE5.out.r (by decide) (by decide) (by decide) (only_set2 _ _), (by rw [HRUN2.out, HMY.out]; intro u s h; cases h), HE5.out.kp.fresh (only_set2 _ _) hrw hrb HE5.out.r.lt⟩
            · repeat (first | go_skip | go_guarded | go_step)
              refine (HKS.out 0).mono ?_
              rintro e V ⟨kk2, rfl, hq0, q1, rfl⟩
              have hq := hq0 s2 rfl
              clear hq0
              have d1 : ((kk2 : Int) == 1) = false := by rw [show kk2 = 2 from by rw [hq]; exact h1]; rfl
              rw [World.drewN_zero]
              clear hq
              dsimp only
              repeat (first | go_skip | go_guarded | go_step)
              refine (HKS.out q1).mono ?_
              rintro e V ⟨kk3, rfl, hq0, q2, rfl⟩
              have hq := hq0 s2 rfl
              clear hq0
              have d2 : ((kk3 : Int) == 2) = true := by rw [show kk3 = 2 from by rw [hq]; exact h1]; rfl
              have HE3 := Lib.hid ((HE.out.drews q1).drews q2)
              generalize (wr.drewN q1).drewN q2 = X at HE3 ⊢
              clear hq h1
              dsimp only
              repeat (first | go_skip | go_guarded | go_step)
              refine (pWrongS 6 (by omega) HE3.out.st).mono ?_
              rintro e V ⟨rfl, hp5, hk5⟩
              have HE5 := Lib.hid (HE3.out.go hp5 hk5 hag hrg)
              clear hp5 hk5 a0 a1 r0 r1 rf0 rf1
              dsimp only
              have a0 : V.cell? ⟨ab, 0, none⟩ = some (nv p) := HE5.out.a.cell 0
              have a1 : V.cell? ⟨ab, 1, none⟩ = some (.slice A n c) := HE5.out.a.cell 1
              have r0 : V.cell? ⟨rr, 0, none⟩ = some (.int .u32 0) := HE5.out.r.cell 0
              have r1 : V.cell? ⟨rr, 1, none⟩ = some (.slice none 0 0) := HE5.out.r.cell 1
              have rf0 : V.frozen? ⟨rr, 0, none⟩ = false := HE5.out.r.frozen 0
              have rf1 : V.frozen? ⟨rr, 1, none⟩ = false := HE5.out.r.frozen 1
              repeat (first | go_skip | go_guarded | go_step)
              (try simp only [Exit.inBlock, Exit.then])
              refine bodyPost_ret (results_cell_row rfl _ _ rr _ _ _ _ rfl (atom_end HE5.out.r _ _) Tryz.underlying49 rfl (by kernel_rfl)) rfl ?_
              exact ⟨p, A, n, c, l, rfl, own_only HE5.out.own HE5.out.r (by decide) (only_set2 _ _), by omega, PSt.far (by rw [HRUN2.out, HMY.out]; exact HE5.out.st) HE5.out.r (by decide) (by decide) (by decide) (only_set2 _ _), (by rw [HRUN2.out, HMY.out]; intro u s h; cases h), HE5.out.kp.fresh (only_set2 _ _) hrw hrb HE5.out.r.lt⟩
          · have HST := Lib.hid (args_step (sz := sz) (n := 6 - n) (acc := l) (s := s2) (by rw [HLL.out]; exact hmany))
            have HM := Lib.hid hmany
            by_cases h6 : n = 6
            · have d6 : ((n : Int) == 6) = true := by rw [h6]; rfl
              have hn1 : kindE s2.1 ≠ 1 := fun h => HM.out ⟨h6, Or.inl h⟩
              have hn2 : kindE s2.1 ≠ 2 := fun h => HM.out ⟨h6, Or.inr h⟩
              clear h6
              repeat (first | go_skip | go_guarded | go_step)
              refine (HKS.out 0).mono ?_
              rintro e V ⟨kk2, rfl, hq0, q1, rfl⟩
              have hq : kk2 = kindE s2.1 := hq0 s2 rfl
              clear hq0
              have d1 : ((kk2 : Int) == 1) = false := by rw [beq_eq_false_iff_ne]; omega
              clear hq
              rw [World.drewN_zero]
              dsimp only
              repeat (first | go_skip | go_guarded | go_step)
              refine (HKS.out q1).mono ?_
              rintro e V ⟨kk3, rfl, hq0, q2, rfl⟩
              have hq3 : kk3 = kindE s2.1 := hq0 s2 rfl
              clear hq0
              have d2 : ((kk3 : Int) == 2) = false := by rw [beq_eq_false_iff_ne]; omega
              have HE3 := Lib.hid ((HE.out.drews q1).drews q2)
              generalize (wr.drewN q1).drewN q2 = X at HE3 ⊢
              clear hq3 hn1 hn2
              dsimp only
              repeat (first | go_skip | go_guarded | go_step)
              refine (pTermS HE3.out.st).mono ?_
              rintro e V ⟨tm, rfl, hp9, hs9, hk9⟩
              have hE9 := HE3.out.go hp9 hk9 hag hrg
              obtain ⟨Y, hY, hT, hbY⟩ : ∃ Y, Y = V.alloc (.cells #[.bool tm.1, nv tm.2] 46) ∧ Bk Y V.heap.size 46 [.bool tm.1, nv tm.2] ∧ Below V.heap.size V Y := ⟨_, rfl, Bk.new V _ _, (Below.refl _ _).alloc (Nat.le_refl _) _⟩
              obtain ⟨tb, htb⟩ : ∃ tb, tb = V.heap.size := ⟨_, rfl⟩
              rw [← htb] at hT
              have hEY : EnvA base g ws sz w ab rr p Y (stE (termE sz s2)) A n c l := by rw [hY]; exact hE9.alloc _
              have HEY := Lib.hid hEY
              have HY := Lib.hid hY
              have HTB := Lib.hid htb
              have HT := Lib.hid hT
              have hs9 : saysE (termE sz s2) tm := hs9
              have HS9 := Lib.hid hs9
              clear hp9 hs9 hk9 hE9 hEY hY htb hT hbY a0 a1 r0 r1 rf0 rf1
              dsimp only
              go_upto_region 10 with (fail)
              rw [← HY.out, ← HTB.out]
              clear HY HTB HE3
              have a1 : Y.cell? ⟨ab, 1, none⟩ = some (.slice A n c) := HEY.out.a.cell 1
              have t0 : Y.cell? ⟨tb, 0, none⟩ = some (.bool tm.1) := HT.out.cell 0
              have t1 : Y.cell? ⟨tb, 1, none⟩ = some (nv tm.2) := HT.out.cell 1
              have hlit := run_litTm (.bool tm.1) (nv tm.2) Y
              have hYs : w.heap.size ≤ Y.heap.size := HEY.out.kp.below.size
              have HEZ := Lib.hid (show EnvA base g ws sz w ab rr p (Y.alloc (.cells #[.bool tm.1, nv tm.2] 46)) (stE (termE sz s2)) A n c l from HEY.out.alloc _)
              have HRZ := Lib.hid (show RdT (Y.alloc (.cells #[.bool tm.1, nv tm.2] 46)) (Y.alloc (.cells #[.bool tm.1, nv tm.2] 46)).heap.size (some ⟨Y.heap.size, 0, none⟩) 1 [tm] from tmBk_rd (Bk.new Y _ [.bool tm.1, nv tm.2]))
              have hZs : w.heap.size ≤ (Y.alloc (.cells #[.bool tm.1, nv tm.2] 46)).heap.size := HEZ.out.kp.below.size
              cases hte : termE sz s2 with
              | error z =>
                have HTE := Lib.hid hte
                rw [hte] at HEZ
                clear hte
                repeat (first
                  | (at_builtin; refine appTt _ rfl (.tmp 51) (.tmp 53) rfl w.heap.size A c n l rfl HEZ.out.own _ _ 1 1 [tm] rfl HRZ.out (by omega) hZs ?_
                     intro A' c' Z hoZ hgZ
                     have htZ := Typ.ofGrown HEZ.out.own hgZ
                     have hPZ := HEZ.out.st.typ htZ (by decide) (by decide) (by decide)
                     have hAZ := htZ.bk HEZ.out.a (by decide)
                     have hRZ := htZ.bk HEZ.out.r (by decide)
                     have hKZ := HEZ.out.kp.grown HEZ.out.own (Nat.le_refl _) (by omega) HEZ.out.st.text hgZ
                     have z1 : Z.cell? ⟨ab, 1, none⟩ = some (.slice A n c) := hAZ.cell 1
                     have zf : Z.frozen? ⟨ab, 1, none⟩ = false := hAZ.frozen 1
                     have ht2 : Only ab Z (Z.setCell ⟨ab, 1, none⟩ (.slice A' (n + 1) c')) := Turn.setCell (G := fun j => j = ab) (Turn.refl _ Z) (fun _ => rfl) _
                     have HE2 := Lib.hid (show EnvA base g ws sz w ab rr p (Z.setCell ⟨ab, 1, none⟩ (.slice A' (n + 1) c')) (.error z) A' (n + 1) c' (l ++ [tm]) from
                       ⟨hPZ.far hAZ (by decide) (by decide) (by decide) ht2, hAZ.set_ 1 _, ht2.bk hRZ har, own_only hoZ hAZ (by decide) ht2, hKZ.fresh ht2 hab2 (by omega) hAZ.lt⟩)
                     obtain ⟨e3, c5z, he31, he32⟩ := hPZ.err
                     clear hoZ hgZ htZ hPZ hAZ hRZ hKZ ht2 hlit HEZ HRZ hZs
                     have de3 : ((e3 : Int) == 0) = false := by (have := he32 z rfl; rw [beq_eq_false_iff_ne]; omega)
                     clear he31 he32)
                  | go_skip | go_guarded | go_step)
                generalize (Z.setCell ⟨ab, 1, none⟩ (.slice A' (n + 1) c')) = X2 at HE2 ⊢
                refine (pWordS 6 (by omega) HE2.out.st).mono ?_
                rintro e V5 ⟨T5, rfl, hp5, hk5⟩
                have HE5 := Lib.hid (HE2.out.go hp5 hk5 hag hrg)
                clear hp5 hk5
                dsimp only
                have a0 : V5.cell? ⟨ab, 0, none⟩ = some (nv p) := HE5.out.a.cell 0
                have a1 : V5.cell? ⟨ab, 1, none⟩ = some (.slice A' (n + 1) c') := HE5.out.a.cell 1
                have r0 : V5.cell? ⟨rr, 0, none⟩ = some (.int .u32 0) := HE5.out.r.cell 0
                have r1 : V5.cell? ⟨rr, 1, none⟩ = some (.slice none 0 0) := HE5.out.r.cell 1
                have rf0 : V5.frozen? ⟨rr, 0, none⟩ = false := HE5.out.r.frozen 0
                have rf1 : V5.frozen? ⟨rr, 1, none⟩ = false := HE5.out.r.frozen 1
                repeat (first | go_skip | go_guarded | go_step)
                (try simp only [Exit.inBlock, Exit.then])
                refine bodyPost_ret (results_cell_row rfl _ _ rr _ _ _ _ rfl (atom_end HE5.out.r _ _) Tryz.underlying49 rfl (by kernel_rfl)) rfl ?_
                exact ⟨p, A', (n + 1), c', (l ++ [tm]), rfl, own_only HE5.out.own HE5.out.r (by decide) (only_set2 _ _), by omega, PSt.far (by rw [HRUN2.out, ← HN2.out, HST.out, HTE.out]; exact HE5.out.st) HE5.out.r (by decide) (by decide) (by decide) (only_set2 _ _), (by rw [HRUN2.out, ← HN2.out, HST.out, HTE.out]; intro u s h; cases h), HE5.out.kp.fresh (only_set2 _ _) hrw hrb HE5.out.r.lt⟩
              | ok z =>
                obtain ⟨t3, s3⟩ := z
                obtain rfl : tm = t3 := HS9.out t3 s3 hte
                have HTE := Lib.hid hte
                have hn5 : n ≤ 5 := by
                  rcases Nat.lt_or_ge n 6 with h | h
                  · omega
                  · exact absurd ⟨by omega, term_kind hte⟩ HM.out
                rw [hte] at HEZ
                clear hte
                repeat (first
                  | (at_builtin; refine appTt _ rfl (.tmp 51) (.tmp 53) rfl w.heap.size A c n l rfl HEZ.out.own _ _ 1 1 [tm] rfl HRZ.out (by omega) hZs ?_
                     intro A' c' Z hoZ hgZ
                     have htZ := Typ.ofGrown HEZ.out.own hgZ
                     have hPZ := HEZ.out.st.typ htZ (by decide) (by decide) (by decide)
                     have hAZ := htZ.bk HEZ.out.a (by decide)
                     have hRZ := htZ.bk HEZ.out.r (by decide)
                     have hKZ := HEZ.out.kp.grown HEZ.out.own (Nat.le_refl _) (by omega) HEZ.out.st.text hgZ
                     have z1 : Z.cell? ⟨ab, 1, none⟩ = some (.slice A n c) := hAZ.cell 1
                     have zf : Z.frozen? ⟨ab, 1, none⟩ = false := hAZ.frozen 1
                     have ht2 : Only ab Z (Z.setCell ⟨ab, 1, none⟩ (.slice A' (n + 1) c')) := Turn.setCell (G := fun j => j = ab) (Turn.refl _ Z) (fun _ => rfl) _
                     have HE2 := Lib.hid (show EnvA base g ws sz w ab rr p (Z.setCell ⟨ab, 1, none⟩ (.slice A' (n + 1) c')) (.ok s3) A' (n + 1) c' (l ++ [tm]) from
                       ⟨hPZ.far hAZ (by decide) (by decide) (by decide) ht2, hAZ.set_ 1 _, ht2.bk hRZ har, own_only hoZ hAZ (by decide) ht2, hKZ.fresh ht2 hab2 (by omega) hAZ.lt⟩)
                     obtain ⟨e3, c5z, he31, he32⟩ := hPZ.err
                     clear hoZ hgZ htZ hPZ hAZ hRZ hKZ ht2 hlit HEZ HRZ hZs
                     have de3 : ((e3 : Int) == 0) = true := by rw [he31 s3 rfl]; rfl
                     clear he31 he32)
                  | go_skip | go_guarded | go_step)
                generalize (Z.setCell ⟨ab, 1, none⟩ (.slice A' (n + 1) c')) = X2 at HE2 ⊢
                refine (pKindS 0 (by omega) HE2.out.st).mono ?_
                rintro e V5 ⟨kk7, rfl, hq0, q5, rfl⟩
                have hq7 : kk7 = kindE s3.1 := hq0 s3 rfl
                have HQ7 := Lib.hid hq7
                have HE5 := Lib.hid (HE2.out.drews q5)
                clear hq0 hq7 HE2
                generalize X2.drewN q5 = X5 at HE5 ⊢
                dsimp only
                by_cases h7 : kk7 = 7
                · have d7 : ((kk7 : Int) == 7) = true := by rw [h7]; rfl
                  have HK7 := Lib.hid (show kindE s3.1 = 7 by rw [← HQ7.out]; exact h7)
                  clear h7
                  obtain ⟨k5, s5c, s5f, hk57, hst5⟩ := HE5.out.st.step
                  obtain ⟨hn51, hn52⟩ := hst5 s3 rfl (kindE_ne HK7.out (by omega))
                  have HE6 := Lib.hid (HE5.out.go hn51 hn52 hag hrg)
                  clear hst5 hn51 hn52 HE5
                  repeat (first | go_skip | go_guarded | go_step)
                  generalize X5.setCell ⟨g, 1, none⟩ (.int .i64 ((k5 : Int) + 1)) = X6 at HE6 ⊢
                  go_roundw
                  case rel => exact ⟨.ok (nextE s3), A', n + 1, c', l ++ [tm], HE6.out, by omega, by rw [List.length_append, HLL.out]; rfl, by
                    show argsE sz (7 - (n + 1)) (l ++ [tm]) (nextE s3) = _
                    rw [← HN2.out, HST.out, HTE.out, bindE_of rfl, if_pos HK7.out, show 7 - (n + 1) = 6 - n by omega]⟩
                  case measure =>
                    rw [HE6.out.a.cell 1, HE.out.a.cell 1]
                    show 8 - (n + 1) < 8 - n
                    omega
                · have d7 : ((kk7 : Int) == 7) = false := by rw [beq_eq_false_iff_ne]; omega
                  have HK7 := Lib.hid (show ¬ kindE s3.1 = 7 by rw [← HQ7.out]; exact h7)
                  clear h7
                  repeat (first | go_skip | go_guarded | go_step)
                  refine (pWordS 6 (by omega) HE5.out.st).mono ?_
                  rintro e V6 ⟨T6, rfl, hp6, hk6⟩
                  have HE6 := Lib.hid (HE5.out.go hp6 hk6 hag hrg)
                  have HRES := Lib.hid (show argsE sz 7 [] (nextE s1) = bindE (wordE sz 6 s3) fun _ s2 => .ok (l ++ [tm], s2) by rw [← HN2.out, HST.out, HTE.out, bindE_of rfl, if_neg HK7.out])
                  clear hp6 hk6
                  dsimp only
                  have a0 : V6.cell? ⟨ab, 0, none⟩ = some (nv p) := HE6.out.a.cell 0
                  have a1 : V6.cell? ⟨ab, 1, none⟩ = some (.slice A' (n + 1) c') := HE6.out.a.cell 1
                  have r0 : V6.cell? ⟨rr, 0, none⟩ = some (.int .u32 0) := HE6.out.r.cell 0
                  have r1 : V6.cell? ⟨rr, 1, none⟩ = some (.slice none 0 0) := HE6.out.r.cell 1
                  have rf0 : V6.frozen? ⟨rr, 0, none⟩ = false := HE6.out.r.frozen 0
                  have rf1 : V6.frozen? ⟨rr, 1, none⟩ = false := HE6.out.r.frozen 1
                  repeat (first | go_skip | go_guarded | go_step)
                  (try simp only [Exit.inBlock, Exit.then])
                  refine bodyPost_ret (results_cell_row rfl _ _ rr _ _ _ _ rfl (atom_end HE6.out.r _ _) Tryz.underlying49 rfl (by kernel_rfl)) rfl ?_
                  exact ⟨p, A', (n + 1), c', (l ++ [tm]), rfl, own_only HE6.out.own HE6.out.r (by decide) (only_set2 _ _), by omega, PSt.far (by
                      rw [HRUN2.out, HRES.out]
                      have h := HE6.out.st
                      revert h
                      show PSt V6 base g ws sz (stE (wordE sz 6 s3)) → _
                      cases wordE sz 6 s3 with
                      | error z => exact fun h => h
                      | ok z => exact fun h => h) HE6.out.r (by decide) (by decide) (by decide) (only_set2 _ _), (by
                      rw [HRUN2.out, HRES.out]
                      cases wordE sz 6 s3 with
                      | error z => intro u s h; cases h
                      | ok z => intro u s h; cases h; rfl), HE6.out.kp.fresh (only_set2 _ _) hrw hrb HE6.out.r.lt⟩
            · have d6 : ((n : Int) == 6) = false := by rw [beq_eq_false_iff_ne]; omega
              have HE3 := HE
              repeat (first | go_skip | go_guarded | go_step)
              refine (pTermS HE3.out.st).mono ?_
              rintro e V ⟨tm, rfl, hp9, hs9, hk9⟩
              have hE9 := HE3.out.go hp9 hk9 hag hrg
              obtain ⟨Y, hY, hT, hbY⟩ : ∃ Y, Y = V.alloc (.cells #[.bool tm.1, nv tm.2] 46) ∧ Bk Y V.heap.size 46 [.bool tm.1, nv tm.2] ∧ Below V.heap.size V Y := ⟨_, rfl, Bk.new V _ _, (Below.refl _ _).alloc (Nat.le_refl _) _⟩
              obtain ⟨tb, htb⟩ : ∃ tb, tb = V.heap.size := ⟨_, rfl⟩
              rw [← htb] at hT
              have hEY : EnvA base g ws sz w ab rr p Y (stE (termE sz s2)) A n c l := by rw [hY]; exact hE9.alloc _
              have HEY := Lib.hid hEY
              have HY := Lib.hid hY
              have HTB := Lib.hid htb
              have HT := Lib.hid hT
              have hs9 : saysE (termE sz s2) tm := hs9
              have HS9 := Lib.hid hs9
              clear hp9 hs9 hk9 hE9 hEY hY htb hT hbY a0 a1 r0 r1 rf0 rf1
              dsimp only
              go_upto_region 10 with (fail)
              rw [← HY.out, ← HTB.out]
              clear HY HTB HE3
              have a1 : Y.cell? ⟨ab, 1, none⟩ = some (.slice A n c) := HEY.out.a.cell 1
              have t0 : Y.cell? ⟨tb, 0, none⟩ = some (.bool tm.1) := HT.out.cell 0
              have t1 : Y.cell? ⟨tb, 1, none⟩ = some (nv tm.2) := HT.out.cell 1
              have hlit := run_litTm (.bool tm.1) (nv tm.2) Y
              have hYs : w.heap.size ≤ Y.heap.size := HEY.out.kp.below.size
              have HEZ := Lib.hid (show EnvA base g ws sz w ab rr p (Y.alloc (.cells #[.bool tm.1, nv tm.2] 46)) (stE (termE sz s2)) A n c l from HEY.out.alloc _)
              have HRZ := Lib.hid (show RdT (Y.alloc (.cells #[.bool tm.1, nv tm.2] 46)) (Y.alloc (.cells #[.bool tm.1, nv tm.2] 46)).heap.size (some ⟨Y.heap.size, 0, none⟩) 1 [tm] from tmBk_rd (Bk.new Y _ [.bool tm.1, nv tm.2]))
              have hZs : w.heap.size ≤ (Y.alloc (.cells #[.bool tm.1, nv tm.2] 46)).heap.size := HEZ.out.kp.below.size
              cases hte : termE sz s2 with
              | error z =>
                have HTE := Lib.hid hte
                rw [hte] at HEZ
                clear hte
                repeat (first
                  | (at_builtin; refine appTt _ rfl (.tmp 51) (.tmp 53) rfl w.heap.size A c n l rfl HEZ.out.own _ _ 1 1 [tm] rfl HRZ.out (by omega) hZs ?_
                     intro A' c' Z hoZ hgZ
                     have htZ := Typ.ofGrown HEZ.out.own hgZ
                     have hPZ := HEZ.out.st.typ htZ (by decide) (by decide) (by decide)
                     have hAZ := htZ.bk HEZ.out.a (by decide)
                     have hRZ := htZ.bk HEZ.out.r (by decide)
                     have hKZ := HEZ.out.kp.grown HEZ.out.own (Nat.le_refl _) (by omega) HEZ.out.st.text hgZ
                     have z1 : Z.cell? ⟨ab, 1, none⟩ = some (.slice A n c) := hAZ.cell 1
                     have zf : Z.frozen? ⟨ab, 1, none⟩ = false := hAZ.frozen 1
                     have ht2 : Only ab Z (Z.setCell ⟨ab, 1, none⟩ (.slice A' (n + 1) c')) := Turn.setCell (G := fun j => j = ab) (Turn.refl _ Z) (fun _ => rfl) _
                     have HE2 := Lib.hid (show EnvA base g ws sz w ab rr p (Z.setCell ⟨ab, 1, none⟩ (.slice A' (n + 1) c')) (.error z) A' (n + 1) c' (l ++ [tm]) from
                       ⟨hPZ.far hAZ (by decide) (by decide) (by decide) ht2, hAZ.set_ 1 _, ht2.bk hRZ har, own_only hoZ hAZ (by decide) ht2, hKZ.fresh ht2 hab2 (by omega) hAZ.lt⟩)
                     obtain ⟨e3, c5z, he31, he32⟩ := hPZ.err
                     clear hoZ hgZ htZ hPZ hAZ hRZ hKZ ht2 hlit HEZ HRZ hZs
                     have de3 : ((e3 : Int) == 0) = false := by (have := he32 z rfl; rw [beq_eq_false_iff_ne]; omega)
                     clear he31 he32)
                  | go_skip | go_guarded | go_step)
                generalize (Z.setCell ⟨ab, 1, none⟩ (.slice A' (n + 1) c')) = X2 at HE2 ⊢
                refine (pWordS 6 (by omega) HE2.out.st).mono ?_
                rintro e V5 ⟨T5, rfl, hp5, hk5⟩
                have HE5 := Lib.hid (HE2.out.go hp5 hk5 hag hrg)
                clear hp5 hk5
                dsimp only
                have a0 : V5.cell? ⟨ab, 0, none⟩ = some (nv p) := HE5.out.a.cell 0
                have a1 : V5.cell? ⟨ab, 1, none⟩ = some (.slice A' (n + 1) c') := HE5.out.a.cell 1
                have r0 : V5.cell? ⟨rr, 0, none⟩ = some (.int .u32 0) := HE5.out.r.cell 0
                have r1 : V5.cell? ⟨rr, 1, none⟩ = some (.slice none 0 0) := HE5.out.r.cell 1
                have rf0 : V5.frozen? ⟨rr, 0, none⟩ = false := HE5.out.r.frozen 0
                have rf1 : V5.frozen? ⟨rr, 1, none⟩ = false := HE5.out.r.frozen 1
                repeat (first | go_skip | go_guarded | go_step)
                (try simp only [Exit.inBlock, Exit.then])
                refine bodyPost_ret (results_cell_row rfl _ _ rr _ _ _ _ rfl (atom_end HE5.out.r _ _) Tryz.underlying49 rfl (by kernel_rfl)) rfl ?_
                exact ⟨p, A', (n + 1), c', (l ++ [tm]), rfl, own_only HE5.out.own HE5.out.r (by decide) (only_set2 _ _), by omega, PSt.far (by rw [HRUN2.out, ← HN2.out, HST.out, HTE.out]; exact HE5.out.st) HE5.out.r (by decide) (by decide) (by decide) (only_set2 _ _), (by rw [HRUN2.out, ← HN2.out, HST.out, HTE.out]; intro u s h; cases h), HE5.out.kp.fresh (only_set2 _ _) hrw hrb HE5.out.r.lt⟩
              | ok z =>
                obtain ⟨t3, s3⟩ := z
                obtain rfl : tm = t3 := HS9.out t3 s3 hte
                have HTE := Lib.hid hte
                have hn5 : n ≤ 5 := by
                  rcases Nat.lt_or_ge n 6 with h | h
                  · omega
                  · exact absurd ⟨by omega, term_kind hte⟩ HM.out
                rw [hte] at HEZ
                clear hte
                repeat (first
                  | (at_builtin; refine appTt _ rfl (.tmp 51) (.tmp 53) rfl w.heap.size A c n l rfl HEZ.out.own _ _ 1 1 [tm] rfl HRZ.out (by omega) hZs ?_
                     intro A' c' Z hoZ hgZ
                     have htZ := Typ.ofGrown HEZ.out.own hgZ
                     have hPZ := HEZ.out.st.typ htZ (by decide) (by decide) (by decide)
                     have hAZ := htZ.bk HEZ.out.a (by decide)
                     have hRZ := htZ.bk HEZ.out.r (by decide)
                     have hKZ := HEZ.out.kp.grown HEZ.out.own (Nat.le_refl _) (by omega) HEZ.out.st.text hgZ
                     have z1 : Z.cell? ⟨ab, 1, none⟩ = some (.slice A n c) := hAZ.cell 1
                     have zf : Z.frozen? ⟨ab, 1, none⟩ = false := hAZ.frozen 1
                     have ht2 : Only ab Z (Z.setCell ⟨ab, 1, none⟩ (.slice A' (n + 1) c')) := Turn.setCell (G := fun j => j = ab) (Turn.refl _ Z) (fun _ => rfl) _
                     have HE2 := Lib.hid (show EnvA base g ws sz w ab rr p (Z.setCell ⟨ab, 1, none⟩ (.slice A' (n + 1) c')) (.ok s3) A' (n + 1) c' (l ++ [tm]) from
                       ⟨hPZ.far hAZ (by decide) (by decide) (by decide) ht2, hAZ.set_ 1 _, ht2.bk hRZ har, own_only hoZ hAZ (by decide) ht2, hKZ.fresh ht2 hab2 (by omega) hAZ.lt⟩)
                     obtain ⟨e3, c5z, he31, he32⟩ := hPZ.err
                     clear hoZ hgZ htZ hPZ hAZ hRZ hKZ ht2 hlit HEZ HRZ hZs
                     have de3 : ((e3 : Int) == 0) = true := by rw [he31 s3 rfl]; rfl
                     clear he31 he32)
                  | go_skip | go_guarded | go_step)
                generalize (Z.setCell ⟨ab, 1, none⟩ (.slice A' (n + 1) c')) = X2 at HE2 ⊢
                refine (pKindS 0 (by omega) HE2.out.st).mono ?_
                rintro e V5 ⟨kk7, rfl, hq0, q5, rfl⟩
                have hq7 : kk7 = kindE s3.1 := hq0 s3 rfl
                have HQ7 := Lib.hid hq7
                have HE5 := Lib.hid (HE2.out.drews q5)
                clear hq0 hq7 HE2
                generalize X2.drewN q5 = X5 at HE5 ⊢
                dsimp only
                by_cases h7 : kk7 = 7
                · have d7 : ((kk7 : Int) == 7) = true := by rw [h7]; rfl
                  have HK7 := Lib.hid (show kindE s3.1 = 7 by rw [← HQ7.out]; exact h7)
                  clear h7
                  obtain ⟨k5, s5c, s5f, hk57, hst5⟩ := HE5.out.st.step
                  obtain ⟨hn51, hn52⟩ := hst5 s3 rfl (kindE_ne HK7.out (by omega))
                  have HE6 := Lib.hid (HE5.out.go hn51 hn52 hag hrg)
                  clear hst5 hn51 hn52 HE5
                  repeat (first | go_skip | go_guarded | go_step)
                  generalize X5.setCell ⟨g, 1, none⟩ (.int .i64 ((k5 : Int) + 1)) = X6 at HE6 ⊢
                  go_roundw
                  case rel => exact ⟨.ok (nextE s3), A', n + 1, c', l ++ [tm], HE6.out, by omega, by rw [List.length_append, HLL.out]; rfl, by
                    show argsE sz (7 - (n + 1)) (l ++ [tm]) (nextE s3) = _
                    rw [← HN2.out, HST.out, HTE.out, bindE_of rfl, if_pos HK7.out, show 7 - (n + 1) = 6 - n by omega]⟩
                  case measure =>
                    rw [HE6.out.a.cell 1, HE.out.a.cell 1]
                    show 8 - (n + 1) < 8 - n
                    omega
                · have d7 : ((kk7 : Int) == 7) = false := by rw [beq_eq_false_iff_ne]; omega
                  have HK7 := Lib.hid (show ¬ kindE s3.1 = 7 by rw [← HQ7.out]; exact h7)
                  clear h7
                  repeat (first | go_skip | go_guarded | go_step)
                  refine (pWordS 6 (by omega) HE5.out.st).mono ?_
                  rintro e V6 ⟨T6, rfl, hp6, hk6⟩
                  have HE6 := Lib.hid (HE5.out.go hp6 hk6 hag hrg)
                  have HRES := Lib.hid (show argsE sz 7 [] (nextE s1) = bindE (wordE sz 6 s3) fun _ s2 => .ok (l ++ [tm], s2) by rw [← HN2.out, HST.out, HTE.out, bindE_of rfl, if_neg HK7.out])
                  clear hp6 hk6
                  dsimp only
                  have a0 : V6.cell? ⟨ab, 0, none⟩ = some (nv p) := HE6.out.a.cell 0
                  have a1 : V6.cell? ⟨ab, 1, none⟩ = some (.slice A' (n + 1) c') := HE6.out.a.cell 1
                  have r0 : V6.cell? ⟨rr, 0, none⟩ = some (.int .u32 0) := HE6.out.r.cell 0
                  have r1 : V6.cell? ⟨rr, 1, none⟩ = some (.slice none 0 0) := HE6.out.r.cell 1
                  have rf0 : V6.frozen? ⟨rr, 0, none⟩ = false := HE6.out.r.frozen 0
                  have rf1 : V6.frozen? ⟨rr, 1, none⟩ = false := HE6.out.r.frozen 1
                  repeat (first | go_skip | go_guarded | go_step)
                  (try simp only [Exit.inBlock, Exit.then])
                  refine bodyPost_ret (results_cell_row rfl _ _ rr _ _ _ _ rfl (atom_end HE6.out.r _ _) Tryz.underlying49 rfl (by kernel_rfl)) rfl ?_
                  exact ⟨p, A', (n + 1), c', (l ++ [tm]), rfl, own_only HE6.out.own HE6.out.r (by decide) (only_set2 _ _), by omega, PSt.far (by
                      rw [HRUN2.out, HRES.out]
                      have h := HE6.out.st
                      revert h
                      show PSt V6 base g ws sz (stE (wordE sz 6 s3)) → _
                      cases wordE sz 6 s3 with
                      | error z => exact fun h => h
                      | ok z => exact fun h => h) HE6.out.r (by decide) (by decide) (by decide) (only_set2 _ _), (by
                      rw [HRUN2.out, HRES.out]
                      cases wordE sz 6 s3 with
                      | error z => intro u s h; cases h
                      | ok z => intro u s h; cases h; rfl), HE6.out.kp.fresh (only_set2 _ _) hrw hrb HE6.out.r.lt⟩
  · have dk : ((kk : Int) != 5) = true := by rw [bne_iff_ne]; omega
    repeat (first | go_skip | go_guarded | go_step)
    (try simp only [Exit.inBlock, Exit.then])
    refine bodyPost_ret (results_cell_row rfl _ _ rr _ _ _ _ rfl (atom_end HR3.out _ _) Tryz.underlying49 rfl (by kernel_rfl)) rfl ?_
    exact ⟨p, none, 0, 0, [], rfl, World.ownsRow_nil _ _ _ _, by omega, PSt.far (by
      rw [HRUN.out]
      cases y with
      | error z => exact HP3.out
      | ok s1 =>
        show PSt X base g ws sz (stE (if _ then _ else _))
        rw [if_neg (fun h => h5 (by rw [hkk s1 rfl]; exact h))]
        exact HP3.out) HR3.out (by decide) (by decide) (by decide) (only_set2 _ _), (by
      rw [HRUN.out]
      cases y with
      | error z => intro u s h; cases h
      | ok s1 =>
        show saysE (if _ then _ else _) _
        rw [if_neg (fun h => h5 (by rw [hkk s1 rfl]; exact h))]
        intro u s h
        cases h
        rfl), HK3.out.fresh (only_set2 _ _) hrw hrb HR3.out.lt⟩
end Go.Proofs.YtoigpbajefkpoaaGreatDoor

