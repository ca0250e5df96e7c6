/- Texts, packed: PaY -/
import Derived.Test.YtoigpbajefkpoaaGreatDoorPxI
set_option linter.unusedVariables false
set_option linter.unusedSimpArgs false
namespace Go.Proofs.YtoigpbajefkpoaaGreatDoor
open Go Go.RowKit

/-- What lies in memory while a thing of parts is read: the parser, the thing, and what is answered. -/
structure EnvL (T : TypeId) (zs : List Value) (base g : Nat) (ws : List Wd) (sz : Nat) (w : World) (ab rr : Nat) (wr : World) (y : Except PE PS) (cs : List Value) : Prop where
 st : PSt wr base g ws sz y
 a : Bk wr ab T cs
 r : Bk wr rr T zs
 kp : Kp base g w wr
section
variable {T : TypeId} {zs cs : List Value} {base g sz ab rr : Nat} {ws : List Wd} {w wr V : World} {y y' : Except PE PS}
theorem EnvL.go (h : EnvL T zs base g ws sz w ab rr wr y cs) (hp : PSt V base g ws sz y') (hk : Kp base g wr V) (h1 : ab ≠ g) (h2 : rr ≠ g) (hT : T ≠ 9) : EnvL T zs base g ws sz w ab rr V y' cs :=
 ⟨hp, hk.bk h.a hT h1, hk.bk h.r hT h2, h.kp.trans hk⟩
theorem EnvL.drews (h : EnvL T zs base g ws sz w ab rr wr y cs) (q : Nat) : EnvL T zs base g ws sz w ab rr (wr.drewN q) y cs := ⟨h.st.drews q, h.a, h.r, h.kp.drews q⟩
theorem EnvL.alloc (h : EnvL T zs base g ws sz w ab rr wr y cs) (o : Obj) : EnvL T zs base g ws sz w ab rr (wr.alloc o) y cs := by
 have hb : Below wr.heap.size wr (wr.alloc o) := (Below.refl _ _).alloc (Nat.le_refl _) _
 exact ⟨h.st.later hb, h.a.later hb, h.r.later hb, h.kp.alloc h.st.text _⟩
/-- Behind stores into the thing. -/
theorem EnvL.put (h : EnvL T zs base g ws sz w ab rr wr y cs) {cs' : List Value} (ht : Only ab wr V) (hb : Bk V ab T cs') (h1 : T ≠ PT) (h2 : T ≠ 9) (h3 : T ≠ 127) (har : rr ≠ ab) (hw : w.heap.size ≤ ab) (hbs : base ≤ ab) : EnvL T zs base g ws sz w ab rr V y cs' :=
 ⟨h.st.far h.a h1 h2 h3 ht, hb, ht.bk h.r har, h.kp.fresh ht hw hbs h.a.lt⟩
end
theorem bindE_skip {α β : Type} (r : Except PE (α × PS)) (k : PS → Except PE (β × PS)) : bindE r (fun _ s => k s) = runE (stE r) k := by cases r <;> rfl
theorem st_ret {α : Type} (y : Except PE PS) (v : α) : stE (runE y (fun s => .ok (v, s))) = y := by cases y <;> rfl
theorem says_ret {α : Type} (y : Except PE PS) (v : α) : saysE (runE y (fun s => .ok (v, s))) v := by
 intro u s h
 cases y with
 | error z => cases h
 | ok s0 => cases h; rfl
theorem only_set5 {w : World} {r : Nat} (u0 u1 u2 u3 u4 : Value) : Only r w (((((w.setCell ⟨r, 0, none⟩ u0).setCell ⟨r, 1, none⟩ u1).setCell ⟨r, 2, none⟩ u2).setCell ⟨r, 3, none⟩ u3).setCell ⟨r, 4, none⟩ u4) := (Turn.setCell (G := fun j => j = r) (Turn.setCell (G := fun j => j = r) (Turn.setCell (G := fun j => j = r) (Turn.setCell (G := fun j => j = r) (Turn.setCell (G := fun j => j = r) (Turn.refl _ w) (fun _ => rfl) u0) (fun _ => rfl) u1) (fun _ => rfl) u2) (fun _ => rfl) u3) (fun _ => rfl) u4)
theorem say_end {w : World} {r : Nat} {x0 x1 x2 x3 x4 : Value} (h : Bk w r 51 [x0, x1, x2, x3, x4]) (u0 u1 u2 u3 u4 : Value) : Bk (((((w.setCell ⟨r, 0, none⟩ u0).setCell ⟨r, 1, none⟩ u1).setCell ⟨r, 2, none⟩ u2).setCell ⟨r, 3, none⟩ u3).setCell ⟨r, 4, none⟩ u4) r 51 [u0, u1, u2, u3, u4] := ((((h.set_ 0 u0).set_ 1 u1).set_ 2 u2).set_ 3 u3).set_ 4 u4
theorem say_run_t {sz : Nat} {x : Except PE PS} (h : ∀ s, x = .ok s → kindE s.1 = 2 ∨ kindE s.1.tail = 4) : runE x (sayE sz) = bindE (runE x (termE sz)) fun t s1 => bindE (wordE sz 4 s1) fun _ s2 => bindE (atomE sz s2) fun a s3 => .ok ((true, t, a), s3) := by
 cases x with
 | error z => rfl
 | ok s =>
  show sayE sz s = bindE (termE sz s) _
  unfold sayE
  rw [if_pos (h s rfl)]
theorem say_run_f {sz : Nat} {x : Except PE PS} (h : ∀ s, x = .ok s → ¬ (kindE s.1 = 2 ∨ kindE s.1.tail = 4)) : runE x (sayE sz) = bindE (runE x (atomE sz)) fun a s1 => .ok ((false, (false, 0), a), s1) := by
 cases x with
 | error z => rfl
 | ok s =>
  show sayE sz s = bindE (atomE sz s) _
  unfold sayE
  rw [if_neg (h s rfl)]

set_option maxRecDepth 100000 in
set_option maxHeartbeats 8000000 in
theorem pSay_any (base g : Nat) (ws : List Wd) (sz : Nat) (x : Except PE PS) (w : World) (h : PSt w base g ws sz x) :
  Calls Tryz.prog 57 #[.pointer (some ⟨g, 0, none⟩)] w fun e w' => ∃ (sd : Bool) (tm : Tm) (p : UInt32) (A : Option Addr) (n c : Nat) (l : List Tm), e = .returned (.agg #[.bool sd, .bool tm.1, nv tm.2, nv p, .slice A n c]) ∧ OwT w' w.heap.size A c n l ∧ n ≤ 7 ∧ PSt w' base g ws sz (stE (runE x (sayE sz))) ∧ saysE (runE x (sayE sz)) (sd, tm, (p, l)) ∧ Kp base g w w' := by
 have hgl := h.at_.2
 have hgb := h.at_.1
 obtain ⟨rr, hrr⟩ : ∃ rr, rr = w.heap.size := ⟨_, rfl⟩
 obtain ⟨ab, hab⟩ : ∃ ab, ab = w.heap.size + 1 := ⟨_, rfl⟩
 obtain ⟨U, hU⟩ : ∃ U, U = (w.alloc (.cells #[.bool false, .bool false, .int .u32 0, .int .u32 0, .slice none 0 0] 51)).alloc (.cells #[.bool false, .bool false, .int .u32 0, .int .u32 0, .slice none 0 0] 51) := ⟨_, rfl⟩
 have hE : EnvL 51 [.bool false, .bool false, .int .u32 0, .int .u32 0, .slice none 0 0] base g ws sz w ab rr U x [.bool false, .bool false, .int .u32 0, .int .u32 0, .slice none 0 0] := by
  have hb1 : Below w.heap.size w (w.alloc (.cells #[.bool false, .bool false, .int .u32 0, .int .u32 0, .slice none 0 0] 51)) := (Below.refl _ _).alloc (Nat.le_refl _) _
  have hr : Bk (w.alloc (.cells #[.bool false, .bool false, .int .u32 0, .int .u32 0, .slice none 0 0] 51)) rr 51 [.bool false, .bool false, .int .u32 0, .int .u32 0, .slice none 0 0] := by rw [hrr]; exact Bk.new w _ [.bool false, .bool false, .int .u32 0, .int .u32 0, .slice none 0 0]
  have hs : (w.alloc (.cells #[.bool false, .bool false, .int .u32 0, .int .u32 0, .slice none 0 0] 51)).heap.size = w.heap.size + 1 := by simp
  have hb2 : Below (w.alloc (.cells #[.bool false, .bool false, .int .u32 0, .int .u32 0, .slice none 0 0] 51)).heap.size (w.alloc (.cells #[.bool false, .bool false, .int .u32 0, .int .u32 0, .slice none 0 0] 51)) U := by rw [hU]; exact (Below.refl _ _).alloc (Nat.le_refl _) _
  refine ⟨(h.later hb1).later hb2, ?_, hr.later hb2, ?_⟩
  ·
   rw [hU, hab, ← hs]
   exact Bk.new _ _ [.bool false, .bool false, .int .u32 0, .int .u32 0, .slice none 0 0]
  ·
   rw [hU]
   exact ((Kp.refl base g w).alloc (by omega) _).alloc (by rw [hs]; omega) _
 have hrg : rr ≠ g := by omega
 have hag : ab ≠ g := by omega
 have har : rr ≠ ab := by omega
 have hrw : w.heap.size ≤ rr := by omega
 have hrb : base ≤ rr := by omega
 have haw : w.heap.size ≤ ab := by omega
 have hab2 : base ≤ ab := by omega
 have hUs : w.heap.size ≤ U.heap.size := hE.kp.below.size
 have HU := Lib.hid hU
 have HRR := Lib.hid hrr
 have HAB := Lib.hid hab
 have HE := Lib.hid hE
 have HK0 := Lib.hid (fun q => pKindS 0 (by omega) (hE.st.drews q))
 have HK1 := Lib.hid (fun q => pKindS 1 (by omega) (hE.st.drews q))
 clear hU hrr hab hE h
 go_enter Tryz.func57, Tryz.ntmps57
 go_upto_region 2 with (fail)
 rw [← HU.out, ← HAB.out, ← HRR.out]
 clear HU HRR HAB
 repeat (first | go_skip | go_guarded | go_step)
 refine (HK0.out 0).mono ?_
 rintro e V ⟨kk, rfl, hq0, q1, rfl⟩
 have HQ0 := Lib.hid hq0
 clear hq0
 rw [World.drewN_zero]
 dsimp only
 by_cases h2 : kk = 2
 ·
  have d2 : ((kk : Int) == 2) = true := by rw [h2]; rfl
  have HC := Lib.hid (show ∀ s, x = .ok s → kindE s.1 = 2 ∨ kindE s.1.tail = 4 from fun s hs => Or.inl (by rw [← h2]; exact (HQ0.out s hs).symm))
  have HE2 := Lib.hid (HE.out.drews q1)
  clear h2 HQ0 HK1 HK0 HE
  generalize U.drewN q1 = X at HE2 ⊢
  have a0 : X.cell? ⟨ab, 0, none⟩ = some (.bool false) := HE2.out.a.cell 0
  have af0 : X.frozen? ⟨ab, 0, none⟩ = false := HE2.out.a.frozen 0
  have a1 : X.cell? ⟨ab, 1, none⟩ = some (.bool false) := HE2.out.a.cell 1
  have af1 : X.frozen? ⟨ab, 1, none⟩ = false := HE2.out.a.frozen 1
  have a2 : X.cell? ⟨ab, 2, none⟩ = some (.int .u32 0) := HE2.out.a.cell 2
  have af2 : X.frozen? ⟨ab, 2, none⟩ = false := HE2.out.a.frozen 2
  have a3 : X.cell? ⟨ab, 3, none⟩ = some (.int .u32 0) := HE2.out.a.cell 3
  have af3 : X.frozen? ⟨ab, 3, none⟩ = false := HE2.out.a.frozen 3
  have a4 : X.cell? ⟨ab, 4, none⟩ = some (.slice none 0 0) := HE2.out.a.cell 4
  have af4 : X.frozen? ⟨ab, 4, none⟩ = false := HE2.out.a.frozen 4
  have ht3 : Only ab X (X.setCell ⟨ab, 0, none⟩ (.bool true)) := Turn.setCell (G := fun j => j = ab) (Turn.refl _ X) (fun _ => rfl) _
  have HE3 := Lib.hid (HE2.out.put (cs' := [.bool true, .bool false, .int .u32 0, .int .u32 0, .slice none 0 0]) ht3 (HE2.out.a.set_ 0 _) (by decide) (by decide) (by decide) har haw hab2)
  clear ht3
  repeat (first | go_skip | go_guarded | go_step)
  generalize X.setCell ⟨ab, 0, none⟩ (.bool true) = X3 at HE3 ⊢
  clear a0 af0 a1 af1 a2 af2 a3 af3 a4 af4 HE2
  refine (pTermS HE3.out.st).mono ?_
  rintro e V4 ⟨tm, rfl, hp4, hs4, hk4⟩
  have HE4 := Lib.hid (HE3.out.go hp4 hk4 hag hrg (by decide))
  have HS4 := Lib.hid hs4
  clear hp4 hs4 hk4 HE3
  dsimp only
  have a0 : V4.cell? ⟨ab, 0, none⟩ = some (.bool true) := HE4.out.a.cell 0
  have af0 : V4.frozen? ⟨ab, 0, none⟩ = false := HE4.out.a.frozen 0
  have a1 : V4.cell? ⟨ab, 1, none⟩ = some (.bool false) := HE4.out.a.cell 1
  have af1 : V4.frozen? ⟨ab, 1, none⟩ = false := HE4.out.a.frozen 1
  have a2 : V4.cell? ⟨ab, 2, none⟩ = some (.int .u32 0) := HE4.out.a.cell 2
  have af2 : V4.frozen? ⟨ab, 2, none⟩ = false := HE4.out.a.frozen 2
  have a3 : V4.cell? ⟨ab, 3, none⟩ = some (.int .u32 0) := HE4.out.a.cell 3
  have af3 : V4.frozen? ⟨ab, 3, none⟩ = false := HE4.out.a.frozen 3
  have a4 : V4.cell? ⟨ab, 4, none⟩ = some (.slice none 0 0) := HE4.out.a.cell 4
  have af4 : V4.frozen? ⟨ab, 4, none⟩ = false := HE4.out.a.frozen 4
  have ht5 : Only ab V4 ((V4.setCell ⟨ab, 1, none⟩ (.bool tm.1)).setCell ⟨ab, 2, none⟩ (nv tm.2)) := Turn.setCell (G := fun j => j = ab) (Turn.setCell (G := fun j => j = ab) (Turn.refl _ V4) (fun _ => rfl) _) (fun _ => rfl) _
  have HE5 := Lib.hid (HE4.out.put (cs' := [.bool true, .bool tm.1, nv tm.2, .int .u32 0, .slice none 0 0]) ht5 ((HE4.out.a.set_ 1 _).set_ 2 _) (by decide) (by decide) (by decide) har haw hab2)
  clear ht5
  repeat (first | go_skip | go_guarded | go_step)
  generalize (V4.setCell ⟨ab, 1, none⟩ (.bool tm.1)).setCell ⟨ab, 2, none⟩ (nv tm.2) = X5 at HE5 ⊢
  clear a0 af0 a1 af1 a2 af2 a3 af3 a4 af4 HE4
  refine (pWordS 4 (by omega) HE5.out.st).mono ?_
  rintro e V6 ⟨T6, rfl, hp6, hk6⟩
  have HE6 := Lib.hid (HE5.out.go hp6 hk6 hag hrg (by decide))
  clear hp6 hk6 HE5
  dsimp only
  repeat (first | go_skip | go_guarded | go_step)
  refine (pAtom_any base g ws sz _ V6 HE6.out.st).mono ?_
  rintro e V7 ⟨p, A, n, c, l, rfl, ho7, hn7, hp7, hs7, hk7⟩
  have HE7 := Lib.hid (HE6.out.go hp7 hk7 hag hrg (by decide))
  have HO7 := Lib.hid (ownBase ho7 HE6.out.kp.below.size)
  have HS7 := Lib.hid hs7
  clear ho7 hp7 hs7 hk7 HE6
  dsimp only
  have a0 : V7.cell? ⟨ab, 0, none⟩ = some (.bool true) := HE7.out.a.cell 0
  have af0 : V7.frozen? ⟨ab, 0, none⟩ = false := HE7.out.a.frozen 0
  have a1 : V7.cell? ⟨ab, 1, none⟩ = some (.bool tm.1) := HE7.out.a.cell 1
  have af1 : V7.frozen? ⟨ab, 1, none⟩ = false := HE7.out.a.frozen 1
  have a2 : V7.cell? ⟨ab, 2, none⟩ = some (nv tm.2) := HE7.out.a.cell 2
  have af2 : V7.frozen? ⟨ab, 2, none⟩ = false := HE7.out.a.frozen 2
  have a3 : V7.cell? ⟨ab, 3, none⟩ = some (.int .u32 0) := HE7.out.a.cell 3
  have af3 : V7.frozen? ⟨ab, 3, none⟩ = false := HE7.out.a.frozen 3
  have a4 : V7.cell? ⟨ab, 4, none⟩ = some (.slice none 0 0) := HE7.out.a.cell 4
  have af4 : V7.frozen? ⟨ab, 4, none⟩ = false := HE7.out.a.frozen 4
  have ht8 : Only ab V7 ((V7.setCell ⟨ab, 3, none⟩ (nv p)).setCell ⟨ab, 4, none⟩ (.slice A n c)) := Turn.setCell (G := fun j => j = ab) (Turn.setCell (G := fun j => j = ab) (Turn.refl _ V7) (fun _ => rfl) _) (fun _ => rfl) _
  have HE8 := Lib.hid (HE7.out.put (cs' := [.bool true, .bool tm.1, nv tm.2, nv p, .slice A n c]) ht8 ((HE7.out.a.set_ 3 _).set_ 4 _) (by decide) (by decide) (by decide) har haw hab2)
  have HO8 := Lib.hid (own_only HO7.out HE7.out.a (by decide) ht8)
  clear ht8
  go_upto_region 7 with (fail)
  generalize (V7.setCell ⟨ab, 3, none⟩ (nv p)).setCell ⟨ab, 4, none⟩ (.slice A n c) = X8 at HE8 HO8 ⊢
  clear a0 af0 a1 af1 a2 af2 a3 af3 a4 af4 HE7 HO7
  have a0 : X8.cell? ⟨ab, 0, none⟩ = some (.bool true) := HE8.out.a.cell 0
  have af0 : X8.frozen? ⟨ab, 0, none⟩ = false := HE8.out.a.frozen 0
  have a1 : X8.cell? ⟨ab, 1, none⟩ = some (.bool tm.1) := HE8.out.a.cell 1
  have af1 : X8.frozen? ⟨ab, 1, none⟩ = false := HE8.out.a.frozen 1
  have a2 : X8.cell? ⟨ab, 2, none⟩ = some (nv tm.2) := HE8.out.a.cell 2
  have af2 : X8.frozen? ⟨ab, 2, none⟩ = false := HE8.out.a.frozen 2
  have a3 : X8.cell? ⟨ab, 3, none⟩ = some (nv p) := HE8.out.a.cell 3
  have af3 : X8.frozen? ⟨ab, 3, none⟩ = false := HE8.out.a.frozen 3
  have a4 : X8.cell? ⟨ab, 4, none⟩ = some (.slice A n c) := HE8.out.a.cell 4
  have af4 : X8.frozen? ⟨ab, 4, none⟩ = false := HE8.out.a.frozen 4
  have r0 : X8.cell? ⟨rr, 0, none⟩ = some (.bool false) := HE8.out.r.cell 0
  have rf0 : X8.frozen? ⟨rr, 0, none⟩ = false := HE8.out.r.frozen 0
  have r1 : X8.cell? ⟨rr, 1, none⟩ = some (.bool false) := HE8.out.r.cell 1
  have rf1 : X8.frozen? ⟨rr, 1, none⟩ = false := HE8.out.r.frozen 1
  have r2 : X8.cell? ⟨rr, 2, none⟩ = some (.int .u32 0) := HE8.out.r.cell 2
  have rf2 : X8.frozen? ⟨rr, 2, none⟩ = false := HE8.out.r.frozen 2
  have r3 : X8.cell? ⟨rr, 3, none⟩ = some (.int .u32 0) := HE8.out.r.cell 3
  have rf3 : X8.frozen? ⟨rr, 3, none⟩ = false := HE8.out.r.frozen 3
  have r4 : X8.cell? ⟨rr, 4, none⟩ = some (.slice none 0 0) := HE8.out.r.cell 4
  have rf4 : X8.frozen? ⟨rr, 4, none⟩ = false := HE8.out.r.frozen 4
  have HRES := Lib.hid (show runE x (sayE sz) = runE (stE (runE (stE (runE (stE (runE x (termE sz))) (wordE sz 4))) (atomE sz))) (fun s => .ok ((true, tm, (p, l)), s)) by
   rw [say_run_t HC.out, bindE_st _ _ HS4.out, runE_bind, bindE_skip, runE_bind, bindE_st _ _ HS7.out])
  repeat (first | go_skip | go_guarded | go_step)
  (try simp only [Exit.inBlock, Exit.then])
  refine bodyPost_ret (results_cell_row rfl _ _ rr _ _ _ _ rfl (say_end HE8.out.r _ _ _ _ _) Tryz.underlying51 rfl (by kernel_rfl)) rfl ?_
  exact ⟨true, tm, p, A, n, c, l, rfl, own_only HO8.out HE8.out.r (by decide) (only_set5 _ _ _ _ _), hn7, PSt.far (by rw [HRES.out, st_ret]; exact HE8.out.st) HE8.out.r (by decide) (by decide) (by decide) (only_set5 _ _ _ _ _), (by rw [HRES.out]; exact says_ret _ _), HE8.out.kp.fresh (only_set5 _ _ _ _ _) hrw hrb HE8.out.r.lt⟩
 ·
  have d2 : ((kk : Int) == 2) = false := by rw [beq_eq_false_iff_ne]; omega
  repeat (first | go_skip | go_guarded | go_step)
  refine (HK1.out q1).mono ?_
  rintro e V ⟨kk1, rfl, hq1, q2, rfl⟩
  have HQ1 := Lib.hid hq1
  clear hq1
  dsimp only
  have HE2 := Lib.hid ((HE.out.drews q1).drews q2)
  by_cases h4 : kk1 = 4
  ·
   have d4 : ((kk1 : Int) == 4) = true := by rw [h4]; rfl
   have HC := Lib.hid (show ∀ s, x = .ok s → kindE s.1 = 2 ∨ kindE s.1.tail = 4 from fun s hs => Or.inr (by rw [← h4, HQ1.out s hs, List.drop_one]))
   clear h2 h4 HQ0 HQ1 HK1 HK0 HE
   generalize (U.drewN q1).drewN q2 = X at HE2 ⊢
   have a0 : X.cell? ⟨ab, 0, none⟩ = some (.bool false) := HE2.out.a.cell 0
   have af0 : X.frozen? ⟨ab, 0, none⟩ = false := HE2.out.a.frozen 0
   have a1 : X.cell? ⟨ab, 1, none⟩ = some (.bool false) := HE2.out.a.cell 1
   have af1 : X.frozen? ⟨ab, 1, none⟩ = false := HE2.out.a.frozen 1
   have a2 : X.cell? ⟨ab, 2, none⟩ = some (.int .u32 0) := HE2.out.a.cell 2
   have af2 : X.frozen? ⟨ab, 2, none⟩ = false := HE2.out.a.frozen 2
   have a3 : X.cell? ⟨ab, 3, none⟩ = some (.int .u32 0) := HE2.out.a.cell 3
   have af3 : X.frozen? ⟨ab, 3, none⟩ = false := HE2.out.a.frozen 3
   have a4 : X.cell? ⟨ab, 4, none⟩ = some (.slice none 0 0) := HE2.out.a.cell 4
   have af4 : X.frozen? ⟨ab, 4, none⟩ = false := HE2.out.a.frozen 4
   have ht3 : Only ab X (X.setCell ⟨ab, 0, none⟩ (.bool true)) := Turn.setCell (G := fun j => j = ab) (Turn.refl _ X) (fun _ => rfl) _
   have HE3 := Lib.hid (HE2.out.put (cs' := [.bool true, .bool false, .int .u32 0, .int .u32 0, .slice none 0 0]) ht3 (HE2.out.a.set_ 0 _) (by decide) (by decide) (by decide) har haw hab2)
   clear ht3
   repeat (first | go_skip | go_guarded | go_step)
   generalize X.setCell ⟨ab, 0, none⟩ (.bool true) = X3 at HE3 ⊢
   clear a0 af0 a1 af1 a2 af2 a3 af3 a4 af4 HE2
   refine (pTermS HE3.out.st).mono ?_
   rintro e V4 ⟨tm, rfl, hp4, hs4, hk4⟩
   have HE4 := Lib.hid (HE3.out.go hp4 hk4 hag hrg (by decide))
   have HS4 := Lib.hid hs4
   clear hp4 hs4 hk4 HE3
   dsimp only
   have a0 : V4.cell? ⟨ab, 0, none⟩ = some (.bool true) := HE4.out.a.cell 0
   have af0 : V4.frozen? ⟨ab, 0, none⟩ = false := HE4.out.a.frozen 0
   have a1 : V4.cell? ⟨ab, 1, none⟩ = some (.bool false) := HE4.out.a.cell 1
   have af1 : V4.frozen? ⟨ab, 1, none⟩ = false := HE4.out.a.frozen 1
   have a2 : V4.cell? ⟨ab, 2, none⟩ = some (.int .u32 0) := HE4.out.a.cell 2
   have af2 : V4.frozen? ⟨ab, 2, none⟩ = false := HE4.out.a.frozen 2
   have a3 : V4.cell? ⟨ab, 3, none⟩ = some (.int .u32 0) := HE4.out.a.cell 3
   have af3 : V4.frozen? ⟨ab, 3, none⟩ = false := HE4.out.a.frozen 3
   have a4 : V4.cell? ⟨ab, 4, none⟩ = some (.slice none 0 0) := HE4.out.a.cell 4
   have af4 : V4.frozen? ⟨ab, 4, none⟩ = false := HE4.out.a.frozen 4
   have ht5 : Only ab V4 ((V4.setCell ⟨ab, 1, none⟩ (.bool tm.1)).setCell ⟨ab, 2, none⟩ (nv tm.2)) := Turn.setCell (G := fun j => j = ab) (Turn.setCell (G := fun j => j = ab) (Turn.refl _ V4) (fun _ => rfl) _) (fun _ => rfl) _
   have HE5 := Lib.hid (HE4.out.put (cs' := [.bool true, .bool tm.1, nv tm.2, .int .u32 0, .slice none 0 0]) ht5 ((HE4.out.a.set_ 1 _).set_ 2 _) (by decide) (by decide) (by decide) har haw hab2)
   clear ht5
   repeat (first | go_skip | go_guarded | go_step)
   generalize (V4.setCell ⟨ab, 1, none⟩ (.bool tm.1)).setCell ⟨ab, 2, none⟩ (nv tm.2) = X5 at HE5 ⊢
   clear a0 af0 a1 af1 a2 af2 a3 af3 a4 af4 HE4
   refine (pWordS 4 (by omega) HE5.out.st).mono ?_
   rintro e V6 ⟨T6, rfl, hp6, hk6⟩
   have HE6 := Lib.hid (HE5.out.go hp6 hk6 hag hrg (by decide))
   clear hp6 hk6 HE5
   dsimp only
   repeat (first | go_skip | go_guarded | go_step)
   refine (pAtom_any base g ws sz _ V6 HE6.out.st).mono ?_
   rintro e V7 ⟨p, A, n, c, l, rfl, ho7, hn7, hp7, hs7, hk7⟩
   have HE7 := Lib.hid (HE6.out.go hp7 hk7 hag hrg (by decide))
   have HO7 := Lib.hid (ownBase ho7 HE6.out.kp.below.size)
   have HS7 := Lib.hid hs7
   clear ho7 hp7 hs7 hk7 HE6
   dsimp only
   have a0 : V7.cell? ⟨ab, 0, none⟩ = some (.bool true) := HE7.out.a.cell 0
   have af0 : V7.frozen? ⟨ab, 0, none⟩ = false := HE7.out.a.frozen 0
   have a1 : V7.cell? ⟨ab, 1, none⟩ = some (.bool tm.1) := HE7.out.a.cell 1
   have af1 : V7.frozen? ⟨ab, 1, none⟩ = false := HE7.out.a.frozen 1
   have a2 : V7.cell? ⟨ab, 2, none⟩ = some (nv tm.2) := HE7.out.a.cell 2
   have af2 : V7.frozen? ⟨ab, 2, none⟩ = false := HE7.out.a.frozen 2
   have a3 : V7.cell? ⟨ab, 3, none⟩ = some (.int .u32 0) := HE7.out.a.cell 3
   have af3 : V7.frozen? ⟨ab, 3, none⟩ = false := HE7.out.a.frozen 3
   have a4 : V7.cell? ⟨ab, 4, none⟩ = some (.slice none 0 0) := HE7.out.a.cell 4
   have af4 : V7.frozen? ⟨ab, 4, none⟩ = false := HE7.out.a.frozen 4
   have ht8 : Only ab V7 ((V7.setCell ⟨ab, 3, none⟩ (nv p)).setCell ⟨ab, 4, none⟩ (.slice A n c)) := Turn.setCell (G := fun j => j = ab) (Turn.setCell (G := fun j => j = ab) (Turn.refl _ V7) (fun _ => rfl) _) (fun _ => rfl) _
   have HE8 := Lib.hid (HE7.out.put (cs' := [.bool true, .bool tm.1, nv tm.2, nv p, .slice A n c]) ht8 ((HE7.out.a.set_ 3 _).set_ 4 _) (by decide) (by decide) (by decide) har haw hab2)
   have HO8 := Lib.hid (own_only HO7.out HE7.out.a (by decide) ht8)
   clear ht8
   go_upto_region 7 with (fail)
   generalize (V7.setCell ⟨ab, 3, none⟩ (nv p)).setCell ⟨ab, 4, none⟩ (.slice A n c) = X8 at HE8 HO8 ⊢
   clear a0 af0 a1 af1 a2 af2 a3 af3 a4 af4 HE7 HO7
   have a0 : X8.cell? ⟨ab, 0, none⟩ = some (.bool true) := HE8.out.a.cell 0
   have af0 : X8.frozen? ⟨ab, 0, none⟩ = false := HE8.out.a.frozen 0
   have a1 : X8.cell? ⟨ab, 1, none⟩ = some (.bool tm.1) := HE8.out.a.cell 1
   have af1 : X8.frozen? ⟨ab, 1, none⟩ = false := HE8.out.a.frozen 1
   have a2 : X8.cell? ⟨ab, 2, none⟩ = some (nv tm.2) := HE8.out.a.cell 2
   have af2 : X8.frozen? ⟨ab, 2, none⟩ = false := HE8.out.a.frozen 2
   have a3 : X8.cell? ⟨ab, 3, none⟩ = some (nv p) := HE8.out.a.cell 3
   have af3 : X8.frozen? ⟨ab, 3, none⟩ = false := HE8.out.a.frozen 3
   have a4 : X8.cell? ⟨ab, 4, none⟩ = some (.slice A n c) := HE8.out.a.cell 4
   have af4 : X8.frozen? ⟨ab, 4, none⟩ = false := HE8.out.a.frozen 4
   have r0 : X8.cell? ⟨rr, 0, none⟩ = some (.bool false) := HE8.out.r.cell 0
   have rf0 : X8.frozen? ⟨rr, 0, none⟩ = false := HE8.out.r.frozen 0
   have r1 : X8.cell? ⟨rr, 1, none⟩ = some (.bool false) := HE8.out.r.cell 1
   have rf1 : X8.frozen? ⟨rr, 1, none⟩ = false := HE8.out.r.frozen 1
   have r2 : X8.cell? ⟨rr, 2, none⟩ = some (.int .u32 0) := HE8.out.r.cell 2
   have rf2 : X8.frozen? ⟨rr, 2, none⟩ = false := HE8.out.r.frozen 2
   have r3 : X8.cell? ⟨rr, 3, none⟩ = some (.int .u32 0) := HE8.out.r.cell 3
   have rf3 : X8.frozen? ⟨rr, 3, none⟩ = false := HE8.out.r.frozen 3
   have r4 : X8.cell? ⟨rr, 4, none⟩ = some (.slice none 0 0) := HE8.out.r.cell 4
   have rf4 : X8.frozen? ⟨rr, 4, none⟩ = false := HE8.out.r.frozen 4
   have HRES := Lib.hid (show runE x (sayE sz) = runE (stE (runE (stE (runE (stE (runE x (termE sz))) (wordE sz 4))) (atomE sz))) (fun s => .ok ((true, tm, (p, l)), s)) by
    rw [say_run_t HC.out, bindE_st _ _ HS4.out, runE_bind, bindE_skip, runE_bind, bindE_st _ _ HS7.out])
   repeat (first | go_skip | go_guarded | go_step)
   (try simp only [Exit.inBlock, Exit.then])
   refine bodyPost_ret (results_cell_row rfl _ _ rr _ _ _ _ rfl (say_end HE8.out.r _ _ _ _ _) Tryz.underlying51 rfl (by kernel_rfl)) rfl ?_
   exact ⟨true, tm, p, A, n, c, l, rfl, own_only HO8.out HE8.out.r (by decide) (only_set5 _ _ _ _ _), hn7, PSt.far (by rw [HRES.out, st_ret]; exact HE8.out.st) HE8.out.r (by decide) (by decide) (by decide) (only_set5 _ _ _ _ _), (by rw [HRES.out]; exact says_ret _ _), HE8.out.kp.fresh (only_set5 _ _ _ _ _) hrw hrb HE8.out.r.lt⟩
  ·
   have d4 : ((kk1 : Int) == 4) = false := by rw [beq_eq_false_iff_ne]; omega
   have HC := Lib.hid (show ∀ s, x = .ok s → ¬ (kindE s.1 = 2 ∨ kindE s.1.tail = 4) from fun s hs hor => by
    rcases hor with h | h
    ·
     exact h2 ((HQ0.out s hs).trans h)
    ·
     exact h4 (by rw [HQ1.out s hs, List.drop_one]; exact h))
   clear h2 h4 HQ0 HQ1 HK1 HK0 HE
   generalize (U.drewN q1).drewN q2 = X at HE2 ⊢
   repeat (first | go_skip | go_guarded | go_step)
   refine (pAtom_any base g ws sz _ X HE2.out.st).mono ?_
   rintro e V7 ⟨p, A, n, c, l, rfl, ho7, hn7, hp7, hs7, hk7⟩
   have HE7 := Lib.hid (HE2.out.go hp7 hk7 hag hrg (by decide))
   have HO7 := Lib.hid (ownBase ho7 HE2.out.kp.below.size)
   have HS7 := Lib.hid hs7
   clear ho7 hp7 hs7 hk7 HE2
   dsimp only
   have a0 : V7.cell? ⟨ab, 0, none⟩ = some (.bool false) := HE7.out.a.cell 0
   have af0 : V7.frozen? ⟨ab, 0, none⟩ = false := HE7.out.a.frozen 0
   have a1 : V7.cell? ⟨ab, 1, none⟩ = some (.bool false) := HE7.out.a.cell 1
   have af1 : V7.frozen? ⟨ab, 1, none⟩ = false := HE7.out.a.frozen 1
   have a2 : V7.cell? ⟨ab, 2, none⟩ = some (.int .u32 0) := HE7.out.a.cell 2
   have af2 : V7.frozen? ⟨ab, 2, none⟩ = false := HE7.out.a.frozen 2
   have a3 : V7.cell? ⟨ab, 3, none⟩ = some (.int .u32 0) := HE7.out.a.cell 3
   have af3 : V7.frozen? ⟨ab, 3, none⟩ = false := HE7.out.a.frozen 3
   have a4 : V7.cell? ⟨ab, 4, none⟩ = some (.slice none 0 0) := HE7.out.a.cell 4
   have af4 : V7.frozen? ⟨ab, 4, none⟩ = false := HE7.out.a.frozen 4
   have ht8 : Only ab V7 ((V7.setCell ⟨ab, 3, none⟩ (nv p)).setCell ⟨ab, 4, none⟩ (.slice A n c)) := Turn.setCell (G := fun j => j = ab) (Turn.setCell (G := fun j => j = ab) (Turn.refl _ V7) (fun _ => rfl) _) (fun _ => rfl) _
   have HE8 := Lib.hid (HE7.out.put (cs' := [.bool false, .bool false, .int .u32 0, nv p, .slice A n c]) ht8 ((HE7.out.a.set_ 3 _).set_ 4 _) (by decide) (by decide) (by decide) har haw hab2)
   have HO8 := Lib.hid (own_only HO7.out HE7.out.a (by decide) ht8)
   clear ht8
   go_upto_region 7 with (fail)
   generalize (V7.setCell ⟨ab, 3, none⟩ (nv p)).setCell ⟨ab, 4, none⟩ (.slice A n c) = X8 at HE8 HO8 ⊢
   clear a0 af0 a1 af1 a2 af2 a3 af3 a4 af4 HE7 HO7
   have a0 : X8.cell? ⟨ab, 0, none⟩ = some (.bool false) := HE8.out.a.cell 0
   have af0 : X8.frozen? ⟨ab, 0, none⟩ = false := HE8.out.a.frozen 0
   have a1 : X8.cell? ⟨ab, 1, none⟩ = some (.bool false) := HE8.out.a.cell 1
   have af1 : X8.frozen? ⟨ab, 1, none⟩ = false := HE8.out.a.frozen 1
   have a2 : X8.cell? ⟨ab, 2, none⟩ = some (.int .u32 0) := HE8.out.a.cell 2
   have af2 : X8.frozen? ⟨ab, 2, none⟩ = false := HE8.out.a.frozen 2
   have a3 : X8.cell? ⟨ab, 3, none⟩ = some (nv p) := HE8.out.a.cell 3
   have af3 : X8.frozen? ⟨ab, 3, none⟩ = false := HE8.out.a.frozen 3
   have a4 : X8.cell? ⟨ab, 4, none⟩ = some (.slice A n c) := HE8.out.a.cell 4
   have af4 : X8.frozen? ⟨ab, 4, none⟩ = false := HE8.out.a.frozen 4
   have r0 : X8.cell? ⟨rr, 0, none⟩ = some (.bool false) := HE8.out.r.cell 0
   have rf0 : X8.frozen? ⟨rr, 0, none⟩ = false := HE8.out.r.frozen 0
   have r1 : X8.cell? ⟨rr, 1, none⟩ = some (.bool false) := HE8.out.r.cell 1
   have rf1 : X8.frozen? ⟨rr, 1, none⟩ = false := HE8.out.r.frozen 1
   have r2 : X8.cell? ⟨rr, 2, none⟩ = some (.int .u32 0) := HE8.out.r.cell 2
   have rf2 : X8.frozen? ⟨rr, 2, none⟩ = false := HE8.out.r.frozen 2
   have r3 : X8.cell? ⟨rr, 3, none⟩ = some (.int .u32 0) := HE8.out.r.cell 3
   have rf3 : X8.frozen? ⟨rr, 3, none⟩ = false := HE8.out.r.frozen 3
   have r4 : X8.cell? ⟨rr, 4, none⟩ = some (.slice none 0 0) := HE8.out.r.cell 4
   have rf4 : X8.frozen? ⟨rr, 4, none⟩ = false := HE8.out.r.frozen 4
   have HRES := Lib.hid (show runE x (sayE sz) = runE (stE (runE x (atomE sz))) (fun s => .ok ((false, (false, 0), (p, l)), s)) by
    rw [say_run_f HC.out, bindE_st _ _ HS7.out])
   repeat (first | go_skip | go_guarded | go_step)
   (try simp only [Exit.inBlock, Exit.then])
   refine bodyPost_ret (results_cell_row rfl _ _ rr _ _ _ _ rfl (say_end HE8.out.r _ _ _ _ _) Tryz.underlying51 rfl (by kernel_rfl)) rfl ?_
   exact ⟨false, (false, 0), p, A, n, c, l, rfl, own_only HO8.out HE8.out.r (by decide) (only_set5 _ _ _ _ _), hn7, PSt.far (by rw [HRES.out, st_ret]; exact HE8.out.st) HE8.out.r (by decide) (by decide) (by decide) (only_set5 _ _ _ _ _), (by rw [HRES.out]; exact says_ret _ _), HE8.out.kp.fresh (only_set5 _ _ _ _ _) hrw hrb HE8.out.r.lt⟩

set_option maxRecDepth 100000 in
set_option maxHeartbeats 8000000 in
theorem pBegins_any (base g : Nat) (ws : List Wd) (sz : Nat) (x : Except PE PS) (w : World) (h : PSt w base g ws sz x) :
  Calls Tryz.prog 59 #[.pointer (some ⟨g, 0, none⟩)] w fun e w' => ∃ b : Bool, e = .returned (.bool b) ∧ (∀ s, x = .ok s → b = decide (kindE s.1 = 3 ∨ kindE s.1 = 1 ∨ kindE s.1 = 2)) ∧ ∃ q, w' = w.drewN q := by
 go_enter Tryz.func59, Tryz.ntmps59
 repeat (first | go_skip | go_guarded | go_step)
 refine (pKindS 0 (by omega) h).mono ?_
 rintro e V ⟨kk, rfl, hq, q, rfl⟩
 have HQ := Lib.hid (show ∀ s, x = .ok s → kk = kindE s.1 from fun s hs => hq s hs)
 clear hq h
 dsimp only
 by_cases h3 : kk = 3
 ·
  have d3 : ((kk : Int) == 3) = true := by rw [h3]; rfl
  have HB := Lib.hid (show ∀ s, x = .ok s → true = decide (kindE s.1 = 3 ∨ kindE s.1 = 1 ∨ kindE s.1 = 2) from fun s hs => (decide_eq_true (Or.inl (by rw [← HQ.out s hs]; exact h3))).symm)
  clear h3
  repeat (first | go_skip | go_guarded | go_step)
  go_ret
  exact ⟨true, rfl, HB.out, q, rfl⟩
 ·
  have d3 : ((kk : Int) == 3) = false := by rw [beq_eq_false_iff_ne]; omega
  by_cases h1 : kk = 1
  ·
   have d1 : ((kk : Int) == 1) = true := by rw [h1]; rfl
   have HB := Lib.hid (show ∀ s, x = .ok s → true = decide (kindE s.1 = 3 ∨ kindE s.1 = 1 ∨ kindE s.1 = 2) from fun s hs => (decide_eq_true (Or.inr (Or.inl (by rw [← HQ.out s hs]; exact h1)))).symm)
   clear h3 h1
   repeat (first | go_skip | go_guarded | go_step)
   go_ret
   exact ⟨true, rfl, HB.out, q, rfl⟩
  ·
   have d1 : ((kk : Int) == 1) = false := by rw [beq_eq_false_iff_ne]; omega
   by_cases h2 : kk = 2
   ·
    have d2 : ((kk : Int) == 2) = true := by rw [h2]; rfl
    have HB := Lib.hid (show ∀ s, x = .ok s → true = decide (kindE s.1 = 3 ∨ kindE s.1 = 1 ∨ kindE s.1 = 2) from fun s hs => (decide_eq_true (Or.inr (Or.inr (by rw [← HQ.out s hs]; exact h2)))).symm)
    clear h3 h1 h2
    repeat (first | go_skip | go_guarded | go_step)
    go_ret
    exact ⟨true, rfl, HB.out, q, rfl⟩
   ·
    have d2 : ((kk : Int) == 2) = false := by rw [beq_eq_false_iff_ne]; omega
    have HB := Lib.hid (show ∀ s, x = .ok s → false = decide (kindE s.1 = 3 ∨ kindE s.1 = 1 ∨ kindE s.1 = 2) from fun s hs => (decide_eq_false (by rw [← HQ.out s hs]; omega)).symm)
    clear h3 h1 h2
    repeat (first | go_skip | go_guarded | go_step)
    go_ret
    exact ⟨false, rfl, HB.out, q, rfl⟩
end Go.Proofs.YtoigpbajefkpoaaGreatDoor

