/- Texts, packed: PaX -/
import Derived.Test.YtoigpbajefkpoaaGreatDoorPxJ
set_option linter.unusedVariables false
set_option linter.unusedSimpArgs false
namespace Go.Proofs.YtoigpbajefkpoaaGreatDoor
open Go Go.RowKit

/-- An own row of conditions, each with an own row of terms. -/
structure OwC (w : World) (base : Nat) (A : Option Addr) (c n : Nat) (R : List SlA) (L : List Co) : Prop where
  lenR : R.length = n
  lenL : L.length = n
  top : w.ownsRow base 103 6 (.slice A n c) n ((L.zip R).flatMap coC)
  row : ∀ (i : Nat) (r : SlA) (x : Co), R[i]? = some r → L[i]? = some x → OwT w base r.1 r.2.2 r.2.1 x.2.2.2.2
section
variable {w w' : World} {base : Nat} {A : Option Addr} {c n : Nat} {R : List SlA} {L : List Co}
theorem OwC.nil (w : World) (base : Nat) : OwC w base none 0 0 [] [] := ⟨rfl, rfl, World.ownsRow_nil _ _ _ _, fun i r x h => by simp at h⟩
theorem OwC.map (h : OwC w base A c n R L) (f : ∀ e s v n xs, (e = 103 ∨ e = 46) → w.ownsRow base e s v n xs → w'.ownsRow base e s v n xs) : OwC w' base A c n R L :=
  ⟨h.lenR, h.lenL, f _ _ _ _ _ (Or.inl rfl) h.top, fun i r x h1 h2 => f _ _ _ _ _ (Or.inr rfl) (h.row i r x h1 h2)⟩
theorem OwC.rd (h : OwC w base A c n R L) : RdK w w.heap.size A n R L := ⟨h.lenR, h.lenL, Rd.ofOwn h.top, fun i r x h1 h2 => OwT.rd (h.row i r x h1 h2)⟩
theorem OwC.later (h : OwC w base A c n R L) (hb : Below w.heap.size w w') : OwC w' base A c n R L := h.map fun e s v n xs _ ho => ownBelow ho hb (Nat.le_refl _)
theorem OwC.kp {b0 g : Nat} {cs : List Value} (h : OwC w base A c n R L) (hk : Kp b0 g w w') (hb : Bk w g PT cs) : OwC w' base A c n R L :=
  h.map fun e s v n xs he ho => hk.own ho hb (by rcases he with rfl | rfl <;> decide) (by rcases he with rfl | rfl <;> decide)
theorem OwC.only {r : Nat} {T : TypeId} {cs : List Value} (h : OwC w base A c n R L) (hb : Bk w r T cs) (h1 : T ≠ 103) (h2 : T ≠ 46) (ht : Only r w w') : OwC w' base A c n R L :=
  h.map fun e s v n xs he ho => own_only ho hb (by rcases he with rfl | rfl <;> assumption) ht
theorem OwC.snoc (h : OwC w base A c n R L) {r : SlA} {x : Co} (hr : OwT w base r.1 r.2.2 r.2.1 x.2.2.2.2) {A' : Option Addr} {c' : Nat}
    (ho : w'.ownsRow base 103 6 (.slice A' (n + 1) c') (n + 1) ((L.zip R).flatMap coC ++ coC (x, r))) (ht : Typ 103 w w') : OwC w' base A' c' (n + 1) (R ++ [r]) (L ++ [x]) := by
  refine ⟨by simp [h.lenR], by simp [h.lenL], ?_, ?_⟩
  · rw [List.zip_append (by rw [h.lenL, h.lenR]), List.flatMap_append]
    simpa using ho
  · intro i r' x' e1 e2
    by_cases hi : i < n
    · rw [List.getElem?_append_left (by rw [h.lenR]; exact hi)] at e1
      rw [List.getElem?_append_left (by rw [h.lenL]; exact hi)] at e2
      exact ht.own (h.row i r' x' e1 e2) (by decide)
    · have hil : i = n := by
        have := (List.getElem?_eq_some_iff.1 e1).1
        simp only [List.length_append, List.length_cons, List.length_nil, h.lenR] at this
        omega
      subst hil
      rw [List.getElem?_append_right (by rw [h.lenR]; omega), h.lenR, Nat.sub_self] at e1
      rw [List.getElem?_append_right (by rw [h.lenL]; omega), h.lenL, Nat.sub_self] at e2
      simp only [List.getElem?_cons_zero, Option.some.injEq] at e1 e2
      subst e1 e2
      exact ht.own hr (by decide)
theorem OwC.cap (h : OwC w base A c n R L) : n ≤ c := by
  obtain ⟨A1, c1, hv, hl⟩ := ownForm h.top
  cases hv
  exact hl
end
theorem kondInfo : (Tryz.prog.info? 103).map (fun i => (i.zero, i.size, i.bytes)) = some (some (.agg #[.bool false, .bool false, .bool false, .int .u32 0, .int .u32 0, .slice none 0 0]), 6, 56) := by kernel_rfl
theorem coC_one1 (z : Co × SlA) : ∀ u ∈ coC z, u.oneCell' = true := by
  intro u hu
  simp only [coC, List.mem_cons, List.not_mem_nil, or_false] at hu
  rcases hu with rfl | rfl | rfl | rfl | rfl | rfl <;> rfl
theorem appC {ops : Array Oper} {rest : List Oper} {o : Oper} {a : Act} {Q : Exit → Act → World → Prop} (w : World) (hgd : o.guard = none) (p x : Operand)
    (ho : o.op = .call { callee := .builtin .append, args := #[p, x], argTypes := #[52, 52] })
    (base : Nat) (A0 : Option Addr) (c0 n : Nat) (R : List SlA) (L : List Co) (hv : a.eval p = .slice A0 n c0) (hown : OwC w base A0 c0 n R L)
    (B : Nat) (A : Option Addr) (c : Nat) (y : Co) (r : SlA) (hx : a.eval x = .slice A 1 c) (hr : Rd w B 6 A 1 (coC (y, r))) (hb : n + 1 ≤ 1000000000) (hbase : base ≤ w.heap.size)
    (hrow : OwT w base r.1 r.2.2 r.2.1 y.2.2.2.2)
    (h : ∀ A' c' w', OwC w' base A' c' (n + 1) (R ++ [r]) (L ++ [y]) → w.grownBy w' (Value.slice A0 n c0).ownBlock → wpList Tryz.prog ops Q rest (a.put o.dst (.slice A' (n + 1) c')) w') : wpList Tryz.prog ops Q (o :: rest) a w := by
  obtain ⟨i0, hi, hz0, hz1, hz2⟩ := info_parts kondInfo
  refine wpList_app w hgd p x 52 ho base 103 i0 _ 6 56 Tryz.underlying52 hi hz0 hz1 hz2 rfl (by decide) _ n _ hv hown.top B A 1 c _ hx hr (coC_one1 (y, r)) (by simp only [maxLen]; omega) (by omega) hbase ?_
  intro A' c' w' e1 e2 e3
  exact h A' c' w' (hown.snoc (r := r) (x := y) hrow e1 (Typ.ofGrown hown.top e2)) e2
theorem run_litC (g s : Bool) (x : Tm) (q : UInt32) (A : Option Addr) (n c : Nat) (w : World) : (Instr.buildSlice 52 1 #[(0, .agg #[.bool g, .bool s, .bool x.1, nv x.2, nv q, .slice A n c])]).run Tryz.prog w = .ok (.slice (some ⟨w.heap.size, 0, none⟩) 1 1) (w.alloc (.cells #[.bool g, .bool s, .bool x.1, nv x.2, nv q, .slice A n c] 103)) := by
  obtain ⟨i0, hi, hz0, hz1, hz2⟩ := info_parts kondInfo
  simp [Instr.buildSlice, run_underlying Tryz.underlying52, sizeOf, typeInfo, zeroValue, hi, hz0, hz1, newRow, Instr.fill]
  kernel_rfl
theorem bk_rd6 {w : World} {g : Nat} {t : TypeId} {cs : List Value} (hb : Bk w g t cs) (hs : cs.length = 1 * 6) : Rd w w.heap.size 6 (some ⟨g, 0, none⟩) 1 cs :=
  ⟨hs, fun _ => ⟨g, 0, rfl, hb.lt, fun j u hu => by rw [Nat.zero_add, hb.cell]; exact hu⟩⟩
/-- No variables yet. -/
def clearE (x : Except PE PS) : Except PE PS := match x with | .ok s => .ok (s.1, s.2.1, []) | .error z => .error z
theorem PSt.cleared {base g sz : Nat} {ws : List Wd} {w : World} {x : Except PE PS} (h : PSt w base g ws sz x) :
    (∃ v, w.cell? ⟨g, 4, none⟩ = some v) ∧ w.frozen? ⟨g, 4, none⟩ = false ∧ PSt (w.setCell ⟨g, 4, none⟩ (.slice none 0 0)) base g ws sz (clearE x) ∧ Only g w (w.setCell ⟨g, 4, none⟩ (.slice none 0 0)) := by
  obtain ⟨AW, nW, cW, k, AN, nN, cN, AV, nV, cV, e0, a0, names, vars, hg, hb, hw, hn, hv, hne, hk, hW, hN, hV, hst⟩ := h
  have ht : Only g w (w.setCell ⟨g, 4, none⟩ (.slice none 0 0)) := Turn.setCell (G := fun j => j = g) (Turn.refl _ w) (fun _ => rfl) _
  refine ⟨⟨_, hb.cell 4⟩, hb.frozen 4, ?_, ht⟩
  refine mkSt (vars := []) hg hb (hb.set_ 4 _) hw hn (World.ownsRow_nil _ _ _ _) (fun b _ => by simp [Value.ownBlock]) hk hW hN (by omega) ht ?_
  cases x with
  | error z => exact hst
  | ok s =>
    obtain ⟨rfl, rfl⟩ := hst
    exact ⟨rfl, rfl⟩
theorem say_kind {sz : Nat} {s : PS} {v : Sy} {s' : PS} (h : sayE sz s = .ok (v, s')) : kindE s.1 = 1 ∨ kindE s.1 = 2 := by
  unfold sayE at h
  by_cases hc : kindE s.1 = 2 ∨ kindE s.1.tail = 4
  · rw [if_pos hc] at h
    obtain ⟨t, s1, h1, _⟩ := bindE_ok h
    exact term_kind h1
  · rw [if_neg hc] at h
    obtain ⟨a, s1, h1, _⟩ := bindE_ok h
    unfold atomE at h1
    obtain ⟨p, s2, h2, _⟩ := bindE_ok h1
    unfold nameE at h2
    by_cases h3 : kindE s.1 = 1
    · exact Or.inl h3
    · rw [if_neg h3] at h2; cases h2
theorem conds_many {sz n : Nat} {acc : List Co} {s : PS} (h : acc.length = 8 ∧ (kindE s.1 = 3 ∨ kindE s.1 = 1 ∨ kindE s.1 = 2)) : condsE sz (n + 1) acc s = .error (6, placeE sz s.1) := by
  rw [condsE, if_pos h]
theorem conds_step {sz n : Nat} {acc : List Co} {s : PS} (h : ¬ (acc.length = 8 ∧ (kindE s.1 = 3 ∨ kindE s.1 = 1 ∨ kindE s.1 = 2))) (s' : PS) (b : Bool) (hs' : s' = if kindE s.1 = 3 then nextE s else s) (hb : b = decide (kindE s.1 = 3)) :
    condsE sz (n + 1) acc s = bindE (sayE sz s') fun y s1 => if kindE s1.1 = 7 then condsE sz n (acc ++ [(b, y)]) (nextE s1) else .ok (acc ++ [(b, y)], s1) := by
  rw [condsE, if_neg h, hs', hb]
theorem rule_run {sz : Nat} (x : Except PE PS) : runE x (ruleE sz) = bindE (runE (clearE x) (sayE sz)) fun h s1 => bindE (bodyE sz s1) fun b s2 => bindE (wordE sz 8 s2) fun _ s3 => .ok ((h, b), s3) := by cases x <;> rfl
theorem only_set6 {w : World} {r : Nat} (u0 u1 u2 u3 u4 u5 : Value) : Only r w ((((((w.setCell ⟨r, 0, none⟩ u0).setCell ⟨r, 1, none⟩ u1).setCell ⟨r, 2, none⟩ u2).setCell ⟨r, 3, none⟩ u3).setCell ⟨r, 4, none⟩ u4).setCell ⟨r, 5, none⟩ u5) := (Turn.setCell (G := fun j => j = r) (Turn.setCell (G := fun j => j = r) (Turn.setCell (G := fun j => j = r) (Turn.setCell (G := fun j => j = r) (Turn.setCell (G := fun j => j = r) (Turn.setCell (G := fun j => j = r) (Turn.refl _ w) (fun _ => rfl) u0) (fun _ => rfl) u1) (fun _ => rfl) u2) (fun _ => rfl) u3) (fun _ => rfl) u4) (fun _ => rfl) u5)
theorem rule_end {w : World} {r : Nat} {x0 x1 x2 x3 x4 x5 : Value} (h : Bk w r 54 [x0, x1, x2, x3, x4, x5]) (u0 u1 u2 u3 u4 u5 : Value) : Bk ((((((w.setCell ⟨r, 0, none⟩ u0).setCell ⟨r, 1, none⟩ u1).setCell ⟨r, 2, none⟩ u2).setCell ⟨r, 3, none⟩ u3).setCell ⟨r, 4, none⟩ u4).setCell ⟨r, 5, none⟩ u5) r 54 [u0, u1, u2, u3, u4, u5] := (((((h.set_ 0 u0).set_ 1 u1).set_ 2 u2).set_ 3 u3).set_ 4 u4).set_ 5 u5
/-- What lies in memory while a rule is read. -/
structure EnvR (base g : Nat) (ws : List Wd) (sz : Nat) (w : World) (ab rr : Nat) (sd : Bool) (tm : Tm) (p : UInt32) (A : Option Addr) (n c : Nat) (l : List Tm) (wr : World) (y : Except PE PS) (A1 : Option Addr) (n1 c1 : Nat) (R : List SlA) (M : List Co) : Prop where
  env : EnvL 54 [.bool false, .bool false, .int .u32 0, .int .u32 0, .slice none 0 0, .slice none 0 0] base g ws sz w ab rr wr y [.bool sd, .bool tm.1, nv tm.2, nv p, .slice A n c, .slice A1 n1 c1]
  args : OwT wr w.heap.size A c n l
  body : OwC wr w.heap.size A1 c1 n1 R M
section
variable {base g sz ab rr : Nat} {ws : List Wd} {w wr V : World} {sd : Bool} {tm : Tm} {p : UInt32} {A A1 : Option Addr} {n c n1 c1 : Nat} {l : List Tm} {R : List SlA} {M : List Co} {y y' : Except PE PS}
theorem EnvR.go (h : EnvR base g ws sz w ab rr sd tm p A n c l wr y A1 n1 c1 R M) (hp : PSt V base g ws sz y') (hk : Kp base g wr V) (h1 : ab ≠ g) (h2 : rr ≠ g) : EnvR base g ws sz w ab rr sd tm p A n c l V y' A1 n1 c1 R M := by
  obtain ⟨cs, hb⟩ := h.env.st.bk
  exact ⟨h.env.go hp hk h1 h2 (by decide), hk.own h.args hb (by decide) (by decide), h.body.kp hk hb⟩
theorem EnvR.drews (h : EnvR base g ws sz w ab rr sd tm p A n c l wr y A1 n1 c1 R M) (q : Nat) : EnvR base g ws sz w ab rr sd tm p A n c l (wr.drewN q) y A1 n1 c1 R M := ⟨h.env.drews q, h.args, h.body.map fun _ _ _ _ _ _ ho => ho⟩
theorem EnvR.alloc (h : EnvR base g ws sz w ab rr sd tm p A n c l wr y A1 n1 c1 R M) (o : Obj) : EnvR base g ws sz w ab rr sd tm p A n c l (wr.alloc o) y A1 n1 c1 R M := by
  have hb : Below wr.heap.size wr (wr.alloc o) := (Below.refl _ _).alloc (Nat.le_refl _) _
  exact ⟨h.env.alloc o, ownBelow h.args hb (Nat.le_refl _), h.body.later hb⟩
end

set_option maxRecDepth 100000 in
set_option maxHeartbeats 16000000 in
theorem pRule_any (base g : Nat) (ws : List Wd) (sz : Nat) (x : Except PE PS) (w : World) (h : PSt w base g ws sz x) :
    Calls Tryz.prog 33 #[.pointer (some ⟨g, 0, none⟩)] w fun e w' => ∃ (sd : Bool) (tm : Tm) (p : UInt32) (A : Option Addr) (n c : Nat) (l : List Tm) (A1 : Option Addr) (n1 c1 : Nat) (R : List SlA) (M : List Co), e = .returned (.agg #[.bool sd, .bool tm.1, nv tm.2, nv p, .slice A n c, .slice A1 n1 c1]) ∧ OwT w' w.heap.size A c n l ∧ n ≤ 7 ∧ OwC w' w.heap.size A1 c1 n1 R M ∧ n1 ≤ 10 ∧ PSt w' base g ws sz (stE (runE x (ruleE sz))) ∧ saysE (runE x (ruleE sz)) ((sd, tm, (p, l)), M) ∧ Kp base g w w' := by
  have hgl := h.at_.2
  have hgb := h.at_.1
  obtain ⟨U, hU, hH, hbU⟩ : ∃ U, U = w.alloc (.cells #[.bool false, .bool false, .int .u32 0, .int .u32 0, .slice none 0 0, .slice none 0 0] 54) ∧ Bk U w.heap.size 54 [.bool false, .bool false, .int .u32 0, .int .u32 0, .slice none 0 0, .slice none 0 0] ∧ Below w.heap.size w U := ⟨_, rfl, Bk.new w _ [.bool false, .bool false, .int .u32 0, .int .u32 0, .slice none 0 0, .slice none 0 0], (Below.refl _ _).alloc (Nat.le_refl _) _⟩
  have hk0 : Kp base g w U := by rw [hU]; exact (Kp.refl base g w).alloc (by omega) _
  obtain ⟨rr, hrr⟩ : ∃ rr, rr = w.heap.size := ⟨_, rfl⟩
  have hrg : rr ≠ g := by omega
  have hrw : w.heap.size ≤ rr := by omega
  have hrb : base ≤ rr := by omega
  rw [← hrr] at hH
  obtain ⟨⟨v4, c4⟩, f4, hp1, ht1⟩ := (h.later hbU).cleared
  have hk1 := hk0.trans (Kp.only ht1 hgb (h.later hbU).at_.2)
  have hr1 := ht1.bk hH hrg
  have HU := Lib.hid hU
  have HRR := Lib.hid hrr
  clear hU hH h hbU hk0 ht1 hrr
  go_enter Tryz.func33, Tryz.ntmps33
  go_upto_region 1 with (fail)
  rw [← HU.out, ← HRR.out]
  repeat (first | go_skip | go_guarded | go_step)
  generalize U.setCell ⟨g, 4, none⟩ (.slice none 0 0) = U1 at hp1 hk1 hr1 ⊢
  refine (pSay_any base g ws sz _ U1 hp1).mono ?_
  rintro e V ⟨sd, tm, p, A, n, c, l, rfl, ho2, hn7, hp2, hs2, hk2⟩
  have hr2 := hk2.bk hr1 (by decide) hrg
  have HS2 := Lib.hid hs2
  obtain ⟨W, hW, hA, hbW⟩ : ∃ W, W = V.alloc (.cells #[.bool sd, .bool tm.1, nv tm.2, nv p, .slice A n c, .slice none 0 0] 54) ∧ Bk W V.heap.size 54 [.bool sd, .bool tm.1, nv tm.2, nv p, .slice A n c, .slice none 0 0] ∧ Below V.heap.size V W := ⟨_, rfl, Bk.new V _ [.bool sd, .bool tm.1, nv tm.2, nv p, .slice A n c, .slice none 0 0], (Below.refl _ _).alloc (Nat.le_refl _) _⟩
  obtain ⟨ab, hab⟩ : ∃ ab, ab = V.heap.size := ⟨_, rfl⟩
  have hU1s : w.heap.size ≤ U1.heap.size := hk1.below.size
  have hVg : U1.heap.size ≤ V.heap.size := hk2.below.size
  have hrl := hr2.lt
  have hrr := HRR.out
  have hag : ab ≠ g := by omega
  have har : rr ≠ ab := by omega
  have haw : w.heap.size ≤ ab := by omega
  have hab2 : base ≤ ab := by omega
  rw [← hab] at hA
  obtain ⟨y, hy⟩ : ∃ y, y = stE (runE (clearE x) (sayE sz)) := ⟨_, rfl⟩
  rw [← hy] at hp2
  have HE := Lib.hid (show EnvR base g ws sz w ab rr sd tm p A n c l W y none 0 0 [] [] from ⟨⟨hp2.later hbW, hA, hr2.later hbW, by rw [hW]; exact (hk1.trans hk2).alloc (by omega) _⟩, ownBelow (ownBase ho2 hU1s) hbW (Nat.le_refl _), OwC.nil _ _⟩)
  have HW := Lib.hid hW
  have HAB := Lib.hid hab
  have HY := Lib.hid hy
  clear hW hA hbW hab hp1 hp2 hs2 hk1 hk2 hr1 hr2 ho2 hy hrl hrr c4 f4 hU1s hVg
  dsimp only
  go_upto_region 3 with (fail)
  rw [← HW.out, ← HAB.out]
  clear HW HAB HU HRR
  have HRUN := Lib.hid (show runE x (ruleE sz) = runE y (fun s1 => bindE (bodyE sz s1) fun b s2 => bindE (wordE sz 8 s2) fun _ s3 => .ok (((sd, tm, (p, l)), b), s3)) by
    rw [rule_run, bindE_st _ _ HS2.out, ← HY.out])
  clear HS2 HY
  obtain ⟨e1, c5, he1, he2⟩ := HE.out.env.st.err
  cases y with
  | error z =>
    have de : ((e1 : Int) == 0) = false := by have := he2 z rfl; rw [beq_eq_false_iff_ne]; omega
    clear he1 he2
    have HFIN := Lib.hid (show runE x (ruleE sz) = bindE (runE (.error z) (wordE sz 8)) fun _ s3 => .ok (((sd, tm, (p, l)), ([] : List Co)), s3) by rw [HRUN.out]; rfl)
    repeat (first | go_skip | go_guarded | go_step)
    refine (pWordS 8 (by omega) HE.out.env.st).mono ?_
    rintro e V9 ⟨T9, rfl, hp9, hk9⟩
    have HE9 := Lib.hid (HE.out.go hp9 hk9 hag hrg)
    clear hp9 hk9
    dsimp only
    have a0 : V9.cell? ⟨ab, 0, none⟩ = some (.bool sd) := HE9.out.env.a.cell 0
    have a1 : V9.cell? ⟨ab, 1, none⟩ = some (.bool tm.1) := HE9.out.env.a.cell 1
    have a2 : V9.cell? ⟨ab, 2, none⟩ = some (nv tm.2) := HE9.out.env.a.cell 2
    have a3 : V9.cell? ⟨ab, 3, none⟩ = some (nv p) := HE9.out.env.a.cell 3
    have a4 : V9.cell? ⟨ab, 4, none⟩ = some (.slice A n c) := HE9.out.env.a.cell 4
    have a5 : V9.cell? ⟨ab, 5, none⟩ = some (.slice none 0 0) := HE9.out.env.a.cell 5
    have r0 : V9.cell? ⟨rr, 0, none⟩ = some (.bool false) := HE9.out.env.r.cell 0
    have rf0 : V9.frozen? ⟨rr, 0, none⟩ = false := HE9.out.env.r.frozen 0
    have r1 : V9.cell? ⟨rr, 1, none⟩ = some (.bool false) := HE9.out.env.r.cell 1
    have rf1 : V9.frozen? ⟨rr, 1, none⟩ = false := HE9.out.env.r.frozen 1
    have r2 : V9.cell? ⟨rr, 2, none⟩ = some (.int .u32 0) := HE9.out.env.r.cell 2
    have rf2 : V9.frozen? ⟨rr, 2, none⟩ = false := HE9.out.env.r.frozen 2
    have r3 : V9.cell? ⟨rr, 3, none⟩ = some (.int .u32 0) := HE9.out.env.r.cell 3
    have rf3 : V9.frozen? ⟨rr, 3, none⟩ = false := HE9.out.env.r.frozen 3
    have r4 : V9.cell? ⟨rr, 4, none⟩ = some (.slice none 0 0) := HE9.out.env.r.cell 4
    have rf4 : V9.frozen? ⟨rr, 4, none⟩ = false := HE9.out.env.r.frozen 4
    have r5 : V9.cell? ⟨rr, 5, none⟩ = some (.slice none 0 0) := HE9.out.env.r.cell 5
    have rf5 : V9.frozen? ⟨rr, 5, none⟩ = false := HE9.out.env.r.frozen 5
    repeat (first | go_skip | go_guarded | go_step)
    (try simp only [Exit.inBlock, Exit.then])
    refine bodyPost_ret (results_cell_row rfl _ _ rr _ _ _ _ rfl (rule_end HE9.out.env.r _ _ _ _ _ _) Tryz.underlying54 rfl (by kernel_rfl)) rfl ?_
    exact ⟨sd, tm, p, A, n, c, l, none, 0, 0, _, [], rfl, own_only HE9.out.args HE9.out.env.r (by decide) (only_set6 _ _ _ _ _ _), hn7, HE9.out.body.only HE9.out.env.r (by decide) (by decide) (only_set6 _ _ _ _ _ _), by omega, PSt.far (by rw [HFIN.out, bindE_skip, st_ret]; exact HE9.out.env.st) HE9.out.env.r (by decide) (by decide) (by decide) (only_set6 _ _ _ _ _ _), (by rw [HFIN.out, bindE_skip]; exact says_ret _ _), HE9.out.env.kp.fresh (only_set6 _ _ _ _ _ _) hrw hrb HE9.out.env.r.lt⟩
  | ok s1 =>
    have de : ((e1 : Int) == 0) = true := by rw [he1 s1 rfl]; rfl
    clear he1 he2
    repeat (first | go_skip | go_guarded | go_step)
    refine (pKindS 0 (by omega) HE.out.env.st).mono ?_
    rintro e V3 ⟨kk, rfl, hq0, q3, rfl⟩
    have HQ := Lib.hid (show kk = kindE s1.1 from hq0 s1 rfl)
    have HE3 := Lib.hid (HE.out.drews q3)
    clear hq0 HE c5 de
    generalize W.drewN q3 = X at HE3 ⊢
    dsimp only
    by_cases h9 : kk = 9
    · have d9 : ((kk : Int) == 9) = true := by rw [h9]; rfl
      have HK9 := Lib.hid (show kindE s1.1 = 9 by rw [← HQ.out]; exact h9)
      have HRUN2 := Lib.hid (show runE x (ruleE sz) = bindE (condsE sz 9 [] (nextE s1)) fun b s2 => bindE (wordE sz 8 s2) fun _ s3 => .ok (((sd, tm, (p, l)), b), s3) by
        rw [HRUN.out]
        unfold runE
        dsimp only
        rw [show bodyE sz s1 = condsE sz 9 [] (nextE s1) by unfold bodyE; rw [if_pos HK9.out]])
      clear h9 HQ HRUN
      obtain ⟨k1, s1c, s1f, hk17, hst⟩ := HE3.out.env.st.step
      obtain ⟨hn1, hn2⟩ := hst s1 rfl (kindE_ne HK9.out (by omega))
      have HE4 := Lib.hid (HE3.out.go hn1 hn2 hag hrg)
      clear hst hn1 hn2
      repeat (first | go_skip | go_guarded | go_step)
      generalize X.setCell ⟨g, 1, none⟩ (.int .i64 ((k1 : Int) + 1)) = X4 at HE4 ⊢
      clear s1c s1f HE3 X d9
      go_loopw [4] (fun p4 wr => ∃ (y2 : Except PE PS) (A1 : Option Addr) (n1 c1 : Nat) (R : List SlA) (M : List Co), EnvR base g ws sz w ab rr sd tm p A n c l wr y2 A1 n1 c1 R M ∧ M.length = n1 ∧ n1 ≤ 9 ∧ ((∃ z, y2 = .error z ∧ condsE sz 9 [] (nextE s1) = .error z) ∨ (∃ s2, y2 = .ok s2 ∧ n1 ≤ 8 ∧ condsE sz (9 - n1) M s2 = condsE sz 9 [] (nextE s1)))) (fun p4 wr => 10 - slN (wr.cell? ⟨ab, 5, none⟩))
      case atStart => exact ⟨.ok (nextE s1), none, 0, 0, [], [], HE4.out, rfl, by omega, Or.inr ⟨nextE s1, rfl, by omega, rfl⟩⟩
      case round =>
        obtain ⟨y2, A1, n1, c1, R, M, hE, hml, hn9, hrel2⟩ := hrel
        obtain ⟨e2, c5, he1, he2⟩ := hE.env.st.err
        have HE := Lib.hid hE
        have HML := Lib.hid hml
        clear hE hml HE4
        rcases hrel2 with ⟨z, rfl, hz⟩ | ⟨s2, rfl, hn8, hrun⟩
        · have de : ((e2 : Int) == 0) = false := by have := he2 z rfl; rw [beq_eq_false_iff_ne]; omega
          have HFIN := Lib.hid (show runE x (ruleE sz) = bindE (runE (.error z) (wordE sz 8)) fun _ s3 => .ok (((sd, tm, (p, l)), M), s3) by rw [HRUN2.out, hz]; rfl)
          clear hz he1 he2
          repeat (first | go_skip | go_guarded | go_step)
          refine (pWordS 8 (by omega) HE.out.env.st).mono ?_
          rintro e V9 ⟨T9, rfl, hp9, hk9⟩
          have HE9 := Lib.hid (HE.out.go hp9 hk9 hag hrg)
          clear hp9 hk9
          dsimp only
          have a0 : V9.cell? ⟨ab, 0, none⟩ = some (.bool sd) := HE9.out.env.a.cell 0
          have a1 : V9.cell? ⟨ab, 1, none⟩ = some (.bool tm.1) := HE9.out.env.a.cell 1
          have a2 : V9.cell? ⟨ab, 2, none⟩ = some (nv tm.2) := HE9.out.env.a.cell 2
          have a3 : V9.cell? ⟨ab, 3, none⟩ = some (nv p) := HE9.out.env.a.cell 3
          have a4 : V9.cell? ⟨ab, 4, none⟩ = some (.slice A n c) := HE9.out.env.a.cell 4
          have a5 : V9.cell? ⟨ab, 5, none⟩ = some (.slice A1 n1 c1) := HE9.out.env.a.cell 5
          have r0 : V9.cell? ⟨rr, 0, none⟩ = some (.bool false) := HE9.out.env.r.cell 0
          have rf0 : V9.frozen? ⟨rr, 0, none⟩ = false := HE9.out.env.r.frozen 0
          have r1 : V9.cell? ⟨rr, 1, none⟩ = some (.bool false) := HE9.out.env.r.cell 1
          have rf1 : V9.frozen? ⟨rr, 1, none⟩ = false := HE9.out.env.r.frozen 1
          have r2 : V9.cell? ⟨rr, 2, none⟩ = some (.int .u32 0) := HE9.out.env.r.cell 2
          have rf2 : V9.frozen? ⟨rr, 2, none⟩ = false := HE9.out.env.r.frozen 2
          have r3 : V9.cell? ⟨rr, 3, none⟩ = some (.int .u32 0) := HE9.out.env.r.cell 3
          have rf3 : V9.frozen? ⟨rr, 3, none⟩ = false := HE9.out.env.r.frozen 3
          have r4 : V9.cell? ⟨rr, 4, none⟩ = some (.slice none 0 0) := HE9.out.env.r.cell 4
          have rf4 : V9.frozen? ⟨rr, 4, none⟩ = false := HE9.out.env.r.frozen 4
          have r5 : V9.cell? ⟨rr, 5, none⟩ = some (.slice none 0 0) := HE9.out.env.r.cell 5
          have rf5 : V9.frozen? ⟨rr, 5, none⟩ = false := HE9.out.env.r.frozen 5
          repeat (first | go_skip | go_guarded | go_step)
          (try simp only [Exit.inBlock, Exit.then])
          refine bodyPost_ret (results_cell_row rfl _ _ rr _ _ _ _ rfl (rule_end HE9.out.env.r _ _ _ _ _ _) Tryz.underlying54 rfl (by kernel_rfl)) rfl ?_
          exact ⟨sd, tm, p, A, n, c, l, A1, n1, c1, _, M, rfl, own_only HE9.out.args HE9.out.env.r (by decide) (only_set6 _ _ _ _ _ _), hn7, HE9.out.body.only HE9.out.env.r (by decide) (by decide) (only_set6 _ _ _ _ _ _), by omega, PSt.far (by rw [HFIN.out, bindE_skip, st_ret]; exact HE9.out.env.st) HE9.out.env.r (by decide) (by decide) (by decide) (only_set6 _ _ _ _ _ _), (by rw [HFIN.out, bindE_skip]; exact says_ret _ _), HE9.out.env.kp.fresh (only_set6 _ _ _ _ _ _) hrw hrb HE9.out.env.r.lt⟩
        · have de : ((e2 : Int) == 0) = true := by rw [he1 s2 rfl]; rfl
          rw [show 9 - n1 = (8 - n1) + 1 by omega] at hrun
          have HN2 := Lib.hid hrun
          have HBG := Lib.hid (pBegins_any base g ws sz _ wr HE.out.env.st)
          clear hrun he1 he2
          have a0 : wr.cell? ⟨ab, 0, none⟩ = some (.bool sd) := HE.out.env.a.cell 0
          have a1 : wr.cell? ⟨ab, 1, none⟩ = some (.bool tm.1) := HE.out.env.a.cell 1
          have a2 : wr.cell? ⟨ab, 2, none⟩ = some (nv tm.2) := HE.out.env.a.cell 2
          have a3 : wr.cell? ⟨ab, 3, none⟩ = some (nv p) := HE.out.env.a.cell 3
          have a4 : wr.cell? ⟨ab, 4, none⟩ = some (.slice A n c) := HE.out.env.a.cell 4
          have a5 : wr.cell? ⟨ab, 5, none⟩ = some (.slice A1 n1 c1) := HE.out.env.a.cell 5
          by_cases hmany : n1 = 8 ∧ (kindE s2.1 = 3 ∨ kindE s2.1 = 1 ∨ kindE s2.1 = 2)
          · have HMY := Lib.hid (show runE x (ruleE sz) = .error (6, placeE sz s2.1) by rw [HRUN2.out, ← HN2.out, conds_many (by rw [HML.out]; exact hmany)]; rfl)
            obtain ⟨hn88, hkk2⟩ := hmany
            have d8 : ((n1 : Int) == 8) = true := by rw [hn88]; rfl
            have HB2 := Lib.hid hkk2
            clear hn88 hkk2
            repeat (first | go_skip | go_guarded | go_step)
            refine HBG.out.mono ?_
            rintro e V ⟨b, rfl, hb0, q1, rfl⟩
            have hbt : b = true := by rw [hb0 s2 rfl]; exact decide_eq_true HB2.out
            clear hb0
            subst hbt
            have HE3 := Lib.hid (HE.out.drews q1)
            generalize wr.drewN q1 = X at HE3 ⊢
            clear a0 a1 a2 a3 a4 a5
            dsimp only
            repeat (first | go_skip | go_guarded | go_step)
            refine (pWrongS 6 (by omega) HE3.out.env.st).mono ?_
            rintro e V5 ⟨rfl, hp5, hk5⟩
            have HE5 := Lib.hid (HE3.out.go hp5 hk5 hag hrg)
            clear hp5 hk5
            dsimp only
            have a0 : V5.cell? ⟨ab, 0, none⟩ = some (.bool sd) := HE5.out.env.a.cell 0
            have a1 : V5.cell? ⟨ab, 1, none⟩ = some (.bool tm.1) := HE5.out.env.a.cell 1
            have a2 : V5.cell? ⟨ab, 2, none⟩ = some (nv tm.2) := HE5.out.env.a.cell 2
            have a3 : V5.cell? ⟨ab, 3, none⟩ = some (nv p) := HE5.out.env.a.cell 3
            have a4 : V5.cell? ⟨ab, 4, none⟩ = some (.slice A n c) := HE5.out.env.a.cell 4
            have a5 : V5.cell? ⟨ab, 5, none⟩ = some (.slice A1 n1 c1) := HE5.out.env.a.cell 5
            have r0 : V5.cell? ⟨rr, 0, none⟩ = some (.bool false) := HE5.out.env.r.cell 0
            have rf0 : V5.frozen? ⟨rr, 0, none⟩ = false := HE5.out.env.r.frozen 0
            have r1 : V5.cell? ⟨rr, 1, none⟩ = some (.bool false) := HE5.out.env.r.cell 1
            have rf1 : V5.frozen? ⟨rr, 1, none⟩ = false := HE5.out.env.r.frozen 1
            have r2 : V5.cell? ⟨rr, 2, none⟩ = some (.int .u32 0) := HE5.out.env.r.cell 2
            have rf2 : V5.frozen? ⟨rr, 2, none⟩ = false := HE5.out.env.r.frozen 2
            have r3 : V5.cell? ⟨rr, 3, none⟩ = some (.int .u32 0) := HE5.out.env.r.cell 3
            have rf3 : V5.frozen? ⟨rr, 3, none⟩ = false := HE5.out.env.r.frozen 3
            have r4 : V5.cell? ⟨rr, 4, none⟩ = some (.slice none 0 0) := HE5.out.env.r.cell 4
            have rf4 : V5.frozen? ⟨rr, 4, none⟩ = false := HE5.out.env.r.frozen 4
            have r5 : V5.cell? ⟨rr, 5, none⟩ = some (.slice none 0 0) := HE5.out.env.r.cell 5
            have rf5 : V5.frozen? ⟨rr, 5, none⟩ = false := HE5.out.env.r.frozen 5
            repeat (first | go_skip | go_guarded | go_step)
            (try simp only [Exit.inBlock, Exit.then])
            refine bodyPost_ret (results_cell_row rfl _ _ rr _ _ _ _ rfl (rule_end HE5.out.env.r _ _ _ _ _ _) Tryz.underlying54 rfl (by kernel_rfl)) rfl ?_
            exact ⟨sd, tm, p, A, n, c, l, A1, n1, c1, _, M, rfl, own_only HE5.out.args HE5.out.env.r (by decide) (only_set6 _ _ _ _ _ _), hn7, HE5.out.body.only HE5.out.env.r (by decide) (by decide) (only_set6 _ _ _ _ _ _), by omega, PSt.far (by rw [HMY.out]; exact HE5.out.env.st) HE5.out.env.r (by decide) (by decide) (by decide) (only_set6 _ _ _ _ _ _), (by rw [HMY.out]; intro u s h; cases h), HE5.out.env.kp.fresh (only_set6 _ _ _ _ _ _) hrw hrb HE5.out.env.r.lt⟩
          · have HM := Lib.hid hmany
            have hmany9 : ¬ (M.length = 8 ∧ (kindE s2.1 = 3 ∨ kindE s2.1 = 1 ∨ kindE s2.1 = 2)) := by rw [HML.out]; exact hmany
            have HST := Lib.hid (conds_step (sz := sz) (n := 8 - n1) (acc := M) (s := s2) hmany9)
            clear hmany hmany9
            by_cases h8 : n1 = 8
            · have d8 : ((n1 : Int) == 8) = true := by rw [h8]; rfl
              have hnb : ¬ (kindE s2.1 = 3 ∨ kindE s2.1 = 1 ∨ kindE s2.1 = 2) := fun h => HM.out ⟨h8, h⟩
              clear h8
              repeat (first | go_skip | go_guarded | go_step)
              refine HBG.out.mono ?_
              rintro e V ⟨b, rfl, hb0, q1, rfl⟩
              have hbt : b = false := by rw [hb0 s2 rfl]; exact decide_eq_false hnb
              clear hb0 hnb
              subst hbt
              have HE3 := Lib.hid (HE.out.drews q1)
              generalize wr.drewN q1 = X at HE3 ⊢
              clear a0 a1 a2 a3 a4 a5
              dsimp only
              repeat (first | go_skip | go_guarded | go_step)
              refine (pKindS 0 (by omega) HE3.out.env.st).mono ?_
              rintro e V6 ⟨k3, rfl, hq0, q6, rfl⟩
              have HQ3 := Lib.hid (show k3 = kindE s2.1 from hq0 s2 rfl)
              have HE6 := Lib.hid (HE3.out.drews q6)
              clear hq0 HE3
              generalize X.drewN q6 = X6 at HE6 ⊢
              dsimp only
              by_cases h3 : k3 = 3
              · have d3 : ((k3 : Int) == 3) = true := by rw [h3]; rfl
                have HK3 := Lib.hid (show kindE s2.1 = 3 by rw [← HQ3.out]; exact h3)
                clear h3
                obtain ⟨k5, s5c, s5f, hk57, hst5⟩ := HE6.out.env.st.step
                obtain ⟨hn51, hn52⟩ := hst5 s2 rfl (kindE_ne HK3.out (by omega))
                have HE7 := Lib.hid (HE6.out.go hn51 hn52 hag hrg)
                have HST2 := Lib.hid (HST.out (nextE s2) true (by rw [if_pos HK3.out]) (decide_eq_true HK3.out).symm)
                have HS8 := Lib.hid (show ∀ v s', sayE sz (nextE s2) = .ok (v, s') → n1 ≤ 7 from fun v s' h => by
                  rcases Nat.lt_or_ge n1 8 with h8 | h8
                  · omega
                  · exact absurd ⟨by omega, Or.inl HK3.out⟩ HM.out)
                clear hst5 hn51 hn52 HE6 HK3
                repeat (first | go_skip | go_guarded | go_step)
                generalize X6.setCell ⟨g, 1, none⟩ (.int .i64 ((k5 : Int) + 1)) = X7 at HE7 ⊢
                clear s5c s5f
                refine (pSay_any base g ws sz _ X7 HE7.out.env.st).mono ?_
                rintro e V8 ⟨sd2, tm2, p2, A2, n2, c2, l2, rfl, ho8, hn72, hp8, hs8, hk8⟩
                have hE8 := HE7.out.go hp8 hk8 hag hrg
                obtain ⟨Y, hY, hT, hbY⟩ : ∃ Y, Y = V8.alloc (.cells #[.bool sd2, .bool tm2.1, nv tm2.2, nv p2, .slice A2 n2 c2] 51) ∧ Bk Y V8.heap.size 51 [.bool sd2, .bool tm2.1, nv tm2.2, nv p2, .slice A2 n2 c2] ∧ Below V8.heap.size V8 Y := ⟨_, rfl, Bk.new V8 _ [.bool sd2, .bool tm2.1, nv tm2.2, nv p2, .slice A2 n2 c2], (Below.refl _ _).alloc (Nat.le_refl _) _⟩
                obtain ⟨tb, htb⟩ : ∃ tb, tb = V8.heap.size := ⟨_, rfl⟩
                rw [← htb] at hT
                have hEY : EnvR base g ws sz w ab rr sd tm p A n c l Y (stE (sayE sz (nextE s2))) A1 n1 c1 R M := by rw [hY]; exact hE8.alloc _
                have HOY := Lib.hid (ownBelow (ownBase ho8 HE7.out.env.kp.below.size) hbY (Nat.le_refl _))
                have HEY := Lib.hid hEY
                have HY := Lib.hid hY
                have HTB := Lib.hid htb
                have HT := Lib.hid hT
                have hs8 : saysE (sayE sz (nextE s2)) (sd2, tm2, (p2, l2)) := hs8
                have HS9 := Lib.hid hs8
                clear hp8 hs8 hk8 hE8 hEY hY htb hT hbY ho8
                dsimp only
                go_upto_region 13 with (fail)
                rw [← HY.out, ← HTB.out]
                clear HY HTB HE7
                have a5 : Y.cell? ⟨ab, 5, none⟩ = some (.slice A1 n1 c1) := HEY.out.env.a.cell 5
                have t0 : Y.cell? ⟨tb, 0, none⟩ = some (.bool sd2) := HT.out.cell 0
                have t1 : Y.cell? ⟨tb, 1, none⟩ = some (.bool tm2.1) := HT.out.cell 1
                have t2 : Y.cell? ⟨tb, 2, none⟩ = some (nv tm2.2) := HT.out.cell 2
                have t3 : Y.cell? ⟨tb, 3, none⟩ = some (nv p2) := HT.out.cell 3
                have t4 : Y.cell? ⟨tb, 4, none⟩ = some (.slice A2 n2 c2) := HT.out.cell 4
                have hlit := run_litC true sd2 tm2 p2 A2 n2 c2 Y
                have hYs : w.heap.size ≤ Y.heap.size := HEY.out.env.kp.below.size
                have HEZ := Lib.hid (show EnvR base g ws sz w ab rr sd tm p A n c l (Y.alloc (.cells #[.bool true, .bool sd2, .bool tm2.1, nv tm2.2, nv p2, .slice A2 n2 c2] 103)) (stE (sayE sz (nextE s2))) A1 n1 c1 R M from HEY.out.alloc _)
                have HRZ := Lib.hid (show Rd (Y.alloc (.cells #[.bool true, .bool sd2, .bool tm2.1, nv tm2.2, nv p2, .slice A2 n2 c2] 103)) (Y.alloc (.cells #[.bool true, .bool sd2, .bool tm2.1, nv tm2.2, nv p2, .slice A2 n2 c2] 103)).heap.size 6 (some ⟨Y.heap.size, 0, none⟩) 1 (coC ((true, sd2, tm2, (p2, l2)), (A2, n2, c2))) from bk_rd6 (Bk.new Y _ [.bool true, .bool sd2, .bool tm2.1, nv tm2.2, nv p2, .slice A2 n2 c2]) rfl)
                have HOZ := Lib.hid (show OwT (Y.alloc (.cells #[.bool true, .bool sd2, .bool tm2.1, nv tm2.2, nv p2, .slice A2 n2 c2] 103)) w.heap.size A2 c2 n2 l2 from World.ownsRow.alloc HOY.out _)
                have hZs : w.heap.size ≤ (Y.alloc (.cells #[.bool true, .bool sd2, .bool tm2.1, nv tm2.2, nv p2, .slice A2 n2 c2] 103)).heap.size := HEZ.out.env.kp.below.size
                cases hte : sayE sz (nextE s2) with
                | error z =>
                  have HTE := Lib.hid hte
                  rw [hte] at HEZ
                  clear hte
                  repeat (first
                    | (at_builtin; refine appC _ rfl (.tmp 59) (.tmp 63) rfl w.heap.size A1 c1 n1 R M rfl HEZ.out.body _ _ 1 (true, sd2, tm2, (p2, l2)) (A2, n2, c2) rfl HRZ.out (by omega) hZs HOZ.out ?_
                       intro A3 c3 Z hoZ hgZ
                       have htZ := Typ.ofGrown HEZ.out.body.top hgZ
                       have hPZ := HEZ.out.env.st.typ htZ (by decide) (by decide) (by decide)
                       have hAZ := htZ.bk HEZ.out.env.a (by decide)
                       have hRZ := htZ.bk HEZ.out.env.r (by decide)
                       have hKZ := HEZ.out.env.kp.grown HEZ.out.body.top (Nat.le_refl _) (by omega) HEZ.out.env.st.text hgZ
                       have z1 : Z.cell? ⟨ab, 5, none⟩ = some (.slice A1 n1 c1) := hAZ.cell 5
                       have zf : Z.frozen? ⟨ab, 5, none⟩ = false := hAZ.frozen 5
                       have ht2 : Only ab Z (Z.setCell ⟨ab, 5, none⟩ (.slice A3 (n1 + 1) c3)) := Turn.setCell (G := fun j => j = ab) (Turn.refl _ Z) (fun _ => rfl) _
                       have HE2 := Lib.hid (show EnvR base g ws sz w ab rr sd tm p A n c l (Z.setCell ⟨ab, 5, none⟩ (.slice A3 (n1 + 1) c3)) (.error z) A3 (n1 + 1) c3 (R ++ [(A2, n2, c2)]) (M ++ [(true, sd2, tm2, (p2, l2))]) from
                         ⟨⟨hPZ.far hAZ (by decide) (by decide) (by decide) ht2, hAZ.set_ 5 _, ht2.bk hRZ har, hKZ.fresh ht2 haw hab2 hAZ.lt⟩, own_only (htZ.own HEZ.out.args (by decide)) hAZ (by decide) ht2, hoZ.only hAZ (by decide) (by decide) ht2⟩)
                       clear hoZ hgZ htZ hPZ hAZ hRZ hKZ ht2 hlit HEZ HRZ hZs HOZ)
                    | go_skip | go_guarded | go_step)
                  generalize (Z.setCell ⟨ab, 5, none⟩ (.slice A3 (n1 + 1) c3)) = X2 at HE2 ⊢
                  refine (pKindS 0 (by omega) HE2.out.env.st).mono ?_
                  rintro e V5 ⟨kk7, rfl, hq0, q5, rfl⟩
                  skip
                  have HE5 := Lib.hid (HE2.out.drews q5)
                  clear hq0 HE2
                  generalize X2.drewN q5 = X5 at HE5 ⊢
                  dsimp only
                  by_cases h7 : kk7 = 7
                  · have d7 : ((kk7 : Int) != 7) = false := by rw [h7]; rfl
                    clear h7
                    obtain ⟨e3, c53, he31, he32⟩ := HE5.out.env.st.err
                    have de3 : ((e3 : Int) == 0) = false := by have := he32 z rfl; rw [beq_eq_false_iff_ne]; omega
                    clear he31 he32
                    repeat (first | go_skip | go_guarded | go_step)
                    go_roundw
                    case rel => exact ⟨.error z, A3, n1 + 1, c3, _, (M ++ [(true, sd2, tm2, (p2, l2))]), HE5.out, by simp [HML.out], by omega, Or.inl ⟨z, rfl, by rw [← HN2.out, HST2.out, HTE.out]; rfl⟩⟩
                    case measure =>
                      rw [HE5.out.env.a.cell 5, HE.out.env.a.cell 5]
                      show 10 - (n1 + 1) < 10 - n1
                      omega
                  · have d7 : ((kk7 : Int) != 7) = true := by rw [bne_iff_ne]; omega
                    clear h7
                    have HFIN := Lib.hid (show runE x (ruleE sz) = bindE (runE (.error z) (wordE sz 8)) fun _ s3 => .ok (((sd, tm, (p, l)), (M ++ [(true, sd2, tm2, (p2, l2))])), s3) by rw [HRUN2.out, ← HN2.out, HST2.out, HTE.out]; rfl)
                    repeat (first | go_skip | go_guarded | go_step)
                    refine (pWordS 8 (by omega) HE5.out.env.st).mono ?_
                    rintro e V9 ⟨T9, rfl, hp9, hk9⟩
                    have HE9 := Lib.hid (HE5.out.go hp9 hk9 hag hrg)
                    clear hp9 hk9
                    dsimp only
                    have a0 : V9.cell? ⟨ab, 0, none⟩ = some (.bool sd) := HE9.out.env.a.cell 0
                    have a1 : V9.cell? ⟨ab, 1, none⟩ = some (.bool tm.1) := HE9.out.env.a.cell 1
                    have a2 : V9.cell? ⟨ab, 2, none⟩ = some (nv tm.2) := HE9.out.env.a.cell 2
                    have a3 : V9.cell? ⟨ab, 3, none⟩ = some (nv p) := HE9.out.env.a.cell 3
                    have a4 : V9.cell? ⟨ab, 4, none⟩ = some (.slice A n c) := HE9.out.env.a.cell 4
                    have a5 : V9.cell? ⟨ab, 5, none⟩ = some (.slice A3 (n1 + 1) c3) := HE9.out.env.a.cell 5
                    have r0 : V9.cell? ⟨rr, 0, none⟩ = some (.bool false) := HE9.out.env.r.cell 0
                    have rf0 : V9.frozen? ⟨rr, 0, none⟩ = false := HE9.out.env.r.frozen 0
                    have r1 : V9.cell? ⟨rr, 1, none⟩ = some (.bool false) := HE9.out.env.r.cell 1
                    have rf1 : V9.frozen? ⟨rr, 1, none⟩ = false := HE9.out.env.r.frozen 1
                    have r2 : V9.cell? ⟨rr, 2, none⟩ = some (.int .u32 0) := HE9.out.env.r.cell 2
                    have rf2 : V9.frozen? ⟨rr, 2, none⟩ = false := HE9.out.env.r.frozen 2
                    have r3 : V9.cell? ⟨rr, 3, none⟩ = some (.int .u32 0) := HE9.out.env.r.cell 3
                    have rf3 : V9.frozen? ⟨rr, 3, none⟩ = false := HE9.out.env.r.frozen 3
                    have r4 : V9.cell? ⟨rr, 4, none⟩ = some (.slice none 0 0) := HE9.out.env.r.cell 4
                    have rf4 : V9.frozen? ⟨rr, 4, none⟩ = false := HE9.out.env.r.frozen 4
                    have r5 : V9.cell? ⟨rr, 5, none⟩ = some (.slice none 0 0) := HE9.out.env.r.cell 5
                    have rf5 : V9.frozen? ⟨rr, 5, none⟩ = false := HE9.out.env.r.frozen 5
                    repeat (first | go_skip | go_guarded | go_step)
                    (try simp only [Exit.inBlock, Exit.then])
                    refine bodyPost_ret (results_cell_row rfl _ _ rr _ _ _ _ rfl (rule_end HE9.out.env.r _ _ _ _ _ _) Tryz.underlying54 rfl (by kernel_rfl)) rfl ?_
                    exact ⟨sd, tm, p, A, n, c, l, A3, (n1 + 1), c3, _, (M ++ [(true, sd2, tm2, (p2, l2))]), rfl, own_only HE9.out.args HE9.out.env.r (by decide) (only_set6 _ _ _ _ _ _), hn7, HE9.out.body.only HE9.out.env.r (by decide) (by decide) (only_set6 _ _ _ _ _ _), by omega, PSt.far (by rw [HFIN.out, bindE_skip, st_ret]; exact HE9.out.env.st) HE9.out.env.r (by decide) (by decide) (by decide) (only_set6 _ _ _ _ _ _), (by rw [HFIN.out, bindE_skip]; exact says_ret _ _), HE9.out.env.kp.fresh (only_set6 _ _ _ _ _ _) hrw hrb HE9.out.env.r.lt⟩
                | ok z =>
                  obtain ⟨v3, s3⟩ := z
                  obtain rfl : (sd2, tm2, (p2, l2)) = v3 := HS9.out v3 s3 hte
                  have hn77 := HS8.out _ _ hte
                  have HTE := Lib.hid hte
                  rw [hte] at HEZ
                  clear hte
                  repeat (first
                    | (at_builtin; refine appC _ rfl (.tmp 59) (.tmp 63) rfl w.heap.size A1 c1 n1 R M rfl HEZ.out.body _ _ 1 (true, sd2, tm2, (p2, l2)) (A2, n2, c2) rfl HRZ.out (by omega) hZs HOZ.out ?_
                       intro A3 c3 Z hoZ hgZ
                       have htZ := Typ.ofGrown HEZ.out.body.top hgZ
                       have hPZ := HEZ.out.env.st.typ htZ (by decide) (by decide) (by decide)
                       have hAZ := htZ.bk HEZ.out.env.a (by decide)
                       have hRZ := htZ.bk HEZ.out.env.r (by decide)
                       have hKZ := HEZ.out.env.kp.grown HEZ.out.body.top (Nat.le_refl _) (by omega) HEZ.out.env.st.text hgZ
                       have z1 : Z.cell? ⟨ab, 5, none⟩ = some (.slice A1 n1 c1) := hAZ.cell 5
                       have zf : Z.frozen? ⟨ab, 5, none⟩ = false := hAZ.frozen 5
                       have ht2 : Only ab Z (Z.setCell ⟨ab, 5, none⟩ (.slice A3 (n1 + 1) c3)) := Turn.setCell (G := fun j => j = ab) (Turn.refl _ Z) (fun _ => rfl) _
                       have HE2 := Lib.hid (show EnvR base g ws sz w ab rr sd tm p A n c l (Z.setCell ⟨ab, 5, none⟩ (.slice A3 (n1 + 1) c3)) (.ok s3) A3 (n1 + 1) c3 (R ++ [(A2, n2, c2)]) (M ++ [(true, sd2, tm2, (p2, l2))]) from
                         ⟨⟨hPZ.far hAZ (by decide) (by decide) (by decide) ht2, hAZ.set_ 5 _, ht2.bk hRZ har, hKZ.fresh ht2 haw hab2 hAZ.lt⟩, own_only (htZ.own HEZ.out.args (by decide)) hAZ (by decide) ht2, hoZ.only hAZ (by decide) (by decide) ht2⟩)
                       clear hoZ hgZ htZ hPZ hAZ hRZ hKZ ht2 hlit HEZ HRZ hZs HOZ)
                    | go_skip | go_guarded | go_step)
                  generalize (Z.setCell ⟨ab, 5, none⟩ (.slice A3 (n1 + 1) c3)) = X2 at HE2 ⊢
                  refine (pKindS 0 (by omega) HE2.out.env.st).mono ?_
                  rintro e V5 ⟨kk7, rfl, hq0, q5, rfl⟩
                  have HQ7 := Lib.hid (show kk7 = kindE s3.1 from hq0 s3 rfl)
                  have HE5 := Lib.hid (HE2.out.drews q5)
                  clear hq0 HE2
                  generalize X2.drewN q5 = X5 at HE5 ⊢
                  dsimp only
                  by_cases h7 : kk7 = 7
                  · have d7 : ((kk7 : Int) != 7) = false := by rw [h7]; rfl
                    have HK7 := Lib.hid (show kindE s3.1 = 7 by rw [← HQ7.out]; exact h7)
                    clear h7
                    obtain ⟨e3, c53, he31, he32⟩ := HE5.out.env.st.err
                    have de3 : ((e3 : Int) == 0) = true := by rw [he31 s3 rfl]; rfl
                    clear he31 he32
                    obtain ⟨k5, s5c, s5f, hk57, hst5⟩ := HE5.out.env.st.step
                    obtain ⟨hn51, hn52⟩ := hst5 s3 rfl (kindE_ne HK7.out (by omega))
                    have HE6 := Lib.hid (HE5.out.go hn51 hn52 hag hrg)
                    clear hst5 hn51 hn52 HE5
                    repeat (first | go_skip | go_guarded | go_step)
                    generalize X5.setCell ⟨g, 1, none⟩ (.int .i64 ((k5 : Int) + 1)) = X9 at HE6 ⊢
                    go_roundw
                    case rel => exact ⟨.ok (nextE s3), A3, n1 + 1, c3, _, (M ++ [(true, sd2, tm2, (p2, l2))]), HE6.out, by simp [HML.out], by omega, Or.inr ⟨nextE s3, rfl, by omega, by rw [← HN2.out, HST2.out, HTE.out, bindE_of rfl, if_pos HK7.out, show 9 - (n1 + 1) = 8 - n1 by omega]⟩⟩
                    case measure =>
                      rw [HE6.out.env.a.cell 5, HE.out.env.a.cell 5]
                      show 10 - (n1 + 1) < 10 - n1
                      omega
                  · have d7 : ((kk7 : Int) != 7) = true := by rw [bne_iff_ne]; omega
                    have HK7 := Lib.hid (show ¬ kindE s3.1 = 7 by rw [← HQ7.out]; exact h7)
                    clear h7
                    have HFIN := Lib.hid (show runE x (ruleE sz) = bindE (runE (.ok s3) (wordE sz 8)) fun _ s3 => .ok (((sd, tm, (p, l)), (M ++ [(true, sd2, tm2, (p2, l2))])), s3) by
                      rw [HRUN2.out, ← HN2.out, HST2.out, HTE.out, bindE_of rfl, if_neg HK7.out]
                      rfl)
                    repeat (first | go_skip | go_guarded | go_step)
                    refine (pWordS 8 (by omega) HE5.out.env.st).mono ?_
                    rintro e V9 ⟨T9, rfl, hp9, hk9⟩
                    have HE9 := Lib.hid (HE5.out.go hp9 hk9 hag hrg)
                    clear hp9 hk9
                    dsimp only
                    have a0 : V9.cell? ⟨ab, 0, none⟩ = some (.bool sd) := HE9.out.env.a.cell 0
                    have a1 : V9.cell? ⟨ab, 1, none⟩ = some (.bool tm.1) := HE9.out.env.a.cell 1
                    have a2 : V9.cell? ⟨ab, 2, none⟩ = some (nv tm.2) := HE9.out.env.a.cell 2
                    have a3 : V9.cell? ⟨ab, 3, none⟩ = some (nv p) := HE9.out.env.a.cell 3
                    have a4 : V9.cell? ⟨ab, 4, none⟩ = some (.slice A n c) := HE9.out.env.a.cell 4
                    have a5 : V9.cell? ⟨ab, 5, none⟩ = some (.slice A3 (n1 + 1) c3) := HE9.out.env.a.cell 5
                    have r0 : V9.cell? ⟨rr, 0, none⟩ = some (.bool false) := HE9.out.env.r.cell 0
                    have rf0 : V9.frozen? ⟨rr, 0, none⟩ = false := HE9.out.env.r.frozen 0
                    have r1 : V9.cell? ⟨rr, 1, none⟩ = some (.bool false) := HE9.out.env.r.cell 1
                    have rf1 : V9.frozen? ⟨rr, 1, none⟩ = false := HE9.out.env.r.frozen 1
                    have r2 : V9.cell? ⟨rr, 2, none⟩ = some (.int .u32 0) := HE9.out.env.r.cell 2
                    have rf2 : V9.frozen? ⟨rr, 2, none⟩ = false := HE9.out.env.r.frozen 2
                    have r3 : V9.cell? ⟨rr, 3, none⟩ = some (.int .u32 0) := HE9.out.env.r.cell 3
                    have rf3 : V9.frozen? ⟨rr, 3, none⟩ = false := HE9.out.env.r.frozen 3
                    have r4 : V9.cell? ⟨rr, 4, none⟩ = some (.slice none 0 0) := HE9.out.env.r.cell 4
                    have rf4 : V9.frozen? ⟨rr, 4, none⟩ = false := HE9.out.env.r.frozen 4
                    have r5 : V9.cell? ⟨rr, 5, none⟩ = some (.slice none 0 0) := HE9.out.env.r.cell 5
                    have rf5 : V9.frozen? ⟨rr, 5, none⟩ = false := HE9.out.env.r.frozen 5
                    repeat (first | go_skip | go_guarded | go_step)
                    (try simp only [Exit.inBlock, Exit.then])
                    refine bodyPost_ret (results_cell_row rfl _ _ rr _ _ _ _ rfl (rule_end HE9.out.env.r _ _ _ _ _ _) Tryz.underlying54 rfl (by kernel_rfl)) rfl ?_
                    exact ⟨sd, tm, p, A, n, c, l, A3, (n1 + 1), c3, _, (M ++ [(true, sd2, tm2, (p2, l2))]), rfl, own_only HE9.out.args HE9.out.env.r (by decide) (only_set6 _ _ _ _ _ _), hn7, HE9.out.body.only HE9.out.env.r (by decide) (by decide) (only_set6 _ _ _ _ _ _), by omega, PSt.far (by rw [HFIN.out, bindE_skip, st_ret]; exact HE9.out.env.st) HE9.out.env.r (by decide) (by decide) (by decide) (only_set6 _ _ _ _ _ _), (by rw [HFIN.out, bindE_skip]; exact says_ret _ _), HE9.out.env.kp.fresh (only_set6 _ _ _ _ _ _) hrw hrb HE9.out.env.r.lt⟩
              · have d3 : ((k3 : Int) == 3) = false := by rw [beq_eq_false_iff_ne]; omega
                have HK3 := Lib.hid (show ¬ kindE s2.1 = 3 by rw [← HQ3.out]; exact h3)
                clear h3
                have HE7 := HE6
                have HST2 := Lib.hid (HST.out s2 false (by rw [if_neg HK3.out]) (decide_eq_false HK3.out).symm)
                have HS8 := Lib.hid (show ∀ v s', sayE sz s2 = .ok (v, s') → n1 ≤ 7 from fun v s' h => by
                  rcases Nat.lt_or_ge n1 8 with h8 | h8
                  · omega
                  · exact absurd ⟨by omega, Or.inr (say_kind h)⟩ HM.out)
                clear HE6 HK3
                repeat (first | go_skip | go_guarded | go_step)
                refine (pSay_any base g ws sz _ X6 HE7.out.env.st).mono ?_
                rintro e V8 ⟨sd2, tm2, p2, A2, n2, c2, l2, rfl, ho8, hn72, hp8, hs8, hk8⟩
                have hE8 := HE7.out.go hp8 hk8 hag hrg
                obtain ⟨Y, hY, hT, hbY⟩ : ∃ Y, Y = V8.alloc (.cells #[.bool sd2, .bool tm2.1, nv tm2.2, nv p2, .slice A2 n2 c2] 51) ∧ Bk Y V8.heap.size 51 [.bool sd2, .bool tm2.1, nv tm2.2, nv p2, .slice A2 n2 c2] ∧ Below V8.heap.size V8 Y := ⟨_, rfl, Bk.new V8 _ [.bool sd2, .bool tm2.1, nv tm2.2, nv p2, .slice A2 n2 c2], (Below.refl _ _).alloc (Nat.le_refl _) _⟩
                obtain ⟨tb, htb⟩ : ∃ tb, tb = V8.heap.size := ⟨_, rfl⟩
                rw [← htb] at hT
                have hEY : EnvR base g ws sz w ab rr sd tm p A n c l Y (stE (sayE sz s2)) A1 n1 c1 R M := by rw [hY]; exact hE8.alloc _
                have HOY := Lib.hid (ownBelow (ownBase ho8 HE7.out.env.kp.below.size) hbY (Nat.le_refl _))
                have HEY := Lib.hid hEY
                have HY := Lib.hid hY
                have HTB := Lib.hid htb
                have HT := Lib.hid hT
                have hs8 : saysE (sayE sz s2) (sd2, tm2, (p2, l2)) := hs8
                have HS9 := Lib.hid hs8
                clear hp8 hs8 hk8 hE8 hEY hY htb hT hbY ho8
                dsimp only
                go_upto_region 13 with (fail)
                rw [← HY.out, ← HTB.out]
                clear HY HTB HE7
                have a5 : Y.cell? ⟨ab, 5, none⟩ = some (.slice A1 n1 c1) := HEY.out.env.a.cell 5
                have t0 : Y.cell? ⟨tb, 0, none⟩ = some (.bool sd2) := HT.out.cell 0
                have t1 : Y.cell? ⟨tb, 1, none⟩ = some (.bool tm2.1) := HT.out.cell 1
                have t2 : Y.cell? ⟨tb, 2, none⟩ = some (nv tm2.2) := HT.out.cell 2
                have t3 : Y.cell? ⟨tb, 3, none⟩ = some (nv p2) := HT.out.cell 3
                have t4 : Y.cell? ⟨tb, 4, none⟩ = some (.slice A2 n2 c2) := HT.out.cell 4
                have hlit := run_litC false sd2 tm2 p2 A2 n2 c2 Y
                have hYs : w.heap.size ≤ Y.heap.size := HEY.out.env.kp.below.size
                have HEZ := Lib.hid (show EnvR base g ws sz w ab rr sd tm p A n c l (Y.alloc (.cells #[.bool false, .bool sd2, .bool tm2.1, nv tm2.2, nv p2, .slice A2 n2 c2] 103)) (stE (sayE sz s2)) A1 n1 c1 R M from HEY.out.alloc _)
                have HRZ := Lib.hid (show Rd (Y.alloc (.cells #[.bool false, .bool sd2, .bool tm2.1, nv tm2.2, nv p2, .slice A2 n2 c2] 103)) (Y.alloc (.cells #[.bool false, .bool sd2, .bool tm2.1, nv tm2.2, nv p2, .slice A2 n2 c2] 103)).heap.size 6 (some ⟨Y.heap.size, 0, none⟩) 1 (coC ((false, sd2, tm2, (p2, l2)), (A2, n2, c2))) from bk_rd6 (Bk.new Y _ [.bool false, .bool sd2, .bool tm2.1, nv tm2.2, nv p2, .slice A2 n2 c2]) rfl)
                have HOZ := Lib.hid (show OwT (Y.alloc (.cells #[.bool false, .bool sd2, .bool tm2.1, nv tm2.2, nv p2, .slice A2 n2 c2] 103)) w.heap.size A2 c2 n2 l2 from World.ownsRow.alloc HOY.out _)
                have hZs : w.heap.size ≤ (Y.alloc (.cells #[.bool false, .bool sd2, .bool tm2.1, nv tm2.2, nv p2, .slice A2 n2 c2] 103)).heap.size := HEZ.out.env.kp.below.size
                cases hte : sayE sz s2 with
                | error z =>
                  have HTE := Lib.hid hte
                  rw [hte] at HEZ
                  clear hte
                  repeat (first
                    | (at_builtin; refine appC _ rfl (.tmp 59) (.tmp 63) rfl w.heap.size A1 c1 n1 R M rfl HEZ.out.body _ _ 1 (false, sd2, tm2, (p2, l2)) (A2, n2, c2) rfl HRZ.out (by omega) hZs HOZ.out ?_
                       intro A3 c3 Z hoZ hgZ
                       have htZ := Typ.ofGrown HEZ.out.body.top hgZ
                       have hPZ := HEZ.out.env.st.typ htZ (by decide) (by decide) (by decide)
                       have hAZ := htZ.bk HEZ.out.env.a (by decide)
                       have hRZ := htZ.bk HEZ.out.env.r (by decide)
                       have hKZ := HEZ.out.env.kp.grown HEZ.out.body.top (Nat.le_refl _) (by omega) HEZ.out.env.st.text hgZ
                       have z1 : Z.cell? ⟨ab, 5, none⟩ = some (.slice A1 n1 c1) := hAZ.cell 5
                       have zf : Z.frozen? ⟨ab, 5, none⟩ = false := hAZ.frozen 5
                       have ht2 : Only ab Z (Z.setCell ⟨ab, 5, none⟩ (.slice A3 (n1 + 1) c3)) := Turn.setCell (G := fun j => j = ab) (Turn.refl _ Z) (fun _ => rfl) _
                       have HE2 := Lib.hid (show EnvR base g ws sz w ab rr sd tm p A n c l (Z.setCell ⟨ab, 5, none⟩ (.slice A3 (n1 + 1) c3)) (.error z) A3 (n1 + 1) c3 (R ++ [(A2, n2, c2)]) (M ++ [(false, sd2, tm2, (p2, l2))]) from
                         ⟨⟨hPZ.far hAZ (by decide) (by decide) (by decide) ht2, hAZ.set_ 5 _, ht2.bk hRZ har, hKZ.fresh ht2 haw hab2 hAZ.lt⟩, own_only (htZ.own HEZ.out.args (by decide)) hAZ (by decide) ht2, hoZ.only hAZ (by decide) (by decide) ht2⟩)
                       clear hoZ hgZ htZ hPZ hAZ hRZ hKZ ht2 hlit HEZ HRZ hZs HOZ)
                    | go_skip | go_guarded | go_step)
                  generalize (Z.setCell ⟨ab, 5, none⟩ (.slice A3 (n1 + 1) c3)) = X2 at HE2 ⊢
                  refine (pKindS 0 (by omega) HE2.out.env.st).mono ?_
                  rintro e V5 ⟨kk7, rfl, hq0, q5, rfl⟩
                  skip
                  have HE5 := Lib.hid (HE2.out.drews q5)
                  clear hq0 HE2
                  generalize X2.drewN q5 = X5 at HE5 ⊢
                  dsimp only
                  by_cases h7 : kk7 = 7
                  · have d7 : ((kk7 : Int) != 7) = false := by rw [h7]; rfl
                    clear h7
                    obtain ⟨e3, c53, he31, he32⟩ := HE5.out.env.st.err
                    have de3 : ((e3 : Int) == 0) = false := by have := he32 z rfl; rw [beq_eq_false_iff_ne]; omega
                    clear he31 he32
                    repeat (first | go_skip | go_guarded | go_step)
                    go_roundw
                    case rel => exact ⟨.error z, A3, n1 + 1, c3, _, (M ++ [(false, sd2, tm2, (p2, l2))]), HE5.out, by simp [HML.out], by omega, Or.inl ⟨z, rfl, by rw [← HN2.out, HST2.out, HTE.out]; rfl⟩⟩
                    case measure =>
                      rw [HE5.out.env.a.cell 5, HE.out.env.a.cell 5]
                      show 10 - (n1 + 1) < 10 - n1
                      omega
                  · have d7 : ((kk7 : Int) != 7) = true := by rw [bne_iff_ne]; omega
                    clear h7
                    have HFIN := Lib.hid (show runE x (ruleE sz) = bindE (runE (.error z) (wordE sz 8)) fun _ s3 => .ok (((sd, tm, (p, l)), (M ++ [(false, sd2, tm2, (p2, l2))])), s3) by rw [HRUN2.out, ← HN2.out, HST2.out, HTE.out]; rfl)
                    repeat (first | go_skip | go_guarded | go_step)
                    refine (pWordS 8 (by omega) HE5.out.env.st).mono ?_
                    rintro e V9 ⟨T9, rfl, hp9, hk9⟩
                    have HE9 := Lib.hid (HE5.out.go hp9 hk9 hag hrg)
                    clear hp9 hk9
                    dsimp only
                    have a0 : V9.cell? ⟨ab, 0, none⟩ = some (.bool sd) := HE9.out.env.a.cell 0
                    have a1 : V9.cell? ⟨ab, 1, none⟩ = some (.bool tm.1) := HE9.out.env.a.cell 1
                    have a2 : V9.cell? ⟨ab, 2, none⟩ = some (nv tm.2) := HE9.out.env.a.cell 2
                    have a3 : V9.cell? ⟨ab, 3, none⟩ = some (nv p) := HE9.out.env.a.cell 3
                    have a4 : V9.cell? ⟨ab, 4, none⟩ = some (.slice A n c) := HE9.out.env.a.cell 4
                    have a5 : V9.cell? ⟨ab, 5, none⟩ = some (.slice A3 (n1 + 1) c3) := HE9.out.env.a.cell 5
                    have r0 : V9.cell? ⟨rr, 0, none⟩ = some (.bool false) := HE9.out.env.r.cell 0
                    have rf0 : V9.frozen? ⟨rr, 0, none⟩ = false := HE9.out.env.r.frozen 0
                    have r1 : V9.cell? ⟨rr, 1, none⟩ = some (.bool false) := HE9.out.env.r.cell 1
                    have rf1 : V9.frozen? ⟨rr, 1, none⟩ = false := HE9.out.env.r.frozen 1
                    have r2 : V9.cell? ⟨rr, 2, none⟩ = some (.int .u32 0) := HE9.out.env.r.cell 2
                    have rf2 : V9.frozen? ⟨rr, 2, none⟩ = false := HE9.out.env.r.frozen 2
                    have r3 : V9.cell? ⟨rr, 3, none⟩ = some (.int .u32 0) := HE9.out.env.r.cell 3
                    have rf3 : V9.frozen? ⟨rr, 3, none⟩ = false := HE9.out.env.r.frozen 3
                    have r4 : V9.cell? ⟨rr, 4, none⟩ = some (.slice none 0 0) := HE9.out.env.r.cell 4
                    have rf4 : V9.frozen? ⟨rr, 4, none⟩ = false := HE9.out.env.r.frozen 4
                    have r5 : V9.cell? ⟨rr, 5, none⟩ = some (.slice none 0 0) := HE9.out.env.r.cell 5
                    have rf5 : V9.frozen? ⟨rr, 5, none⟩ = false := HE9.out.env.r.frozen 5
                    repeat (first | go_skip | go_guarded | go_step)
                    (try simp only [Exit.inBlock, Exit.then])
                    refine bodyPost_ret (results_cell_row rfl _ _ rr _ _ _ _ rfl (rule_end HE9.out.env.r _ _ _ _ _ _) Tryz.underlying54 rfl (by kernel_rfl)) rfl ?_
                    exact ⟨sd, tm, p, A, n, c, l, A3, (n1 + 1), c3, _, (M ++ [(false, sd2, tm2, (p2, l2))]), rfl, own_only HE9.out.args HE9.out.env.r (by decide) (only_set6 _ _ _ _ _ _), hn7, HE9.out.body.only HE9.out.env.r (by decide) (by decide) (only_set6 _ _ _ _ _ _), by omega, PSt.far (by rw [HFIN.out, bindE_skip, st_ret]; exact HE9.out.env.st) HE9.out.env.r (by decide) (by decide) (by decide) (only_set6 _ _ _ _ _ _), (by rw [HFIN.out, bindE_skip]; exact says_ret _ _), HE9.out.env.kp.fresh (only_set6 _ _ _ _ _ _) hrw hrb HE9.out.env.r.lt⟩
                | ok z =>
                  obtain ⟨v3, s3⟩ := z
                  obtain rfl : (sd2, tm2, (p2, l2)) = v3 := HS9.out v3 s3 hte
                  have hn77 := HS8.out _ _ hte
                  have HTE := Lib.hid hte
                  rw [hte] at HEZ
                  clear hte
                  repeat (first
                    | (at_builtin; refine appC _ rfl (.tmp 59) (.tmp 63) rfl w.heap.size A1 c1 n1 R M rfl HEZ.out.body _ _ 1 (false, sd2, tm2, (p2, l2)) (A2, n2, c2) rfl HRZ.out (by omega) hZs HOZ.out ?_
                       intro A3 c3 Z hoZ hgZ
                       have htZ := Typ.ofGrown HEZ.out.body.top hgZ
                       have hPZ := HEZ.out.env.st.typ htZ (by decide) (by decide) (by decide)
                       have hAZ := htZ.bk HEZ.out.env.a (by decide)
                       have hRZ := htZ.bk HEZ.out.env.r (by decide)
                       have hKZ := HEZ.out.env.kp.grown HEZ.out.body.top (Nat.le_refl _) (by omega) HEZ.out.env.st.text hgZ
                       have z1 : Z.cell? ⟨ab, 5, none⟩ = some (.slice A1 n1 c1) := hAZ.cell 5
                       have zf : Z.frozen? ⟨ab, 5, none⟩ = false := hAZ.frozen 5
                       have ht2 : Only ab Z (Z.setCell ⟨ab, 5, none⟩ (.slice A3 (n1 + 1) c3)) := Turn.setCell (G := fun j => j = ab) (Turn.refl _ Z) (fun _ => rfl) _
                       have HE2 := Lib.hid (show EnvR base g ws sz w ab rr sd tm p A n c l (Z.setCell ⟨ab, 5, none⟩ (.slice A3 (n1 + 1) c3)) (.ok s3) A3 (n1 + 1) c3 (R ++ [(A2, n2, c2)]) (M ++ [(false, sd2, tm2, (p2, l2))]) from
                         ⟨⟨hPZ.far hAZ (by decide) (by decide) (by decide) ht2, hAZ.set_ 5 _, ht2.bk hRZ har, hKZ.fresh ht2 haw hab2 hAZ.lt⟩, own_only (htZ.own HEZ.out.args (by decide)) hAZ (by decide) ht2, hoZ.only hAZ (by decide) (by decide) ht2⟩)
                       clear hoZ hgZ htZ hPZ hAZ hRZ hKZ ht2 hlit HEZ HRZ hZs HOZ)
                    | go_skip | go_guarded | go_step)
                  generalize (Z.setCell ⟨ab, 5, none⟩ (.slice A3 (n1 + 1) c3)) = X2 at HE2 ⊢
                  refine (pKindS 0 (by omega) HE2.out.env.st).mono ?_
                  rintro e V5 ⟨kk7, rfl, hq0, q5, rfl⟩
                  have HQ7 := Lib.hid (show kk7 = kindE s3.1 from hq0 s3 rfl)
                  have HE5 := Lib.hid (HE2.out.drews q5)
                  clear hq0 HE2
                  generalize X2.drewN q5 = X5 at HE5 ⊢
                  dsimp only
                  by_cases h7 : kk7 = 7
                  · have d7 : ((kk7 : Int) != 7) = false := by rw [h7]; rfl
                    have HK7 := Lib.hid (show kindE s3.1 = 7 by rw [← HQ7.out]; exact h7)
                    clear h7
                    obtain ⟨e3, c53, he31, he32⟩ := HE5.out.env.st.err
                    have de3 : ((e3 : Int) == 0) = true := by rw [he31 s3 rfl]; rfl
                    clear he31 he32
                    obtain ⟨k5, s5c, s5f, hk57, hst5⟩ := HE5.out.env.st.step
                    obtain ⟨hn51, hn52⟩ := hst5 s3 rfl (kindE_ne HK7.out (by omega))
                    have HE6 := Lib.hid (HE5.out.go hn51 hn52 hag hrg)
                    clear hst5 hn51 hn52 HE5
                    repeat (first | go_skip | go_guarded | go_step)
                    generalize X5.setCell ⟨g, 1, none⟩ (.int .i64 ((k5 : Int) + 1)) = X9 at HE6 ⊢
                    go_roundw
                    case rel => exact ⟨.ok (nextE s3), A3, n1 + 1, c3, _, (M ++ [(false, sd2, tm2, (p2, l2))]), HE6.out, by simp [HML.out], by omega, Or.inr ⟨nextE s3, rfl, by omega, by rw [← HN2.out, HST2.out, HTE.out, bindE_of rfl, if_pos HK7.out, show 9 - (n1 + 1) = 8 - n1 by omega]⟩⟩
                    case measure =>
                      rw [HE6.out.env.a.cell 5, HE.out.env.a.cell 5]
                      show 10 - (n1 + 1) < 10 - n1
                      omega
                  · have d7 : ((kk7 : Int) != 7) = true := by rw [bne_iff_ne]; omega
                    have HK7 := Lib.hid (show ¬ kindE s3.1 = 7 by rw [← HQ7.out]; exact h7)
                    clear h7
                    have HFIN := Lib.hid (show runE x (ruleE sz) = bindE (runE (.ok s3) (wordE sz 8)) fun _ s3 => .ok (((sd, tm, (p, l)), (M ++ [(false, sd2, tm2, (p2, l2))])), s3) by
                      rw [HRUN2.out, ← HN2.out, HST2.out, HTE.out, bindE_of rfl, if_neg HK7.out]
                      rfl)
                    repeat (first | go_skip | go_guarded | go_step)
                    refine (pWordS 8 (by omega) HE5.out.env.st).mono ?_
                    rintro e V9 ⟨T9, rfl, hp9, hk9⟩
                    have HE9 := Lib.hid (HE5.out.go hp9 hk9 hag hrg)
                    clear hp9 hk9
                    dsimp only
                    have a0 : V9.cell? ⟨ab, 0, none⟩ = some (.bool sd) := HE9.out.env.a.cell 0
                    have a1 : V9.cell? ⟨ab, 1, none⟩ = some (.bool tm.1) := HE9.out.env.a.cell 1
                    have a2 : V9.cell? ⟨ab, 2, none⟩ = some (nv tm.2) := HE9.out.env.a.cell 2
                    have a3 : V9.cell? ⟨ab, 3, none⟩ = some (nv p) := HE9.out.env.a.cell 3
                    have a4 : V9.cell? ⟨ab, 4, none⟩ = some (.slice A n c) := HE9.out.env.a.cell 4
                    have a5 : V9.cell? ⟨ab, 5, none⟩ = some (.slice A3 (n1 + 1) c3) := HE9.out.env.a.cell 5
                    have r0 : V9.cell? ⟨rr, 0, none⟩ = some (.bool false) := HE9.out.env.r.cell 0
                    have rf0 : V9.frozen? ⟨rr, 0, none⟩ = false := HE9.out.env.r.frozen 0
                    have r1 : V9.cell? ⟨rr, 1, none⟩ = some (.bool false) := HE9.out.env.r.cell 1
                    have rf1 : V9.frozen? ⟨rr, 1, none⟩ = false := HE9.out.env.r.frozen 1
                    have r2 : V9.cell? ⟨rr, 2, none⟩ = some (.int .u32 0) := HE9.out.env.r.cell 2
                    have rf2 : V9.frozen? ⟨rr, 2, none⟩ = false := HE9.out.env.r.frozen 2
                    have r3 : V9.cell? ⟨rr, 3, none⟩ = some (.int .u32 0) := HE9.out.env.r.cell 3
                    have rf3 : V9.frozen? ⟨rr, 3, none⟩ = false := HE9.out.env.r.frozen 3
                    have r4 : V9.cell? ⟨rr, 4, none⟩ = some (.slice none 0 0) := HE9.out.env.r.cell 4
                    have rf4 : V9.frozen? ⟨rr, 4, none⟩ = false := HE9.out.env.r.frozen 4
                    have r5 : V9.cell? ⟨rr, 5, none⟩ = some (.slice none 0 0) := HE9.out.env.r.cell 5
                    have rf5 : V9.frozen? ⟨rr, 5, none⟩ = false := HE9.out.env.r.frozen 5
                    repeat (first | go_skip | go_guarded | go_step)
                    (try simp only [Exit.inBlock, Exit.then])
                    refine bodyPost_ret (results_cell_row rfl _ _ rr _ _ _ _ rfl (rule_end HE9.out.env.r _ _ _ _ _ _) Tryz.underlying54 rfl (by kernel_rfl)) rfl ?_
                    exact ⟨sd, tm, p, A, n, c, l, A3, (n1 + 1), c3, _, (M ++ [(false, sd2, tm2, (p2, l2))]), rfl, own_only HE9.out.args HE9.out.env.r (by decide) (only_set6 _ _ _ _ _ _), hn7, HE9.out.body.only HE9.out.env.r (by decide) (by decide) (only_set6 _ _ _ _ _ _), by omega, PSt.far (by rw [HFIN.out, bindE_skip, st_ret]; exact HE9.out.env.st) HE9.out.env.r (by decide) (by decide) (by decide) (only_set6 _ _ _ _ _ _), (by rw [HFIN.out, bindE_skip]; exact says_ret _ _), HE9.out.env.kp.fresh (only_set6 _ _ _ _ _ _) hrw hrb HE9.out.env.r.lt⟩
            · have d8 : ((n1 : Int) == 8) = false := by rw [beq_eq_false_iff_ne]; omega
              clear h8
              repeat (first | go_skip | go_guarded | go_step)
              have HE3 := HE
              clear a0 a1 a2 a3 a4 a5
              refine (pKindS 0 (by omega) HE3.out.env.st).mono ?_
              rintro e V6 ⟨k3, rfl, hq0, q6, rfl⟩
              have HQ3 := Lib.hid (show k3 = kindE s2.1 from hq0 s2 rfl)
              have HE6 := Lib.hid (HE3.out.drews q6)
              clear hq0 HE3
              generalize wr.drewN q6 = X6 at HE6 ⊢
              dsimp only
              by_cases h3 : k3 = 3
              · have d3 : ((k3 : Int) == 3) = true := by rw [h3]; rfl
                have HK3 := Lib.hid (show kindE s2.1 = 3 by rw [← HQ3.out]; exact h3)
                clear h3
                obtain ⟨k5, s5c, s5f, hk57, hst5⟩ := HE6.out.env.st.step
                obtain ⟨hn51, hn52⟩ := hst5 s2 rfl (kindE_ne HK3.out (by omega))
                have HE7 := Lib.hid (HE6.out.go hn51 hn52 hag hrg)
                have HST2 := Lib.hid (HST.out (nextE s2) true (by rw [if_pos HK3.out]) (decide_eq_true HK3.out).symm)
                have HS8 := Lib.hid (show ∀ v s', sayE sz (nextE s2) = .ok (v, s') → n1 ≤ 7 from fun v s' h => by
                  rcases Nat.lt_or_ge n1 8 with h8 | h8
                  · omega
                  · exact absurd ⟨by omega, Or.inl HK3.out⟩ HM.out)
                clear hst5 hn51 hn52 HE6 HK3
                repeat (first | go_skip | go_guarded | go_step)
                generalize X6.setCell ⟨g, 1, none⟩ (.int .i64 ((k5 : Int) + 1)) = X7 at HE7 ⊢
                clear s5c s5f
                refine (pSay_any base g ws sz _ X7 HE7.out.env.st).mono ?_
                rintro e V8 ⟨sd2, tm2, p2, A2, n2, c2, l2, rfl, ho8, hn72, hp8, hs8, hk8⟩
                have hE8 := HE7.out.go hp8 hk8 hag hrg
                obtain ⟨Y, hY, hT, hbY⟩ : ∃ Y, Y = V8.alloc (.cells #[.bool sd2, .bool tm2.1, nv tm2.2, nv p2, .slice A2 n2 c2] 51) ∧ Bk Y V8.heap.size 51 [.bool sd2, .bool tm2.1, nv tm2.2, nv p2, .slice A2 n2 c2] ∧ Below V8.heap.size V8 Y := ⟨_, rfl, Bk.new V8 _ [.bool sd2, .bool tm2.1, nv tm2.2, nv p2, .slice A2 n2 c2], (Below.refl _ _).alloc (Nat.le_refl _) _⟩
                obtain ⟨tb, htb⟩ : ∃ tb, tb = V8.heap.size := ⟨_, rfl⟩
                rw [← htb] at hT
                have hEY : EnvR base g ws sz w ab rr sd tm p A n c l Y (stE (sayE sz (nextE s2))) A1 n1 c1 R M := by rw [hY]; exact hE8.alloc _
                have HOY := Lib.hid (ownBelow (ownBase ho8 HE7.out.env.kp.below.size) hbY (Nat.le_refl _))
                have HEY := Lib.hid hEY
                have HY := Lib.hid hY
                have HTB := Lib.hid htb
                have HT := Lib.hid hT
                have hs8 : saysE (sayE sz (nextE s2)) (sd2, tm2, (p2, l2)) := hs8
                have HS9 := Lib.hid hs8
                clear hp8 hs8 hk8 hE8 hEY hY htb hT hbY ho8
                dsimp only
                go_upto_region 13 with (fail)
                rw [← HY.out, ← HTB.out]
                clear HY HTB HE7
                have a5 : Y.cell? ⟨ab, 5, none⟩ = some (.slice A1 n1 c1) := HEY.out.env.a.cell 5
                have t0 : Y.cell? ⟨tb, 0, none⟩ = some (.bool sd2) := HT.out.cell 0
                have t1 : Y.cell? ⟨tb, 1, none⟩ = some (.bool tm2.1) := HT.out.cell 1
                have t2 : Y.cell? ⟨tb, 2, none⟩ = some (nv tm2.2) := HT.out.cell 2
                have t3 : Y.cell? ⟨tb, 3, none⟩ = some (nv p2) := HT.out.cell 3
                have t4 : Y.cell? ⟨tb, 4, none⟩ = some (.slice A2 n2 c2) := HT.out.cell 4
                have hlit := run_litC true sd2 tm2 p2 A2 n2 c2 Y
                have hYs : w.heap.size ≤ Y.heap.size := HEY.out.env.kp.below.size
                have HEZ := Lib.hid (show EnvR base g ws sz w ab rr sd tm p A n c l (Y.alloc (.cells #[.bool true, .bool sd2, .bool tm2.1, nv tm2.2, nv p2, .slice A2 n2 c2] 103)) (stE (sayE sz (nextE s2))) A1 n1 c1 R M from HEY.out.alloc _)
                have HRZ := Lib.hid (show Rd (Y.alloc (.cells #[.bool true, .bool sd2, .bool tm2.1, nv tm2.2, nv p2, .slice A2 n2 c2] 103)) (Y.alloc (.cells #[.bool true, .bool sd2, .bool tm2.1, nv tm2.2, nv p2, .slice A2 n2 c2] 103)).heap.size 6 (some ⟨Y.heap.size, 0, none⟩) 1 (coC ((true, sd2, tm2, (p2, l2)), (A2, n2, c2))) from bk_rd6 (Bk.new Y _ [.bool true, .bool sd2, .bool tm2.1, nv tm2.2, nv p2, .slice A2 n2 c2]) rfl)
                have HOZ := Lib.hid (show OwT (Y.alloc (.cells #[.bool true, .bool sd2, .bool tm2.1, nv tm2.2, nv p2, .slice A2 n2 c2] 103)) w.heap.size A2 c2 n2 l2 from World.ownsRow.alloc HOY.out _)
                have hZs : w.heap.size ≤ (Y.alloc (.cells #[.bool true, .bool sd2, .bool tm2.1, nv tm2.2, nv p2, .slice A2 n2 c2] 103)).heap.size := HEZ.out.env.kp.below.size
                cases hte : sayE sz (nextE s2) with
                | error z =>
                  have HTE := Lib.hid hte
                  rw [hte] at HEZ
                  clear hte
                  repeat (first
                    | (at_builtin; refine appC _ rfl (.tmp 59) (.tmp 63) rfl w.heap.size A1 c1 n1 R M rfl HEZ.out.body _ _ 1 (true, sd2, tm2, (p2, l2)) (A2, n2, c2) rfl HRZ.out (by omega) hZs HOZ.out ?_
                       intro A3 c3 Z hoZ hgZ
                       have htZ := Typ.ofGrown HEZ.out.body.top hgZ
                       have hPZ := HEZ.out.env.st.typ htZ (by decide) (by decide) (by decide)
                       have hAZ := htZ.bk HEZ.out.env.a (by decide)
                       have hRZ := htZ.bk HEZ.out.env.r (by decide)
                       have hKZ := HEZ.out.env.kp.grown HEZ.out.body.top (Nat.le_refl _) (by omega) HEZ.out.env.st.text hgZ
                       have z1 : Z.cell? ⟨ab, 5, none⟩ = some (.slice A1 n1 c1) := hAZ.cell 5
                       have zf : Z.frozen? ⟨ab, 5, none⟩ = false := hAZ.frozen 5
                       have ht2 : Only ab Z (Z.setCell ⟨ab, 5, none⟩ (.slice A3 (n1 + 1) c3)) := Turn.setCell (G := fun j => j = ab) (Turn.refl _ Z) (fun _ => rfl) _
                       have HE2 := Lib.hid (show EnvR base g ws sz w ab rr sd tm p A n c l (Z.setCell ⟨ab, 5, none⟩ (.slice A3 (n1 + 1) c3)) (.error z) A3 (n1 + 1) c3 (R ++ [(A2, n2, c2)]) (M ++ [(true, sd2, tm2, (p2, l2))]) from
                         ⟨⟨hPZ.far hAZ (by decide) (by decide) (by decide) ht2, hAZ.set_ 5 _, ht2.bk hRZ har, hKZ.fresh ht2 haw hab2 hAZ.lt⟩, own_only (htZ.own HEZ.out.args (by decide)) hAZ (by decide) ht2, hoZ.only hAZ (by decide) (by decide) ht2⟩)
                       clear hoZ hgZ htZ hPZ hAZ hRZ hKZ ht2 hlit HEZ HRZ hZs HOZ)
                    | go_skip | go_guarded | go_step)
                  generalize (Z.setCell ⟨ab, 5, none⟩ (.slice A3 (n1 + 1) c3)) = X2 at HE2 ⊢
                  refine (pKindS 0 (by omega) HE2.out.env.st).mono ?_
                  rintro e V5 ⟨kk7, rfl, hq0, q5, rfl⟩
                  skip
                  have HE5 := Lib.hid (HE2.out.drews q5)
                  clear hq0 HE2
                  generalize X2.drewN q5 = X5 at HE5 ⊢
                  dsimp only
                  by_cases h7 : kk7 = 7
                  · have d7 : ((kk7 : Int) != 7) = false := by rw [h7]; rfl
                    clear h7
                    obtain ⟨e3, c53, he31, he32⟩ := HE5.out.env.st.err
                    have de3 : ((e3 : Int) == 0) = false := by have := he32 z rfl; rw [beq_eq_false_iff_ne]; omega
                    clear he31 he32
                    repeat (first | go_skip | go_guarded | go_step)
                    go_roundw
                    case rel => exact ⟨.error z, A3, n1 + 1, c3, _, (M ++ [(true, sd2, tm2, (p2, l2))]), HE5.out, by simp [HML.out], by omega, Or.inl ⟨z, rfl, by rw [← HN2.out, HST2.out, HTE.out]; rfl⟩⟩
                    case measure =>
                      rw [HE5.out.env.a.cell 5, HE.out.env.a.cell 5]
                      show 10 - (n1 + 1) < 10 - n1
                      omega
                  · have d7 : ((kk7 : Int) != 7) = true := by rw [bne_iff_ne]; omega
                    clear h7
                    have HFIN := Lib.hid (show runE x (ruleE sz) = bindE (runE (.error z) (wordE sz 8)) fun _ s3 => .ok (((sd, tm, (p, l)), (M ++ [(true, sd2, tm2, (p2, l2))])), s3) by rw [HRUN2.out, ← HN2.out, HST2.out, HTE.out]; rfl)
                    repeat (first | go_skip | go_guarded | go_step)
                    refine (pWordS 8 (by omega) HE5.out.env.st).mono ?_
                    rintro e V9 ⟨T9, rfl, hp9, hk9⟩
                    have HE9 := Lib.hid (HE5.out.go hp9 hk9 hag hrg)
                    clear hp9 hk9
                    dsimp only
                    have a0 : V9.cell? ⟨ab, 0, none⟩ = some (.bool sd) := HE9.out.env.a.cell 0
                    have a1 : V9.cell? ⟨ab, 1, none⟩ = some (.bool tm.1) := HE9.out.env.a.cell 1
                    have a2 : V9.cell? ⟨ab, 2, none⟩ = some (nv tm.2) := HE9.out.env.a.cell 2
                    have a3 : V9.cell? ⟨ab, 3, none⟩ = some (nv p) := HE9.out.env.a.cell 3
                    have a4 : V9.cell? ⟨ab, 4, none⟩ = some (.slice A n c) := HE9.out.env.a.cell 4
                    have a5 : V9.cell? ⟨ab, 5, none⟩ = some (.slice A3 (n1 + 1) c3) := HE9.out.env.a.cell 5
                    have r0 : V9.cell? ⟨rr, 0, none⟩ = some (.bool false) := HE9.out.env.r.cell 0
                    have rf0 : V9.frozen? ⟨rr, 0, none⟩ = false := HE9.out.env.r.frozen 0
                    have r1 : V9.cell? ⟨rr, 1, none⟩ = some (.bool false) := HE9.out.env.r.cell 1
                    have rf1 : V9.frozen? ⟨rr, 1, none⟩ = false := HE9.out.env.r.frozen 1
                    have r2 : V9.cell? ⟨rr, 2, none⟩ = some (.int .u32 0) := HE9.out.env.r.cell 2
                    have rf2 : V9.frozen? ⟨rr, 2, none⟩ = false := HE9.out.env.r.frozen 2
                    have r3 : V9.cell? ⟨rr, 3, none⟩ = some (.int .u32 0) := HE9.out.env.r.cell 3
                    have rf3 : V9.frozen? ⟨rr, 3, none⟩ = false := HE9.out.env.r.frozen 3
                    have r4 : V9.cell? ⟨rr, 4, none⟩ = some (.slice none 0 0) := HE9.out.env.r.cell 4
                    have rf4 : V9.frozen? ⟨rr, 4, none⟩ = false := HE9.out.env.r.frozen 4
                    have r5 : V9.cell? ⟨rr, 5, none⟩ = some (.slice none 0 0) := HE9.out.env.r.cell 5
                    have rf5 : V9.frozen? ⟨rr, 5, none⟩ = false := HE9.out.env.r.frozen 5
                    repeat (first | go_skip | go_guarded | go_step)
                    (try simp only [Exit.inBlock, Exit.then])
                    refine bodyPost_ret (results_cell_row rfl _ _ rr _ _ _ _ rfl (rule_end HE9.out.env.r _ _ _ _ _ _) Tryz.underlying54 rfl (by kernel_rfl)) rfl ?_
                    exact ⟨sd, tm, p, A, n, c, l, A3, (n1 + 1), c3, _, (M ++ [(true, sd2, tm2, (p2, l2))]), rfl, own_only HE9.out.args HE9.out.env.r (by decide) (only_set6 _ _ _ _ _ _), hn7, HE9.out.body.only HE9.out.env.r (by decide) (by decide) (only_set6 _ _ _ _ _ _), by omega, PSt.far (by rw [HFIN.out, bindE_skip, st_ret]; exact HE9.out.env.st) HE9.out.env.r (by decide) (by decide) (by decide) (only_set6 _ _ _ _ _ _), (by rw [HFIN.out, bindE_skip]; exact says_ret _ _), HE9.out.env.kp.fresh (only_set6 _ _ _ _ _ _) hrw hrb HE9.out.env.r.lt⟩
                | ok z =>
                  obtain ⟨v3, s3⟩ := z
                  obtain rfl : (sd2, tm2, (p2, l2)) = v3 := HS9.out v3 s3 hte
                  have hn77 := HS8.out _ _ hte
                  have HTE := Lib.hid hte
                  rw [hte] at HEZ
                  clear hte
                  repeat (first
                    | (at_builtin; refine appC _ rfl (.tmp 59) (.tmp 63) rfl w.heap.size A1 c1 n1 R M rfl HEZ.out.body _ _ 1 (true, sd2, tm2, (p2, l2)) (A2, n2, c2) rfl HRZ.out (by omega) hZs HOZ.out ?_
                       intro A3 c3 Z hoZ hgZ
                       have htZ := Typ.ofGrown HEZ.out.body.top hgZ
                       have hPZ := HEZ.out.env.st.typ htZ (by decide) (by decide) (by decide)
                       have hAZ := htZ.bk HEZ.out.env.a (by decide)
                       have hRZ := htZ.bk HEZ.out.env.r (by decide)
                       have hKZ := HEZ.out.env.kp.grown HEZ.out.body.top (Nat.le_refl _) (by omega) HEZ.out.env.st.text hgZ
                       have z1 : Z.cell? ⟨ab, 5, none⟩ = some (.slice A1 n1 c1) := hAZ.cell 5
                       have zf : Z.frozen? ⟨ab, 5, none⟩ = false := hAZ.frozen 5
                       have ht2 : Only ab Z (Z.setCell ⟨ab, 5, none⟩ (.slice A3 (n1 + 1) c3)) := Turn.setCell (G := fun j => j = ab) (Turn.refl _ Z) (fun _ => rfl) _
                       have HE2 := Lib.hid (show EnvR base g ws sz w ab rr sd tm p A n c l (Z.setCell ⟨ab, 5, none⟩ (.slice A3 (n1 + 1) c3)) (.ok s3) A3 (n1 + 1) c3 (R ++ [(A2, n2, c2)]) (M ++ [(true, sd2, tm2, (p2, l2))]) from
                         ⟨⟨hPZ.far hAZ (by decide) (by decide) (by decide) ht2, hAZ.set_ 5 _, ht2.bk hRZ har, hKZ.fresh ht2 haw hab2 hAZ.lt⟩, own_only (htZ.own HEZ.out.args (by decide)) hAZ (by decide) ht2, hoZ.only hAZ (by decide) (by decide) ht2⟩)
                       clear hoZ hgZ htZ hPZ hAZ hRZ hKZ ht2 hlit HEZ HRZ hZs HOZ)
                    | go_skip | go_guarded | go_step)
                  generalize (Z.setCell ⟨ab, 5, none⟩ (.slice A3 (n1 + 1) c3)) = X2 at HE2 ⊢
                  refine (pKindS 0 (by omega) HE2.out.env.st).mono ?_
                  rintro e V5 ⟨kk7, rfl, hq0, q5, rfl⟩
                  have HQ7 := Lib.hid (show kk7 = kindE s3.1 from hq0 s3 rfl)
                  have HE5 := Lib.hid (HE2.out.drews q5)
                  clear hq0 HE2
                  generalize X2.drewN q5 = X5 at HE5 ⊢
                  dsimp only
                  by_cases h7 : kk7 = 7
                  · have d7 : ((kk7 : Int) != 7) = false := by rw [h7]; rfl
                    have HK7 := Lib.hid (show kindE s3.1 = 7 by rw [← HQ7.out]; exact h7)
                    clear h7
                    obtain ⟨e3, c53, he31, he32⟩ := HE5.out.env.st.err
                    have de3 : ((e3 : Int) == 0) = true := by rw [he31 s3 rfl]; rfl
                    clear he31 he32
                    obtain ⟨k5, s5c, s5f, hk57, hst5⟩ := HE5.out.env.st.step
                    obtain ⟨hn51, hn52⟩ := hst5 s3 rfl (kindE_ne HK7.out (by omega))
                    have HE6 := Lib.hid (HE5.out.go hn51 hn52 hag hrg)
                    clear hst5 hn51 hn52 HE5
                    repeat (first | go_skip | go_guarded | go_step)
                    generalize X5.setCell ⟨g, 1, none⟩ (.int .i64 ((k5 : Int) + 1)) = X9 at HE6 ⊢
                    go_roundw
                    case rel => exact ⟨.ok (nextE s3), A3, n1 + 1, c3, _, (M ++ [(true, sd2, tm2, (p2, l2))]), HE6.out, by simp [HML.out], by omega, Or.inr ⟨nextE s3, rfl, by omega, by rw [← HN2.out, HST2.out, HTE.out, bindE_of rfl, if_pos HK7.out, show 9 - (n1 + 1) = 8 - n1 by omega]⟩⟩
                    case measure =>
                      rw [HE6.out.env.a.cell 5, HE.out.env.a.cell 5]
                      show 10 - (n1 + 1) < 10 - n1
                      omega
                  · have d7 : ((kk7 : Int) != 7) = true := by rw [bne_iff_ne]; omega
                    have HK7 := Lib.hid (show ¬ kindE s3.1 = 7 by rw [← HQ7.out]; exact h7)
                    clear h7
                    have HFIN := Lib.hid (show runE x (ruleE sz) = bindE (runE (.ok s3) (wordE sz 8)) fun _ s3 => .ok (((sd, tm, (p, l)), (M ++ [(true, sd2, tm2, (p2, l2))])), s3) by
                      rw [HRUN2.out, ← HN2.out, HST2.out, HTE.out, bindE_of rfl, if_neg HK7.out]
                      rfl)
                    repeat (first | go_skip | go_guarded | go_step)
                    refine (pWordS 8 (by omega) HE5.out.env.st).mono ?_
                    rintro e V9 ⟨T9, rfl, hp9, hk9⟩
                    have HE9 := Lib.hid (HE5.out.go hp9 hk9 hag hrg)
                    clear hp9 hk9
                    dsimp only
                    have a0 : V9.cell? ⟨ab, 0, none⟩ = some (.bool sd) := HE9.out.env.a.cell 0
                    have a1 : V9.cell? ⟨ab, 1, none⟩ = some (.bool tm.1) := HE9.out.env.a.cell 1
                    have a2 : V9.cell? ⟨ab, 2, none⟩ = some (nv tm.2) := HE9.out.env.a.cell 2
                    have a3 : V9.cell? ⟨ab, 3, none⟩ = some (nv p) := HE9.out.env.a.cell 3
                    have a4 : V9.cell? ⟨ab, 4, none⟩ = some (.slice A n c) := HE9.out.env.a.cell 4
                    have a5 : V9.cell? ⟨ab, 5, none⟩ = some (.slice A3 (n1 + 1) c3) := HE9.out.env.a.cell 5
                    have r0 : V9.cell? ⟨rr, 0, none⟩ = some (.bool false) := HE9.out.env.r.cell 0
                    have rf0 : V9.frozen? ⟨rr, 0, none⟩ = false := HE9.out.env.r.frozen 0
                    have r1 : V9.cell? ⟨rr, 1, none⟩ = some (.bool false) := HE9.out.env.r.cell 1
                    have rf1 : V9.frozen? ⟨rr, 1, none⟩ = false := HE9.out.env.r.frozen 1
                    have r2 : V9.cell? ⟨rr, 2, none⟩ = some (.int .u32 0) := HE9.out.env.r.cell 2
                    have rf2 : V9.frozen? ⟨rr, 2, none⟩ = false := HE9.out.env.r.frozen 2
                    have r3 : V9.cell? ⟨rr, 3, none⟩ = some (.int .u32 0) := HE9.out.env.r.cell 3
                    have rf3 : V9.frozen? ⟨rr, 3, none⟩ = false := HE9.out.env.r.frozen 3
                    have r4 : V9.cell? ⟨rr, 4, none⟩ = some (.slice none 0 0) := HE9.out.env.r.cell 4
                    have rf4 : V9.frozen? ⟨rr, 4, none⟩ = false := HE9.out.env.r.frozen 4
                    have r5 : V9.cell? ⟨rr, 5, none⟩ = some (.slice none 0 0) := HE9.out.env.r.cell 5
                    have rf5 : V9.frozen? ⟨rr, 5, none⟩ = false := HE9.out.env.r.frozen 5
                    repeat (first | go_skip | go_guarded | go_step)
                    (try simp only [Exit.inBlock, Exit.then])
                    refine bodyPost_ret (results_cell_row rfl _ _ rr _ _ _ _ rfl (rule_end HE9.out.env.r _ _ _ _ _ _) Tryz.underlying54 rfl (by kernel_rfl)) rfl ?_
                    exact ⟨sd, tm, p, A, n, c, l, A3, (n1 + 1), c3, _, (M ++ [(true, sd2, tm2, (p2, l2))]), rfl, own_only HE9.out.args HE9.out.env.r (by decide) (only_set6 _ _ _ _ _ _), hn7, HE9.out.body.only HE9.out.env.r (by decide) (by decide) (only_set6 _ _ _ _ _ _), by omega, PSt.far (by rw [HFIN.out, bindE_skip, st_ret]; exact HE9.out.env.st) HE9.out.env.r (by decide) (by decide) (by decide) (only_set6 _ _ _ _ _ _), (by rw [HFIN.out, bindE_skip]; exact says_ret _ _), HE9.out.env.kp.fresh (only_set6 _ _ _ _ _ _) hrw hrb HE9.out.env.r.lt⟩
              · have d3 : ((k3 : Int) == 3) = false := by rw [beq_eq_false_iff_ne]; omega
                have HK3 := Lib.hid (show ¬ kindE s2.1 = 3 by rw [← HQ3.out]; exact h3)
                clear h3
                have HE7 := HE6
                have HST2 := Lib.hid (HST.out s2 false (by rw [if_neg HK3.out]) (decide_eq_false HK3.out).symm)
                have HS8 := Lib.hid (show ∀ v s', sayE sz s2 = .ok (v, s') → n1 ≤ 7 from fun v s' h => by
                  rcases Nat.lt_or_ge n1 8 with h8 | h8
                  · omega
                  · exact absurd ⟨by omega, Or.inr (say_kind h)⟩ HM.out)
                clear HE6 HK3
                repeat (first | go_skip | go_guarded | go_step)
                refine (pSay_any base g ws sz _ X6 HE7.out.env.st).mono ?_
                rintro e V8 ⟨sd2, tm2, p2, A2, n2, c2, l2, rfl, ho8, hn72, hp8, hs8, hk8⟩
                have hE8 := HE7.out.go hp8 hk8 hag hrg
                obtain ⟨Y, hY, hT, hbY⟩ : ∃ Y, Y = V8.alloc (.cells #[.bool sd2, .bool tm2.1, nv tm2.2, nv p2, .slice A2 n2 c2] 51) ∧ Bk Y V8.heap.size 51 [.bool sd2, .bool tm2.1, nv tm2.2, nv p2, .slice A2 n2 c2] ∧ Below V8.heap.size V8 Y := ⟨_, rfl, Bk.new V8 _ [.bool sd2, .bool tm2.1, nv tm2.2, nv p2, .slice A2 n2 c2], (Below.refl _ _).alloc (Nat.le_refl _) _⟩
                obtain ⟨tb, htb⟩ : ∃ tb, tb = V8.heap.size := ⟨_, rfl⟩
                rw [← htb] at hT
                have hEY : EnvR base g ws sz w ab rr sd tm p A n c l Y (stE (sayE sz s2)) A1 n1 c1 R M := by rw [hY]; exact hE8.alloc _
                have HOY := Lib.hid (ownBelow (ownBase ho8 HE7.out.env.kp.below.size) hbY (Nat.le_refl _))
                have HEY := Lib.hid hEY
                have HY := Lib.hid hY
                have HTB := Lib.hid htb
                have HT := Lib.hid hT
                have hs8 : saysE (sayE sz s2) (sd2, tm2, (p2, l2)) := hs8
                have HS9 := Lib.hid hs8
                clear hp8 hs8 hk8 hE8 hEY hY htb hT hbY ho8
                dsimp only
                go_upto_region 13 with (fail)
                rw [← HY.out, ← HTB.out]
                clear HY HTB HE7
                have a5 : Y.cell? ⟨ab, 5, none⟩ = some (.slice A1 n1 c1) := HEY.out.env.a.cell 5
                have t0 : Y.cell? ⟨tb, 0, none⟩ = some (.bool sd2) := HT.out.cell 0
                have t1 : Y.cell? ⟨tb, 1, none⟩ = some (.bool tm2.1) := HT.out.cell 1
                have t2 : Y.cell? ⟨tb, 2, none⟩ = some (nv tm2.2) := HT.out.cell 2
                have t3 : Y.cell? ⟨tb, 3, none⟩ = some (nv p2) := HT.out.cell 3
                have t4 : Y.cell? ⟨tb, 4, none⟩ = some (.slice A2 n2 c2) := HT.out.cell 4
                have hlit := run_litC false sd2 tm2 p2 A2 n2 c2 Y
                have hYs : w.heap.size ≤ Y.heap.size := HEY.out.env.kp.below.size
                have HEZ := Lib.hid (show EnvR base g ws sz w ab rr sd tm p A n c l (Y.alloc (.cells #[.bool false, .bool sd2, .bool tm2.1, nv tm2.2, nv p2, .slice A2 n2 c2] 103)) (stE (sayE sz s2)) A1 n1 c1 R M from HEY.out.alloc _)
                have HRZ := Lib.hid (show Rd (Y.alloc (.cells #[.bool false, .bool sd2, .bool tm2.1, nv tm2.2, nv p2, .slice A2 n2 c2] 103)) (Y.alloc (.cells #[.bool false, .bool sd2, .bool tm2.1, nv tm2.2, nv p2, .slice A2 n2 c2] 103)).heap.size 6 (some ⟨Y.heap.size, 0, none⟩) 1 (coC ((false, sd2, tm2, (p2, l2)), (A2, n2, c2))) from bk_rd6 (Bk.new Y _ [.bool false, .bool sd2, .bool tm2.1, nv tm2.2, nv p2, .slice A2 n2 c2]) rfl)
                have HOZ := Lib.hid (show OwT (Y.alloc (.cells #[.bool false, .bool sd2, .bool tm2.1, nv tm2.2, nv p2, .slice A2 n2 c2] 103)) w.heap.size A2 c2 n2 l2 from World.ownsRow.alloc HOY.out _)
                have hZs : w.heap.size ≤ (Y.alloc (.cells #[.bool false, .bool sd2, .bool tm2.1, nv tm2.2, nv p2, .slice A2 n2 c2] 103)).heap.size := HEZ.out.env.kp.below.size
                cases hte : sayE sz s2 with
                | error z =>
                  have HTE := Lib.hid hte
                  rw [hte] at HEZ
                  clear hte
                  repeat (first
                    | (at_builtin; refine appC _ rfl (.tmp 59) (.tmp 63) rfl w.heap.size A1 c1 n1 R M rfl HEZ.out.body _ _ 1 (false, sd2, tm2, (p2, l2)) (A2, n2, c2) rfl HRZ.out (by omega) hZs HOZ.out ?_
                       intro A3 c3 Z hoZ hgZ
                       have htZ := Typ.ofGrown HEZ.out.body.top hgZ
                       have hPZ := HEZ.out.env.st.typ htZ (by decide) (by decide) (by decide)
                       have hAZ := htZ.bk HEZ.out.env.a (by decide)
                       have hRZ := htZ.bk HEZ.out.env.r (by decide)
                       have hKZ := HEZ.out.env.kp.grown HEZ.out.body.top (Nat.le_refl _) (by omega) HEZ.out.env.st.text hgZ
                       have z1 : Z.cell? ⟨ab, 5, none⟩ = some (.slice A1 n1 c1) := hAZ.cell 5
                       have zf : Z.frozen? ⟨ab, 5, none⟩ = false := hAZ.frozen 5
                       have ht2 : Only ab Z (Z.setCell ⟨ab, 5, none⟩ (.slice A3 (n1 + 1) c3)) := Turn.setCell (G := fun j => j = ab) (Turn.refl _ Z) (fun _ => rfl) _
                       have HE2 := Lib.hid (show EnvR base g ws sz w ab rr sd tm p A n c l (Z.setCell ⟨ab, 5, none⟩ (.slice A3 (n1 + 1) c3)) (.error z) A3 (n1 + 1) c3 (R ++ [(A2, n2, c2)]) (M ++ [(false, sd2, tm2, (p2, l2))]) from
                         ⟨⟨hPZ.far hAZ (by decide) (by decide) (by decide) ht2, hAZ.set_ 5 _, ht2.bk hRZ har, hKZ.fresh ht2 haw hab2 hAZ.lt⟩, own_only (htZ.own HEZ.out.args (by decide)) hAZ (by decide) ht2, hoZ.only hAZ (by decide) (by decide) ht2⟩)
                       clear hoZ hgZ htZ hPZ hAZ hRZ hKZ ht2 hlit HEZ HRZ hZs HOZ)
                    | go_skip | go_guarded | go_step)
                  generalize (Z.setCell ⟨ab, 5, none⟩ (.slice A3 (n1 + 1) c3)) = X2 at HE2 ⊢
                  refine (pKindS 0 (by omega) HE2.out.env.st).mono ?_
                  rintro e V5 ⟨kk7, rfl, hq0, q5, rfl⟩
                  skip
                  have HE5 := Lib.hid (HE2.out.drews q5)
                  clear hq0 HE2
                  generalize X2.drewN q5 = X5 at HE5 ⊢
                  dsimp only
                  by_cases h7 : kk7 = 7
                  · have d7 : ((kk7 : Int) != 7) = false := by rw [h7]; rfl
                    clear h7
                    obtain ⟨e3, c53, he31, he32⟩ := HE5.out.env.st.err
                    have de3 : ((e3 : Int) == 0) = false := by have := he32 z rfl; rw [beq_eq_false_iff_ne]; omega
                    clear he31 he32
                    repeat (first | go_skip | go_guarded | go_step)
                    go_roundw
                    case rel => exact ⟨.error z, A3, n1 + 1, c3, _, (M ++ [(false, sd2, tm2, (p2, l2))]), HE5.out, by simp [HML.out], by omega, Or.inl ⟨z, rfl, by rw [← HN2.out, HST2.out, HTE.out]; rfl⟩⟩
                    case measure =>
                      rw [HE5.out.env.a.cell 5, HE.out.env.a.cell 5]
                      show 10 - (n1 + 1) < 10 - n1
                      omega
                  · have d7 : ((kk7 : Int) != 7) = true := by rw [bne_iff_ne]; omega
                    clear h7
                    have HFIN := Lib.hid (show runE x (ruleE sz) = bindE (runE (.error z) (wordE sz 8)) fun _ s3 => .ok (((sd, tm, (p, l)), (M ++ [(false, sd2, tm2, (p2, l2))])), s3) by rw [HRUN2.out, ← HN2.out, HST2.out, HTE.out]; rfl)
                    repeat (first | go_skip | go_guarded | go_step)
                    refine (pWordS 8 (by omega) HE5.out.env.st).mono ?_
                    rintro e V9 ⟨T9, rfl, hp9, hk9⟩
                    have HE9 := Lib.hid (HE5.out.go hp9 hk9 hag hrg)
                    clear hp9 hk9
                    dsimp only
                    have a0 : V9.cell? ⟨ab, 0, none⟩ = some (.bool sd) := HE9.out.env.a.cell 0
                    have a1 : V9.cell? ⟨ab, 1, none⟩ = some (.bool tm.1) := HE9.out.env.a.cell 1
                    have a2 : V9.cell? ⟨ab, 2, none⟩ = some (nv tm.2) := HE9.out.env.a.cell 2
                    have a3 : V9.cell? ⟨ab, 3, none⟩ = some (nv p) := HE9.out.env.a.cell 3
                    have a4 : V9.cell? ⟨ab, 4, none⟩ = some (.slice A n c) := HE9.out.env.a.cell 4
                    have a5 : V9.cell? ⟨ab, 5, none⟩ = some (.slice A3 (n1 + 1) c3) := HE9.out.env.a.cell 5
                    have r0 : V9.cell? ⟨rr, 0, none⟩ = some (.bool false) := HE9.out.env.r.cell 0
                    have rf0 : V9.frozen? ⟨rr, 0, none⟩ = false := HE9.out.env.r.frozen 0
                    have r1 : V9.cell? ⟨rr, 1, none⟩ = some (.bool false) := HE9.out.env.r.cell 1
                    have rf1 : V9.frozen? ⟨rr, 1, none⟩ = false := HE9.out.env.r.frozen 1
                    have r2 : V9.cell? ⟨rr, 2, none⟩ = some (.int .u32 0) := HE9.out.env.r.cell 2
                    have rf2 : V9.frozen? ⟨rr, 2, none⟩ = false := HE9.out.env.r.frozen 2
                    have r3 : V9.cell? ⟨rr, 3, none⟩ = some (.int .u32 0) := HE9.out.env.r.cell 3
                    have rf3 : V9.frozen? ⟨rr, 3, none⟩ = false := HE9.out.env.r.frozen 3
                    have r4 : V9.cell? ⟨rr, 4, none⟩ = some (.slice none 0 0) := HE9.out.env.r.cell 4
                    have rf4 : V9.frozen? ⟨rr, 4, none⟩ = false := HE9.out.env.r.frozen 4
                    have r5 : V9.cell? ⟨rr, 5, none⟩ = some (.slice none 0 0) := HE9.out.env.r.cell 5
                    have rf5 : V9.frozen? ⟨rr, 5, none⟩ = false := HE9.out.env.r.frozen 5
                    repeat (first | go_skip | go_guarded | go_step)
                    (try simp only [Exit.inBlock, Exit.then])
                    refine bodyPost_ret (results_cell_row rfl _ _ rr _ _ _ _ rfl (rule_end HE9.out.env.r _ _ _ _ _ _) Tryz.underlying54 rfl (by kernel_rfl)) rfl ?_
                    exact ⟨sd, tm, p, A, n, c, l, A3, (n1 + 1), c3, _, (M ++ [(false, sd2, tm2, (p2, l2))]), rfl, own_only HE9.out.args HE9.out.env.r (by decide) (only_set6 _ _ _ _ _ _), hn7, HE9.out.body.only HE9.out.env.r (by decide) (by decide) (only_set6 _ _ _ _ _ _), by omega, PSt.far (by rw [HFIN.out, bindE_skip, st_ret]; exact HE9.out.env.st) HE9.out.env.r (by decide) (by decide) (by decide) (only_set6 _ _ _ _ _ _), (by rw [HFIN.out, bindE_skip]; exact says_ret _ _), HE9.out.env.kp.fresh (only_set6 _ _ _ _ _ _) hrw hrb HE9.out.env.r.lt⟩
                | ok z =>
                  obtain ⟨v3, s3⟩ := z
                  obtain rfl : (sd2, tm2, (p2, l2)) = v3 := HS9.out v3 s3 hte
                  have hn77 := HS8.out _ _ hte
                  have HTE := Lib.hid hte
                  rw [hte] at HEZ
                  clear hte
                  repeat (first
                    | (at_builtin; refine appC _ rfl (.tmp 59) (.tmp 63) rfl w.heap.size A1 c1 n1 R M rfl HEZ.out.body _ _ 1 (false, sd2, tm2, (p2, l2)) (A2, n2, c2) rfl HRZ.out (by omega) hZs HOZ.out ?_
                       intro A3 c3 Z hoZ hgZ
                       have htZ := Typ.ofGrown HEZ.out.body.top hgZ
                       have hPZ := HEZ.out.env.st.typ htZ (by decide) (by decide) (by decide)
                       have hAZ := htZ.bk HEZ.out.env.a (by decide)
                       have hRZ := htZ.bk HEZ.out.env.r (by decide)
                       have hKZ := HEZ.out.env.kp.grown HEZ.out.body.top (Nat.le_refl _) (by omega) HEZ.out.env.st.text hgZ
                       have z1 : Z.cell? ⟨ab, 5, none⟩ = some (.slice A1 n1 c1) := hAZ.cell 5
                       have zf : Z.frozen? ⟨ab, 5, none⟩ = false := hAZ.frozen 5
                       have ht2 : Only ab Z (Z.setCell ⟨ab, 5, none⟩ (.slice A3 (n1 + 1) c3)) := Turn.setCell (G := fun j => j = ab) (Turn.refl _ Z) (fun _ => rfl) _
                       have HE2 := Lib.hid (show EnvR base g ws sz w ab rr sd tm p A n c l (Z.setCell ⟨ab, 5, none⟩ (.slice A3 (n1 + 1) c3)) (.ok s3) A3 (n1 + 1) c3 (R ++ [(A2, n2, c2)]) (M ++ [(false, sd2, tm2, (p2, l2))]) from
                         ⟨⟨hPZ.far hAZ (by decide) (by decide) (by decide) ht2, hAZ.set_ 5 _, ht2.bk hRZ har, hKZ.fresh ht2 haw hab2 hAZ.lt⟩, own_only (htZ.own HEZ.out.args (by decide)) hAZ (by decide) ht2, hoZ.only hAZ (by decide) (by decide) ht2⟩)
                       clear hoZ hgZ htZ hPZ hAZ hRZ hKZ ht2 hlit HEZ HRZ hZs HOZ)
                    | go_skip | go_guarded | go_step)
                  generalize (Z.setCell ⟨ab, 5, none⟩ (.slice A3 (n1 + 1) c3)) = X2 at HE2 ⊢
                  refine (pKindS 0 (by omega) HE2.out.env.st).mono ?_
                  rintro e V5 ⟨kk7, rfl, hq0, q5, rfl⟩
                  have HQ7 := Lib.hid (show kk7 = kindE s3.1 from hq0 s3 rfl)
                  have HE5 := Lib.hid (HE2.out.drews q5)
                  clear hq0 HE2
                  generalize X2.drewN q5 = X5 at HE5 ⊢
                  dsimp only
                  by_cases h7 : kk7 = 7
                  · have d7 : ((kk7 : Int) != 7) = false := by rw [h7]; rfl
                    have HK7 := Lib.hid (show kindE s3.1 = 7 by rw [← HQ7.out]; exact h7)
                    clear h7
                    obtain ⟨e3, c53, he31, he32⟩ := HE5.out.env.st.err
                    have de3 : ((e3 : Int) == 0) = true := by rw [he31 s3 rfl]; rfl
                    clear he31 he32
                    obtain ⟨k5, s5c, s5f, hk57, hst5⟩ := HE5.out.env.st.step
                    obtain ⟨hn51, hn52⟩ := hst5 s3 rfl (kindE_ne HK7.out (by omega))
                    have HE6 := Lib.hid (HE5.out.go hn51 hn52 hag hrg)
                    clear hst5 hn51 hn52 HE5
                    repeat (first | go_skip | go_guarded | go_step)
                    generalize X5.setCell ⟨g, 1, none⟩ (.int .i64 ((k5 : Int) + 1)) = X9 at HE6 ⊢
                    go_roundw
                    case rel => exact ⟨.ok (nextE s3), A3, n1 + 1, c3, _, (M ++ [(false, sd2, tm2, (p2, l2))]), HE6.out, by simp [HML.out], by omega, Or.inr ⟨nextE s3, rfl, by omega, by rw [← HN2.out, HST2.out, HTE.out, bindE_of rfl, if_pos HK7.out, show 9 - (n1 + 1) = 8 - n1 by omega]⟩⟩
                    case measure =>
                      rw [HE6.out.env.a.cell 5, HE.out.env.a.cell 5]
                      show 10 - (n1 + 1) < 10 - n1
                      omega
                  · have d7 : ((kk7 : Int) != 7) = true := by rw [bne_iff_ne]; omega
                    have HK7 := Lib.hid (show ¬ kindE s3.1 = 7 by rw [← HQ7.out]; exact h7)
                    clear h7
                    have HFIN := Lib.hid (show runE x (ruleE sz) = bindE (runE (.ok s3) (wordE sz 8)) fun _ s3 => .ok (((sd, tm, (p, l)), (M ++ [(false, sd2, tm2, (p2, l2))])), s3) by
                      rw [HRUN2.out, ← HN2.out, HST2.out, HTE.out, bindE_of rfl, if_neg HK7.out]
                      rfl)
                    repeat (first | go_skip | go_guarded | go_step)
                    refine (pWordS 8 (by omega) HE5.out.env.st).mono ?_
                    rintro e V9 ⟨T9, rfl, hp9, hk9⟩
                    have HE9 := Lib.hid (HE5.out.go hp9 hk9 hag hrg)
                    clear hp9 hk9
                    dsimp only
                    have a0 : V9.cell? ⟨ab, 0, none⟩ = some (.bool sd) := HE9.out.env.a.cell 0
                    have a1 : V9.cell? ⟨ab, 1, none⟩ = some (.bool tm.1) := HE9.out.env.a.cell 1
                    have a2 : V9.cell? ⟨ab, 2, none⟩ = some (nv tm.2) := HE9.out.env.a.cell 2
                    have a3 : V9.cell? ⟨ab, 3, none⟩ = some (nv p) := HE9.out.env.a.cell 3
                    have a4 : V9.cell? ⟨ab, 4, none⟩ = some (.slice A n c) := HE9.out.env.a.cell 4
                    have a5 : V9.cell? ⟨ab, 5, none⟩ = some (.slice A3 (n1 + 1) c3) := HE9.out.env.a.cell 5
                    have r0 : V9.cell? ⟨rr, 0, none⟩ = some (.bool false) := HE9.out.env.r.cell 0
                    have rf0 : V9.frozen? ⟨rr, 0, none⟩ = false := HE9.out.env.r.frozen 0
                    have r1 : V9.cell? ⟨rr, 1, none⟩ = some (.bool false) := HE9.out.env.r.cell 1
                    have rf1 : V9.frozen? ⟨rr, 1, none⟩ = false := HE9.out.env.r.frozen 1
                    have r2 : V9.cell? ⟨rr, 2, none⟩ = some (.int .u32 0) := HE9.out.env.r.cell 2
                    have rf2 : V9.frozen? ⟨rr, 2, none⟩ = false := HE9.out.env.r.frozen 2
                    have r3 : V9.cell? ⟨rr, 3, none⟩ = some (.int .u32 0) := HE9.out.env.r.cell 3
                    have rf3 : V9.frozen? ⟨rr, 3, none⟩ = false := HE9.out.env.r.frozen 3
                    have r4 : V9.cell? ⟨rr, 4, none⟩ = some (.slice none 0 0) := HE9.out.env.r.cell 4
                    have rf4 : V9.frozen? ⟨rr, 4, none⟩ = false := HE9.out.env.r.frozen 4
                    have r5 : V9.cell? ⟨rr, 5, none⟩ = some (.slice none 0 0) := HE9.out.env.r.cell 5
                    have rf5 : V9.frozen? ⟨rr, 5, none⟩ = false := HE9.out.env.r.frozen 5
                    repeat (first | go_skip | go_guarded | go_step)
                    (try simp only [Exit.inBlock, Exit.then])
                    refine bodyPost_ret (results_cell_row rfl _ _ rr _ _ _ _ rfl (rule_end HE9.out.env.r _ _ _ _ _ _) Tryz.underlying54 rfl (by kernel_rfl)) rfl ?_
                    exact ⟨sd, tm, p, A, n, c, l, A3, (n1 + 1), c3, _, (M ++ [(false, sd2, tm2, (p2, l2))]), rfl, own_only HE9.out.args HE9.out.env.r (by decide) (only_set6 _ _ _ _ _ _), hn7, HE9.out.body.only HE9.out.env.r (by decide) (by decide) (only_set6 _ _ _ _ _ _), by omega, PSt.far (by rw [HFIN.out, bindE_skip, st_ret]; exact HE9.out.env.st) HE9.out.env.r (by decide) (by decide) (by decide) (only_set6 _ _ _ _ _ _), (by rw [HFIN.out, bindE_skip]; exact says_ret _ _), HE9.out.env.kp.fresh (only_set6 _ _ _ _ _ _) hrw hrb HE9.out.env.r.lt⟩
    · have d9 : ((kk : Int) == 9) = false := by rw [beq_eq_false_iff_ne]; omega
      have HK9 := Lib.hid (show ¬ kindE s1.1 = 9 by rw [← HQ.out]; exact h9)
      have HFIN := Lib.hid (show runE x (ruleE sz) = bindE (runE (.ok s1) (wordE sz 8)) fun _ s3 => .ok (((sd, tm, (p, l)), ([] : List Co)), s3) by
        rw [HRUN.out]
        unfold runE
        dsimp only
        rw [show bodyE sz s1 = .ok ([], s1) by unfold bodyE; rw [if_neg HK9.out]]
        rfl)
      clear h9 HQ HRUN
      repeat (first | go_skip | go_guarded | go_step)
      refine (pWordS 8 (by omega) HE3.out.env.st).mono ?_
      rintro e V9 ⟨T9, rfl, hp9, hk9⟩
      have HE9 := Lib.hid (HE3.out.go hp9 hk9 hag hrg)
      clear hp9 hk9
      dsimp only
      have a0 : V9.cell? ⟨ab, 0, none⟩ = some (.bool sd) := HE9.out.env.a.cell 0
      have a1 : V9.cell? ⟨ab, 1, none⟩ = some (.bool tm.1) := HE9.out.env.a.cell 1
      have a2 : V9.cell? ⟨ab, 2, none⟩ = some (nv tm.2) := HE9.out.env.a.cell 2
      have a3 : V9.cell? ⟨ab, 3, none⟩ = some (nv p) := HE9.out.env.a.cell 3
      have a4 : V9.cell? ⟨ab, 4, none⟩ = some (.slice A n c) := HE9.out.env.a.cell 4
      have a5 : V9.cell? ⟨ab, 5, none⟩ = some (.slice none 0 0) := HE9.out.env.a.cell 5
      have r0 : V9.cell? ⟨rr, 0, none⟩ = some (.bool false) := HE9.out.env.r.cell 0
      have rf0 : V9.frozen? ⟨rr, 0, none⟩ = false := HE9.out.env.r.frozen 0
      have r1 : V9.cell? ⟨rr, 1, none⟩ = some (.bool false) := HE9.out.env.r.cell 1
      have rf1 : V9.frozen? ⟨rr, 1, none⟩ = false := HE9.out.env.r.frozen 1
      have r2 : V9.cell? ⟨rr, 2, none⟩ = some (.int .u32 0) := HE9.out.env.r.cell 2
      have rf2 : V9.frozen? ⟨rr, 2, none⟩ = false := HE9.out.env.r.frozen 2
      have r3 : V9.cell? ⟨rr, 3, none⟩ = some (.int .u32 0) := HE9.out.env.r.cell 3
      have rf3 : V9.frozen? ⟨rr, 3, none⟩ = false := HE9.out.env.r.frozen 3
      have r4 : V9.cell? ⟨rr, 4, none⟩ = some (.slice none 0 0) := HE9.out.env.r.cell 4
      have rf4 : V9.frozen? ⟨rr, 4, none⟩ = false := HE9.out.env.r.frozen 4
      have r5 : V9.cell? ⟨rr, 5, none⟩ = some (.slice none 0 0) := HE9.out.env.r.cell 5
      have rf5 : V9.frozen? ⟨rr, 5, none⟩ = false := HE9.out.env.r.frozen 5
      repeat (first | go_skip | go_guarded | go_step)
      (try simp only [Exit.inBlock, Exit.then])
      refine bodyPost_ret (results_cell_row rfl _ _ rr _ _ _ _ rfl (rule_end HE9.out.env.r _ _ _ _ _ _) Tryz.underlying54 rfl (by kernel_rfl)) rfl ?_
      exact ⟨sd, tm, p, A, n, c, l, none, 0, 0, _, [], rfl, own_only HE9.out.args HE9.out.env.r (by decide) (only_set6 _ _ _ _ _ _), hn7, HE9.out.body.only HE9.out.env.r (by decide) (by decide) (only_set6 _ _ _ _ _ _), by omega, PSt.far (by rw [HFIN.out, bindE_skip, st_ret]; exact HE9.out.env.st) HE9.out.env.r (by decide) (by decide) (by decide) (only_set6 _ _ _ _ _ _), (by rw [HFIN.out, bindE_skip]; exact says_ret _ _), HE9.out.env.kp.fresh (only_set6 _ _ _ _ _ _) hrw hrb HE9.out.env.r.lt⟩
end Go.Proofs.YtoigpbajefkpoaaGreatDoor

