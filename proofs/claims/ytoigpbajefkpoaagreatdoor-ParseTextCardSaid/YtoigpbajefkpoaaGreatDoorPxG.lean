/- Texts, packed: PaT -/
import Derived.Test.YtoigpbajefkpoaaGreatDoorPxF
import Derived.Deep.Cut
set_option linter.unusedVariables false
set_option linter.unusedSimpArgs false
namespace Go.Proofs.YtoigpbajefkpoaaGreatDoor
open Go Go.RowKit

theorem Kp.bk {base g b : Nat} {w w' : World} {T : TypeId} {cs : List Value} (h : Kp base g w w') (hb : Bk w b T cs) (hT : T ≠ 9) (hg : b ≠ g) : Bk w' b T cs :=
 h.kept _ _ hb (fun e => hg (by simpa using e)) (fun c fz e => by simp only [Obj.cells.injEq] at e; exact hT e.2.1)
/-- A block that was made since then may turn. -/
theorem Kp.fresh {base g r : Nat} {w V W : World} (h : Kp base g w V) (ht : Only r V W) (h1 : w.heap.size ≤ r) (h2 : base ≤ r) (h3 : r < V.heap.size) : Kp base g w W :=
 ⟨h.below.trans (only_below ht h2 h3), fun k o hk hb ho => by
  have hl : k < w.heap.size := (Array.getElem?_eq_some_iff.1 hk).1
  have h4 := h.kept k o hk hb ho
  exact (ht.block k (Array.getElem?_eq_some_iff.1 h4).1 (by omega)).trans h4⟩
theorem PSt.far {base g r sz : Nat} {ws : List Wd} {w w' : World} {x : Except PE PS} {T : TypeId} {cs : List Value} (h : PSt w base g ws sz x) (hb : Bk w r T cs) (h1 : T ≠ PT) (h2 : T ≠ 9) (h3 : T ≠ 127) (ht : Only r w w') : PSt w' base g ws sz x := by
 obtain ⟨AW, nW, cW, k, AN, nN, cN, AV, nV, cV, e0, a0, names, vars, hg, hbg, hw, hn, hv, hne, rest⟩ := h
 have hgr : g ≠ r := by
  rintro rfl
  unfold Bk at hb hbg
  rw [hbg] at hb
  simp only [Option.some.injEq, Obj.cells.injEq] at hb
  exact h1 hb.2.1.symm
 exact ⟨AW, nW, cW, k, AN, nN, cN, AV, nV, cV, e0, a0, names, vars, hg, ht.bk hbg hgr, own_only hw hb h3 ht, own_only hn hb h2 ht, own_only hv hb h2 ht, hne, rest⟩
theorem PSt.later {base g sz : Nat} {ws : List Wd} {w w' : World} {x : Except PE PS} (h : PSt w base g ws sz x) (hb : Below w.heap.size w w') : PSt w' base g ws sz x := by
 obtain ⟨AW, nW, cW, k, AN, nN, cN, AV, nV, cV, e0, a0, names, vars, hg, hbg, hw, hn, hv, hne, rest⟩ := h
 exact ⟨AW, nW, cW, k, AN, nN, cN, AV, nV, cV, e0, a0, names, vars, hg, hbg.later hb, ownBelow hw hb (Nat.le_refl _), ownBelow hn hb (Nat.le_refl _), ownBelow hv hb (Nat.le_refl _), hne, rest⟩
/-- Behind a store of two cells into a block of one's own. -/
theorem only_set2 {w : World} {r : Nat} (u v : Value) : Only r w ((w.setCell ⟨r, 0, none⟩ u).setCell ⟨r, 1, none⟩ v) :=
 Turn.setCell (G := fun j => j = r) (Turn.setCell (G := fun j => j = r) (Turn.refl _ w) (fun _ => rfl) u) (fun _ => rfl) v
theorem term_end {w : World} {r : Nat} {x0 x1 : Value} (h : Bk w r 46 [x0, x1]) (u v : Value) : Bk ((w.setCell ⟨r, 0, none⟩ u).setCell ⟨r, 1, none⟩ v) r 46 [u, v] := (h.set_ 0 u).set_ 1 v
theorem goE_err {α : Type} (z : PE) (f : PS → Except PE (α × PS)) : goE (.error z) f = .error z := rfl
theorem goE_ok {α : Type} {s : PS} {f : PS → Except PE (α × PS)} {v : α} {s' : PS} (h : f s = .ok (v, s')) : goE (.ok s) f = .ok s' := by unfold goE; dsimp only; rw [h]
theorem goE_no {α : Type} {s : PS} {f : PS → Except PE (α × PS)} {z : PE} (h : f s = .error z) : goE (.ok s) f = .error z := by unfold goE; dsimp only; rw [h]
theorem ans_err {α : Type} {z : PE} {f : PS → Except PE (α × PS)} {v : α} : ansE (.error z) f v := fun s u s2 h => by cases h
theorem ans_ok {α : Type} {s : PS} {f : PS → Except PE (α × PS)} {v : α} {s' : PS} (h : f s = .ok (v, s')) : ansE (.ok s) f v := fun s1 u s2 h1 h2 => by cases h1; rw [h] at h2; cases h2; rfl
theorem ans_no {α : Type} {s : PS} {f : PS → Except PE (α × PS)} {v : α} {z : PE} (h : f s = .error z) : ansE (.ok s) f v := fun s1 u s2 h1 h2 => by cases h1; rw [h] at h2; cases h2
theorem nvOf {n : Nat} (h : n < 4294967296) : nv (UInt32.ofNat n) = .int .u32 (n : Int) := by
 unfold nv
 rw [UInt32.toNat_ofNat_of_lt' (by simpa [UInt32.size] using h)]

set_option maxRecDepth 100000 in
set_option maxHeartbeats 8000000 in
theorem pTerm_any (base g : Nat) (ws : List Wd) (sz : Nat) (x : Except PE PS) (w : World) (h : PSt w base g ws sz x) :
  Calls Tryz.prog 84 #[.pointer (some ⟨g, 0, none⟩)] w fun e w' => ∃ tm : Tm, e = .returned (.agg #[.bool tm.1, nv tm.2]) ∧ PSt w' base g ws sz (goE x (termE sz)) ∧ ansE x (termE sz) tm ∧ Kp base g w w' := by
 have hgl := h.at_.2
 have hgb := h.at_.1
 obtain ⟨U, hU, hH, hbU⟩ : ∃ U, U = w.alloc (.cells #[.bool false, .int .u32 0] 46) ∧ Bk U w.heap.size 46 [.bool false, .int .u32 0] ∧ Below w.heap.size w U := ⟨_, rfl, Bk.new w _ _, (Below.refl _ _).alloc (Nat.le_refl _) _⟩
 have hk0 : Kp base g w U := by rw [hU]; exact (Kp.refl base g w).alloc (by omega) _
 have HU := Lib.hid hU
 have HR := Lib.hid hH
 have HK := Lib.hid hk0
 have HP := Lib.hid (h.later hbU)
 obtain ⟨rr, hrr⟩ : ∃ rr, rr = w.heap.size := ⟨_, rfl⟩
 have hrg : rr ≠ g := by omega
 have hrw : w.heap.size ≤ rr := by omega
 have hrb : base ≤ rr := by omega
 rw [← hrr] at HR
 obtain ⟨AW, nW, cW, k, AN, nN, cN, AV, nV, cV, e0, a0, names, vars, hg, hb, hw, hn, hv, hne, hk, hW, hN, hV, hst⟩ := HP.out
 have c0 : U.cell? ⟨g, 0, none⟩ = some (.slice AW nW cW) := hb.cell 0
 have c1 : U.cell? ⟨g, 1, none⟩ = some (.int .i64 (k : Int)) := hb.cell 1
 have c4 : U.cell? ⟨g, 4, none⟩ = some (.slice AV nV cV) := hb.cell 4
 have c5 : U.cell? ⟨g, 5, none⟩ = some (.int .i64 (e0 : Int)) := hb.cell 5
 have hrw' := OwV.rd hw
 have hrv : Rd U U.heap.size 1 AV nV (vars.map sv) := Rd.ofOwn hv
 have hvl : vars.length = nV := by simpa using hrv.len1
 have HKD := Lib.hid (by have h := pKind_any 0 ws U hb hrw' hk (by omega) (by omega); simp only [Nat.add_zero] at h; exact h)
 obtain ⟨kk, hkk⟩ : ∃ kk, kk = kindE (ws.drop k) := ⟨_, rfl⟩
 rw [← hkk] at HKD
 have HKK := Lib.hid hkk
 have HB := Lib.hid hb
 have HW := Lib.hid hw
 have HN := Lib.hid hn
 have HV := Lib.hid hv
 have HNE := Lib.hid hne
 have HST := Lib.hid hst
 have HRV := Lib.hid hrv
 have HVL := Lib.hid hvl
 have HRR := Lib.hid hrr
 clear hkk hb hw hn hv hne hrw' hrv hvl hst hU hH hk0 h hbU hrr
 go_enter Tryz.func84, Tryz.ntmps84
 go_upto_region 1 with (fail)
 rw [← HU.out, ← HRR.out]
 clear HU
 repeat (first | go_skip | go_guarded | go_step)
 refine HKD.out.mono ?_
 rintro e V0 ⟨rfl, q, rfl⟩
 have HB' := Lib.hid (show Bk (U.drewN q) g PT (pzC AW nW cW k sz AN nN cN AV nV cV e0 a0) from HB.out)
 have HW' := Lib.hid (show OwV 127 (U.drewN q) base AW cW nW ws from HW.out)
 have HN' := Lib.hid (show OwS (U.drewN q) base AN cN nN names from HN.out)
 have HV' := Lib.hid (show OwS (U.drewN q) base AV cV nV vars from HV.out)
 have HK' := Lib.hid (HK.out.drews q)
 have HR' := Lib.hid (show Bk (U.drewN q) rr 46 [.bool false, .int .u32 0] from HR.out)
 have HP' := Lib.hid (HP.out.drews q)
 have HRV' := Lib.hid (show Rd (U.drewN q) (U.drewN q).heap.size 1 AV nV (vars.map sv) from HRV.out)
 clear HKD c0 c1 c4 c5 HB HW HN HV HK HR HP HRV
 generalize U.drewN q = U2 at HB' HW' HN' HV' HK' HR' HP' HRV' ⊢
 clear U
 have HB := HB'
 have HW := HW'
 have HN := HN'
 have HV := HV'
 have HK := HK'
 have HR := HR'
 have HP := HP'
 have HRV := HRV'
 clear HB' HW' HN' HV' HK' HR' HP' HRV'
 have c0 : U2.cell? ⟨g, 0, none⟩ = some (.slice AW nW cW) := HB.out.cell 0
 have c1 : U2.cell? ⟨g, 1, none⟩ = some (.int .i64 (k : Int)) := HB.out.cell 1
 have c4 : U2.cell? ⟨g, 4, none⟩ = some (.slice AV nV cV) := HB.out.cell 4
 have c5 : U2.cell? ⟨g, 5, none⟩ = some (.int .i64 (e0 : Int)) := HB.out.cell 5
 dsimp only
 by_cases h2 : kk = 2
 ·
  have dk : ((kk : Int) != 2) = false := by rw [h2]; rfl
  have HKN := Lib.hid (show kindE (ws.drop k) = 2 by rw [← HKK.out]; exact h2)
  clear h2
  repeat (first | go_skip | go_guarded | go_step)
  cases x with
  | error z =>
   have HE := Lib.hid (show e0 ≠ 0 from HST.out.2.2)
   have de : ((e0 : Int) == 0) = false := by rw [beq_eq_false_iff_ne]; have := HE.out; omega
   refine wp_region_held_drew (S := fun V => ∃ q, V = U2.drewN q) (by kernel_rfl) ?_ (fun hHeld => ?_)
   ·
    exact ⟨1, rfl⟩
   refine wpAnyH_take (i := 0) (oi := ?p1) (v := ?v1) ?a1 (by kernel_rfl) ?b1 ?c1 ?q1 ?y1 hHeld ?z1
   case a1 => (simp only [List.getElem?_toArray, List.getElem?_cons_succ, List.getElem?_cons_zero]; exact rfl)
   case b1 => kernel_rfl
   case c1 => kernel_rfl
   case q1 => exact fun _ _ _ h => h
   case y1 =>
    refine Or.inl ⟨by rfl, ?_⟩
    intro V hSV
    go_simp
    (try with_reducible rfl)
   try simp only [Act.put, List.setIfInBounds_toArray, List.set_cons_zero, List.set_cons_succ]
   refine wpAnyH_take (i := 1) (oi := ?p2) (v := ?v2) ?a2 (by kernel_rfl) ?b2 ?c2 ?q2 ?y2 hHeld ?z2
   case a2 => (simp only [List.getElem?_toArray, List.getElem?_cons_succ, List.getElem?_cons_zero]; exact rfl)
   case b2 => kernel_rfl
   case c2 => kernel_rfl
   case q2 => exact fun _ _ _ h => h
   case y2 =>
    refine Or.inl ⟨by rfl, ?_⟩
    intro V hSV
    go_simp
    (try with_reducible rfl)
   try simp only [Act.put, List.setIfInBounds_toArray, List.set_cons_zero, List.set_cons_succ]
   refine wpAnyH_take (i := 2) (oi := ?p3) (v := ?v3) ?a3 (by kernel_rfl) ?b3 ?c3 ?q3 ?y3 hHeld ?z3
   case a3 => (simp only [List.getElem?_toArray, List.getElem?_cons_succ, List.getElem?_cons_zero]; exact rfl)
   case b3 => kernel_rfl
   case c3 => kernel_rfl
   case q3 => exact fun _ _ _ h => h
   case y3 =>
    refine Or.inl ⟨by rfl, ?_⟩
    intro V hSV
    go_simp
    (try with_reducible rfl)
   try simp only [Act.put, List.setIfInBounds_toArray, List.set_cons_zero, List.set_cons_succ]
   refine wpAnyH_take (i := 3) (oi := ?p4) (v := ?v4) ?a4 (by kernel_rfl) ?b4 ?c4 ?q4 ?y4 hHeld ?z4
   case a4 => (simp only [List.getElem?_toArray, List.getElem?_cons_succ, List.getElem?_cons_zero]; exact rfl)
   case b4 => kernel_rfl
   case c4 => kernel_rfl
   case q4 => exact fun _ _ _ h => h
   case y4 =>
    refine Or.inl ⟨by rfl, ?_⟩
    intro V hSV
    obtain ⟨q, rfl⟩ := hSV
    go_simp
    (try with_reducible rfl)
   try simp only [Act.put, List.setIfInBounds_toArray, List.set_cons_zero, List.set_cons_succ]
   refine wpAnyH_take (i := 4) (oi := ?oid5) (v := .bool false) ?hod5 (by kernel_rfl) ?hfd5 ?hrd5 ?hQd5 ?hyd5 hHeld ?restd5
   case hod5 => (simp only [List.getElem?_toArray, List.getElem?_cons_succ, List.getElem?_cons_zero]; exact rfl)
   case hfd5 => kernel_rfl
   case hrd5 => kernel_rfl
   case hQd5 => exact fun _ _ _ h => h
   case hyd5 =>
    refine Or.inl ⟨by rfl, ?_⟩
    intro V hSV
    go_simp
    (try with_reducible rfl)
   try simp only [Act.put, List.setIfInBounds_toArray, List.set_cons_zero, List.set_cons_succ]
   refine wpAnyH_take (i := 5) (oi := ?oid6) (v := .bool false) ?hod6 (by kernel_rfl) ?hfd6 ?hrd6 ?hQd6 ?hyd6 hHeld ?restd6
   case hod6 => (simp only [List.getElem?_toArray, List.getElem?_cons_succ, List.getElem?_cons_zero]; exact rfl)
   case hfd6 => kernel_rfl
   case hrd6 => kernel_rfl
   case hQd6 => exact fun _ _ _ h => h
   case hyd6 =>
    refine Or.inl ⟨by rfl, ?_⟩
    intro V hSV
    go_simp
    (try with_reducible rfl)
   try simp only [Act.put, List.setIfInBounds_toArray, List.set_cons_zero, List.set_cons_succ]
   refine wpAnyH_take (i := 6) (oi := ?p7) (v := undef) ?a7 (by kernel_rfl) ?b7 ?c7 ?q7 ?y7 hHeld ?z7
   case a7 => (simp only [List.getElem?_toArray, List.getElem?_cons_succ, List.getElem?_cons_zero]; exact rfl)
   case b7 => kernel_rfl
   case c7 => kernel_rfl
   case q7 => exact fun _ _ _ h => h
   case y7 =>
    exact Or.inr ⟨by rfl, rfl⟩
   try simp only [Act.put, List.setIfInBounds_toArray, List.set_cons_zero, List.set_cons_succ]
   refine wpAnyH_take (i := 7) (oi := ?p8) (v := undef) ?a8 (by kernel_rfl) ?b8 ?c8 ?q8 ?y8 hHeld ?z8
   case a8 => (simp only [List.getElem?_toArray, List.getElem?_cons_succ, List.getElem?_cons_zero]; exact rfl)
   case b8 => kernel_rfl
   case c8 => kernel_rfl
   case q8 => exact fun _ _ _ h => h
   case y8 =>
    exact Or.inr ⟨by rfl, rfl⟩
   try simp only [Act.put, List.setIfInBounds_toArray, List.set_cons_zero, List.set_cons_succ]
   refine wpAnyH_take (i := 8) (oi := ?p9) (v := undef) ?a9 (by kernel_rfl) ?b9 ?c9 ?q9 ?y9 hHeld ?z9
   case a9 => (simp only [List.getElem?_toArray, List.getElem?_cons_succ, List.getElem?_cons_zero]; exact rfl)
   case b9 => kernel_rfl
   case c9 => kernel_rfl
   case q9 => exact fun _ _ _ h => h
   case y9 =>
    exact Or.inr ⟨by rfl, rfl⟩
   try simp only [Act.put, List.setIfInBounds_toArray, List.set_cons_zero, List.set_cons_succ]
   refine wpAnyH_take (i := 9) (oi := ?p10) (v := undef) ?a10 (by kernel_rfl) ?b10 ?c10 ?q10 ?y10 hHeld ?z10
   case a10 => (simp only [List.getElem?_toArray, List.getElem?_cons_succ, List.getElem?_cons_zero]; exact rfl)
   case b10 => kernel_rfl
   case c10 => kernel_rfl
   case q10 => exact fun _ _ _ h => h
   case y10 =>
    exact Or.inr ⟨by rfl, rfl⟩
   try simp only [Act.put, List.setIfInBounds_toArray, List.set_cons_zero, List.set_cons_succ]
   refine wpAnyH_take (i := 10) (oi := ?p11) (v := undef) ?a11 (by kernel_rfl) ?b11 ?c11 ?q11 ?y11 hHeld ?z11
   case a11 => (simp only [List.getElem?_toArray, List.getElem?_cons_succ, List.getElem?_cons_zero]; exact rfl)
   case b11 => kernel_rfl
   case c11 => kernel_rfl
   case q11 => exact fun _ _ _ h => h
   case y11 =>
    exact Or.inr ⟨by rfl, rfl⟩
   try simp only [Act.put, List.setIfInBounds_toArray, List.set_cons_zero, List.set_cons_succ]
   refine wpAnyH_take (i := 11) (oi := ?p12) (v := undef) ?a12 (by kernel_rfl) ?b12 ?c12 ?q12 ?y12 hHeld ?z12
   case a12 => (simp only [List.getElem?_toArray, List.getElem?_cons_succ, List.getElem?_cons_zero]; exact rfl)
   case b12 => kernel_rfl
   case c12 => kernel_rfl
   case q12 => exact fun _ _ _ h => h
   case y12 =>
    exact Or.inr ⟨by rfl, rfl⟩
   try simp only [Act.put, List.setIfInBounds_toArray, List.set_cons_zero, List.set_cons_succ]
   refine wpAnyH_take (i := 12) (oi := ?p13) (v := undef) ?a13 (by kernel_rfl) ?b13 ?c13 ?q13 ?y13 hHeld ?z13
   case a13 => (simp only [List.getElem?_toArray, List.getElem?_cons_succ, List.getElem?_cons_zero]; exact rfl)
   case b13 => kernel_rfl
   case c13 => kernel_rfl
   case q13 => exact fun _ _ _ h => h
   case y13 =>
    exact Or.inr ⟨by rfl, rfl⟩
   try simp only [Act.put, List.setIfInBounds_toArray, List.set_cons_zero, List.set_cons_succ]
   refine wpAnyH_take (i := 13) (oi := ?p14) (v := undef) ?a14 (by kernel_rfl) ?b14 ?c14 ?q14 ?y14 hHeld ?z14
   case a14 => (simp only [List.getElem?_toArray, List.getElem?_cons_succ, List.getElem?_cons_zero]; exact rfl)
   case b14 => kernel_rfl
   case c14 => kernel_rfl
   case q14 => exact fun _ _ _ h => h
   case y14 =>
    exact Or.inr ⟨by rfl, rfl⟩
   try simp only [Act.put, List.setIfInBounds_toArray, List.set_cons_zero, List.set_cons_succ]
   refine wpAnyH_take (i := 14) (oi := ?p15) (v := undef) ?a15 (by kernel_rfl) ?b15 ?c15 ?q15 ?y15 hHeld ?z15
   case a15 => (simp only [List.getElem?_toArray, List.getElem?_cons_succ, List.getElem?_cons_zero]; exact rfl)
   case b15 => kernel_rfl
   case c15 => kernel_rfl
   case q15 => exact fun _ _ _ h => h
   case y15 =>
    exact Or.inr ⟨by rfl, rfl⟩
   try simp only [Act.put, List.setIfInBounds_toArray, List.set_cons_zero, List.set_cons_succ]
   refine wpAnyH_take (i := 15) (oi := ?p16) (v := undef) ?a16 (by kernel_rfl) ?b16 ?c16 ?q16 ?y16 hHeld ?z16
   case a16 => (simp only [List.getElem?_toArray, List.getElem?_cons_succ, List.getElem?_cons_zero]; exact rfl)
   case b16 => kernel_rfl
   case c16 => kernel_rfl
   case q16 => exact fun _ _ _ h => h
   case y16 =>
    exact Or.inr ⟨by rfl, rfl⟩
   try simp only [Act.put, List.setIfInBounds_toArray, List.set_cons_zero, List.set_cons_succ]
   refine wpAnyH_take (i := 16) (oi := ?p17) (v := undef) ?a17 (by kernel_rfl) ?b17 ?c17 ?q17 ?y17 hHeld ?z17
   case a17 => (simp only [List.getElem?_toArray, List.getElem?_cons_succ, List.getElem?_cons_zero]; exact rfl)
   case b17 => kernel_rfl
   case c17 => kernel_rfl
   case q17 => exact fun _ _ _ h => h
   case y17 =>
    exact Or.inr ⟨by rfl, rfl⟩
   try simp only [Act.put, List.setIfInBounds_toArray, List.set_cons_zero, List.set_cons_succ]
   refine wpAnyH_take (i := 17) (oi := ?p18) (v := undef) ?a18 (by kernel_rfl) ?b18 ?c18 ?q18 ?y18 hHeld ?z18
   case a18 => (simp only [List.getElem?_toArray, List.getElem?_cons_succ, List.getElem?_cons_zero]; exact rfl)
   case b18 => kernel_rfl
   case c18 => kernel_rfl
   case q18 => exact fun _ _ _ h => h
   case y18 =>
    exact Or.inr ⟨by rfl, rfl⟩
   try simp only [Act.put, List.setIfInBounds_toArray, List.set_cons_zero, List.set_cons_succ]
   refine wpAnyH_take (i := 18) (oi := ?p19) (v := undef) ?a19 (by kernel_rfl) ?b19 ?c19 ?q19 ?y19 hHeld ?z19
   case a19 => (simp only [List.getElem?_toArray, List.getElem?_cons_succ, List.getElem?_cons_zero]; exact rfl)
   case b19 => kernel_rfl
   case c19 => kernel_rfl
   case q19 => exact fun _ _ _ h => h
   case y19 =>
    exact Or.inr ⟨by rfl, rfl⟩
   try simp only [Act.put, List.setIfInBounds_toArray, List.set_cons_zero, List.set_cons_succ]
   refine wpAnyH_take (i := 19) (oi := ?p20) (v := undef) ?a20 (by kernel_rfl) ?b20 ?c20 ?q20 ?y20 hHeld ?z20
   case a20 => (simp only [List.getElem?_toArray, List.getElem?_cons_succ, List.getElem?_cons_zero]; exact rfl)
   case b20 => kernel_rfl
   case c20 => kernel_rfl
   case q20 => exact fun _ _ _ h => h
   case y20 =>
    exact Or.inr ⟨by rfl, rfl⟩
   try simp only [Act.put, List.setIfInBounds_toArray, List.set_cons_zero, List.set_cons_succ]
   refine wpAnyH_take (i := 20) (oi := ?p21) (v := undef) ?a21 (by kernel_rfl) ?b21 ?c21 ?q21 ?y21 hHeld ?z21
   case a21 => (simp only [List.getElem?_toArray, List.getElem?_cons_succ, List.getElem?_cons_zero]; exact rfl)
   case b21 => kernel_rfl
   case c21 => kernel_rfl
   case q21 => exact fun _ _ _ h => h
   case y21 =>
    exact Or.inr ⟨by rfl, rfl⟩
   try simp only [Act.put, List.setIfInBounds_toArray, List.set_cons_zero, List.set_cons_succ]
   refine wpAnyH_take (i := 21) (oi := ?p22) (v := undef) ?a22 (by kernel_rfl) ?b22 ?c22 ?q22 ?y22 hHeld ?z22
   case a22 => (simp only [List.getElem?_toArray, List.getElem?_cons_succ, List.getElem?_cons_zero]; exact rfl)
   case b22 => kernel_rfl
   case c22 => kernel_rfl
   case q22 => exact fun _ _ _ h => h
   case y22 =>
    exact Or.inr ⟨by rfl, rfl⟩
   try simp only [Act.put, List.setIfInBounds_toArray, List.set_cons_zero, List.set_cons_succ]
   refine wpAnyH_take (i := 22) (oi := ?p23) (v := undef) ?a23 (by kernel_rfl) ?b23 ?c23 ?q23 ?y23 hHeld ?z23
   case a23 => (simp only [List.getElem?_toArray, List.getElem?_cons_succ, List.getElem?_cons_zero]; exact rfl)
   case b23 => kernel_rfl
   case c23 => kernel_rfl
   case q23 => exact fun _ _ _ h => h
   case y23 =>
    exact Or.inr ⟨by rfl, rfl⟩
   try simp only [Act.put, List.setIfInBounds_toArray, List.set_cons_zero, List.set_cons_succ]
   refine wpAnyH_take (i := 23) (oi := ?oid24) (v := .bool false) ?hod24 (by kernel_rfl) ?hfd24 ?hrd24 ?hQd24 ?hyd24 hHeld ?restd24
   case hod24 => (simp only [List.getElem?_toArray, List.getElem?_cons_succ, List.getElem?_cons_zero]; exact rfl)
   case hfd24 => kernel_rfl
   case hrd24 => kernel_rfl
   case hQd24 => exact fun _ _ _ h => h
   case hyd24 =>
    refine Or.inl ⟨by rfl, ?_⟩
    intro V hSV
    go_simp
    (try with_reducible rfl)
   try simp only [Act.put, List.setIfInBounds_toArray, List.set_cons_zero, List.set_cons_succ]
   refine wpAnyH_done (by kernel_rfl) ?_ _
   clear hHeld
   try rw [World.drewN_zero]
   try change Exit.then _ _ _ _ U2.drew
   have HBU := Lib.hid (show Bk (U2.drew) g PT (pzC AW nW cW k sz AN nN cN AV nV cV e0 a0) from HB.out)
   have HWU := Lib.hid (show OwV 127 (U2.drew) base AW cW nW ws from HW.out)
   have HNU := Lib.hid (show OwS (U2.drew) base AN cN nN names from HN.out)
   have HVU := Lib.hid (show OwS (U2.drew) base AV cV nV vars from HV.out)
   have HKU := Lib.hid (show Kp base g w U2.drew from HK.out.drews 1)
   have HRU := Lib.hid (show Bk U2.drew rr 46 [.bool false, .int .u32 0] from HR.out)
   clear HB HW HN HV HK HR HRV c0 c1 c4 c5
   try clear HIX
   try clear r1
   generalize U2.drew = X at HBU HWU HNU HVU HKU HRU ⊢
   have c4 : X.cell? ⟨g, 4, none⟩ = some (.slice AV nV cV) := HBU.out.cell 4
   repeat (first | go_skip | go_guarded | go_step)
   have HWD := Lib.hid (show ∀ q, Calls Tryz.prog 61 #[.pointer (some ⟨g, 0, none⟩), .int .u8 2] (X.drewN q) fun e w' => e = .returned (sv ⟨#[]⟩) ∧ Only g X w' ∧ k ≤ nW ∧ Bk w' g PT (pzC AW nW cW k sz AN nN cN AV nV cV e0 a0) ∧ k ≤ nW from fun q => by
    refine (pWord_any 2 base ws (X.drewN q) HBU.out HWU.out hk (by omega) (by omega)).mono ?_
    rintro e w' ⟨ht, hd⟩
    have ht' : Only g X w' := Turn.trans (Turn.ofBelow (G := fun j => j = g) (belowDrews (Below.refl _ X) q)) ht
    rcases hd with ⟨h1, h2, h3, h4, h5⟩ | ⟨h1, h2, h3, h4⟩ | ⟨h1, h3, h4⟩
    ·
     exact absurd h1 HE.out
    ·
     exact absurd h1 HE.out
    ·
     exact ⟨h3, ht', hk, h4, hk⟩)
   obtain ⟨T, hT⟩ : ∃ T : ByteArray, T = ⟨#[]⟩ := ⟨_, rfl⟩
   rw [← hT] at HWD
   have HTX := Lib.hid hT
   clear hT
   cases hfo : findO vars T with
   | some i =>
    have hi5 : i < 5000 := Nat.lt_of_lt_of_le (findO_lt hfo) (by have := HVL.out; omega)
    have HZ := Lib.hid (show findZ vars T = (i : Int) by unfold findZ; rw [hfo])
    have hwr : IntKind.u32.wrap (i : Int) = (i : Int) := by rw [IntKind.wrap_u32] <;> omega
    clear hfo
    refine wp_region_held_drew (S := fun V => V.cell? ⟨g, 4, none⟩ = some (.slice AV nV cV)) (by kernel_rfl) ?_ (fun hHeld => ?_)
    ·
     exact c4
    refine wpAnyH_take (i := 0) (oi := ?p25) (v := ?v25) ?a25 (by kernel_rfl) ?b25 ?c25 ?q25 ?y25 hHeld ?z25
    case a25 => (simp only [List.getElem?_toArray, List.getElem?_cons_succ, List.getElem?_cons_zero]; exact rfl)
    case b25 => kernel_rfl
    case c25 => kernel_rfl
    case q25 => exact fun _ _ _ h => h
    case y25 =>
     refine Or.inl ⟨by rfl, ?_⟩
     intro V hSV
     go_simp
     (try with_reducible rfl)
    try simp only [Act.put, List.setIfInBounds_toArray, List.set_cons_zero, List.set_cons_succ]
    refine wpAnyH_take (i := 1) (oi := ?p26) (v := ?v26) ?a26 (by kernel_rfl) ?b26 ?c26 ?q26 ?y26 hHeld ?z26
    case a26 => (simp only [List.getElem?_toArray, List.getElem?_cons_succ, List.getElem?_cons_zero]; exact rfl)
    case b26 => kernel_rfl
    case c26 => kernel_rfl
    case q26 => exact fun _ _ _ h => h
    case y26 =>
     refine Or.inl ⟨by rfl, ?_⟩
     intro V hSV
     go_simp
     (try with_reducible rfl)
    try simp only [Act.put, List.setIfInBounds_toArray, List.set_cons_zero, List.set_cons_succ]
    refine wpAnyH_take (i := 2) (oi := ?p27) (v := ?v27) ?a27 (by kernel_rfl) ?b27 ?c27 ?q27 ?y27 hHeld ?z27
    case a27 => (simp only [List.getElem?_toArray, List.getElem?_cons_succ, List.getElem?_cons_zero]; exact rfl)
    case b27 => kernel_rfl
    case c27 => kernel_rfl
    case q27 => exact fun _ _ _ h => h
    case y27 =>
     refine Or.inl ⟨by rfl, ?_⟩
     intro V hSV
     go_simp
     (try with_reducible rfl)
    try simp only [Act.put, List.setIfInBounds_toArray, List.set_cons_zero, List.set_cons_succ]
    refine wpAnyH_take (i := 3) (oi := ?p28) (v := ?v28) ?a28 (by kernel_rfl) ?b28 ?c28 ?q28 ?y28 hHeld ?z28
    case a28 => (simp only [List.getElem?_toArray, List.getElem?_cons_succ, List.getElem?_cons_zero]; exact rfl)
    case b28 => kernel_rfl
    case c28 => kernel_rfl
    case q28 => exact fun _ _ _ h => h
    case y28 =>
     refine Or.inl ⟨by rfl, ?_⟩
     intro V hSV
     go_simp
     (try with_reducible rfl)
    try simp only [Act.put, List.setIfInBounds_toArray, List.set_cons_zero, List.set_cons_succ]
    refine wpAnyH_take (i := 4) (oi := ?p29) (v := ?v29) ?a29 (by kernel_rfl) ?b29 ?c29 ?q29 ?y29 hHeld ?z29
    case a29 => (simp only [List.getElem?_toArray, List.getElem?_cons_succ, List.getElem?_cons_zero]; exact rfl)
    case b29 => kernel_rfl
    case c29 => kernel_rfl
    case q29 => exact fun _ _ _ h => h
    case y29 =>
     refine Or.inl ⟨by rfl, ?_⟩
     intro V hSV
     go_simp
     (try with_reducible rfl)
    try simp only [Act.put, List.setIfInBounds_toArray, List.set_cons_zero, List.set_cons_succ]
    refine wpAnyH_ready (rs := [5]) (by kernel_rfl) (by simp) ?_
    refine AllReadyH.cons (o := ?od30) ?hod30 (fun K hK => ?kd30) ?md30
    case hod30 => (simp only [List.getElem?_toArray, List.getElem?_cons_succ, List.getElem?_cons_zero]; exact rfl)
    case kd30 =>
     go_simp
     refine (HWD.out 1).mono ?_
     rintro e V ⟨rfl, ht2, _, hb2, hk2⟩
     have HT2 := Lib.hid ht2
     have HB2 := Lib.hid hb2
     have HIX2 := Lib.hid (pIndex_any AV nV cV vars T V (Rd.ofOwn (own_only HVU.out HBU.out (by decide) ht2)) (by omega))
     rw [HZ.out] at HIX2
     have HR2 := Lib.hid (ht2.bk HRU.out hrg)
     have q0 : V.cell? ⟨rr, 0, none⟩ = some (.bool false) := HR2.out.cell 0
     have q1 : V.cell? ⟨rr, 1, none⟩ = some (.int .u32 0) := HR2.out.cell 1
     have q2 : V.frozen? ⟨rr, 0, none⟩ = false := HR2.out.frozen 0
     have q3 : V.frozen? ⟨rr, 1, none⟩ = false := HR2.out.frozen 1
     clear ht2 hb2
     (try dsimp only)
     refine hK.out _ _ ?_ (fun hHeld => ?_)
     ·
      exact HB2.out.cell 4
     clear hK K
     try simp only [Act.put, List.setIfInBounds_toArray, List.set_cons_zero, List.set_cons_succ]
     refine wpAnyH_ready (rs := [6]) (by kernel_rfl) (by simp) ?_
     refine AllReadyH.cons (o := ?od31) ?hod31 (fun K hK => ?kd31) ?md31
     case hod31 => (simp only [List.getElem?_toArray, List.getElem?_cons_succ, List.getElem?_cons_zero]; exact rfl)
     case kd31 =>
      go_simp
      refine HIX2.out.mono ?_
      rintro e V2 ⟨rfl, rfl⟩
      (try dsimp only)
      refine hK.out _ _ ?_ (fun hHeld => ?_)
      ·
       exact HB2.out.cell 4
      clear hK K
      try simp only [Act.put, List.setIfInBounds_toArray, List.set_cons_zero, List.set_cons_succ]
      refine wpAnyH_take (i := 7) (oi := ?p32) (v := ?v32) ?a32 (by kernel_rfl) ?b32 ?c32 ?q32 ?y32 hHeld ?z32
      case a32 => (simp only [List.getElem?_toArray, List.getElem?_cons_succ, List.getElem?_cons_zero]; exact rfl)
      case b32 => kernel_rfl
      case c32 => kernel_rfl
      case q32 => exact fun _ _ _ h => h
      case y32 =>
       refine Or.inl ⟨by rfl, ?_⟩
       intro V hSV
       go_simp
       (try with_reducible rfl)
      try simp only [Act.put, List.setIfInBounds_toArray, List.set_cons_zero, List.set_cons_succ]
      refine wpAnyH_take (i := 8) (oi := ?p33) (v := ?v33) ?a33 (by kernel_rfl) ?b33 ?c33 ?q33 ?y33 hHeld ?z33
      case a33 => (simp only [List.getElem?_toArray, List.getElem?_cons_succ, List.getElem?_cons_zero]; exact rfl)
      case b33 => kernel_rfl
      case c33 => kernel_rfl
      case q33 => exact fun _ _ _ h => h
      case y33 =>
       refine Or.inl ⟨by rfl, ?_⟩
       intro V hSV
       go_simp
       (try with_reducible rfl)
      try simp only [Act.put, List.setIfInBounds_toArray, List.set_cons_zero, List.set_cons_succ]
      refine wpAnyH_take (i := 9) (oi := ?p34) (v := ?v34) ?a34 (by kernel_rfl) ?b34 ?c34 ?q34 ?y34 hHeld ?z34
      case a34 => (simp only [List.getElem?_toArray, List.getElem?_cons_succ, List.getElem?_cons_zero]; exact rfl)
      case b34 => kernel_rfl
      case c34 => kernel_rfl
      case q34 => exact fun _ _ _ h => h
      case y34 =>
       refine Or.inl ⟨by rfl, ?_⟩
       intro V hSV
       go_simp
       (try with_reducible rfl)
      try simp only [Act.put, List.setIfInBounds_toArray, List.set_cons_zero, List.set_cons_succ]
      refine wpAnyH_ready (rs := [10]) (by kernel_rfl) (by simp) ?_
      refine AllReadyH.cons (o := ?od35) ?hod35 (fun K hK => ?kd35) ?md35
      case hod35 => (simp only [List.getElem?_toArray, List.getElem?_cons_succ, List.getElem?_cons_zero]; exact rfl)
      case kd35 =>
       go_simp
       refine hK.out _ _ ?_ (fun hHeld => ?_)
       ·
        exact ((only_set2 (w := V) (r := rr) _ _).bk HB2.out hrg.symm).cell 4
       clear hK K
       try simp only [Act.put, List.setIfInBounds_toArray, List.set_cons_zero, List.set_cons_succ]
       refine wpAnyH_done (by kernel_rfl) ?_ _
       clear hHeld
       repeat (first | go_skip | go_guarded | go_step)
       (try simp only [Exit.inBlock, Exit.then])
       refine bodyPost_ret (results_cell_row rfl _ _ rr _ _ _ _ rfl (term_end HR2.out _ _) Tryz.underlying46 rfl (by kernel_rfl)) rfl ?_
       exact ⟨(true, UInt32.ofNat i), by first | rfl | rw [nvOf (by omega)] | (rw [nvOf (by omega)]; rfl) | (rw [nvOf (by omega)]; simp), PSt.far (mkSt (x := goE _ (termE sz)) hg HBU.out HB2.out HWU.out HNU.out HVU.out HNE.out hk2 hW hN hV HT2.out (by rw [goE_err]; exact HST.out)) HR2.out (by decide) (by decide) (by decide) (only_set2 _ _), (ans_err), (HKU.out.trans (Kp.only HT2.out hg HBU.out.lt)).fresh (only_set2 _ _) hrw hrb HR2.out.lt⟩
      exact AllReadyH.nil
     exact AllReadyH.nil
    exact AllReadyH.nil
   | none =>
    have HZ := Lib.hid (show findZ vars T = -1 by unfold findZ; rw [hfo])
    clear hfo
    refine wp_region_held_drew (S := fun V => V.cell? ⟨g, 4, none⟩ = some (.slice AV nV cV)) (by kernel_rfl) ?_ (fun hHeld => ?_)
    ·
     exact c4
    refine wpAnyH_take (i := 0) (oi := ?p36) (v := ?v36) ?a36 (by kernel_rfl) ?b36 ?c36 ?q36 ?y36 hHeld ?z36
    case a36 => (simp only [List.getElem?_toArray, List.getElem?_cons_succ, List.getElem?_cons_zero]; exact rfl)
    case b36 => kernel_rfl
    case c36 => kernel_rfl
    case q36 => exact fun _ _ _ h => h
    case y36 =>
     refine Or.inl ⟨by rfl, ?_⟩
     intro V hSV
     go_simp
     (try with_reducible rfl)
    try simp only [Act.put, List.setIfInBounds_toArray, List.set_cons_zero, List.set_cons_succ]
    refine wpAnyH_take (i := 1) (oi := ?p37) (v := ?v37) ?a37 (by kernel_rfl) ?b37 ?c37 ?q37 ?y37 hHeld ?z37
    case a37 => (simp only [List.getElem?_toArray, List.getElem?_cons_succ, List.getElem?_cons_zero]; exact rfl)
    case b37 => kernel_rfl
    case c37 => kernel_rfl
    case q37 => exact fun _ _ _ h => h
    case y37 =>
     refine Or.inl ⟨by rfl, ?_⟩
     intro V hSV
     go_simp
     (try with_reducible rfl)
    try simp only [Act.put, List.setIfInBounds_toArray, List.set_cons_zero, List.set_cons_succ]
    refine wpAnyH_take (i := 2) (oi := ?p38) (v := ?v38) ?a38 (by kernel_rfl) ?b38 ?c38 ?q38 ?y38 hHeld ?z38
    case a38 => (simp only [List.getElem?_toArray, List.getElem?_cons_succ, List.getElem?_cons_zero]; exact rfl)
    case b38 => kernel_rfl
    case c38 => kernel_rfl
    case q38 => exact fun _ _ _ h => h
    case y38 =>
     refine Or.inl ⟨by rfl, ?_⟩
     intro V hSV
     go_simp
     (try with_reducible rfl)
    try simp only [Act.put, List.setIfInBounds_toArray, List.set_cons_zero, List.set_cons_succ]
    refine wpAnyH_take (i := 3) (oi := ?p39) (v := ?v39) ?a39 (by kernel_rfl) ?b39 ?c39 ?q39 ?y39 hHeld ?z39
    case a39 => (simp only [List.getElem?_toArray, List.getElem?_cons_succ, List.getElem?_cons_zero]; exact rfl)
    case b39 => kernel_rfl
    case c39 => kernel_rfl
    case q39 => exact fun _ _ _ h => h
    case y39 =>
     refine Or.inl ⟨by rfl, ?_⟩
     intro V hSV
     go_simp
     (try with_reducible rfl)
    try simp only [Act.put, List.setIfInBounds_toArray, List.set_cons_zero, List.set_cons_succ]
    refine wpAnyH_take (i := 4) (oi := ?p40) (v := ?v40) ?a40 (by kernel_rfl) ?b40 ?c40 ?q40 ?y40 hHeld ?z40
    case a40 => (simp only [List.getElem?_toArray, List.getElem?_cons_succ, List.getElem?_cons_zero]; exact rfl)
    case b40 => kernel_rfl
    case c40 => kernel_rfl
    case q40 => exact fun _ _ _ h => h
    case y40 =>
     refine Or.inl ⟨by rfl, ?_⟩
     intro V hSV
     go_simp
     (try with_reducible rfl)
    try simp only [Act.put, List.setIfInBounds_toArray, List.set_cons_zero, List.set_cons_succ]
    refine wpAnyH_ready (rs := [5]) (by kernel_rfl) (by simp) ?_
    refine AllReadyH.cons (o := ?od41) ?hod41 (fun K hK => ?kd41) ?md41
    case hod41 => (simp only [List.getElem?_toArray, List.getElem?_cons_succ, List.getElem?_cons_zero]; exact rfl)
    case kd41 =>
     go_simp
     refine (HWD.out 1).mono ?_
     rintro e V ⟨rfl, ht2, _, hb2, hk2⟩
     have HT2 := Lib.hid ht2
     have HB2 := Lib.hid hb2
     have HIX2 := Lib.hid (pIndex_any AV nV cV vars T V (Rd.ofOwn (own_only HVU.out HBU.out (by decide) ht2)) (by omega))
     rw [HZ.out] at HIX2
     have HR2 := Lib.hid (ht2.bk HRU.out hrg)
     have q0 : V.cell? ⟨rr, 0, none⟩ = some (.bool false) := HR2.out.cell 0
     have q1 : V.cell? ⟨rr, 1, none⟩ = some (.int .u32 0) := HR2.out.cell 1
     have q2 : V.frozen? ⟨rr, 0, none⟩ = false := HR2.out.frozen 0
     have q3 : V.frozen? ⟨rr, 1, none⟩ = false := HR2.out.frozen 1
     clear ht2 hb2
     (try dsimp only)
     refine hK.out _ _ ?_ (fun hHeld => ?_)
     ·
      exact HB2.out.cell 4
     clear hK K
     try simp only [Act.put, List.setIfInBounds_toArray, List.set_cons_zero, List.set_cons_succ]
     refine wpAnyH_ready (rs := [6]) (by kernel_rfl) (by simp) ?_
     refine AllReadyH.cons (o := ?od42) ?hod42 (fun K hK => ?kd42) ?md42
     case hod42 => (simp only [List.getElem?_toArray, List.getElem?_cons_succ, List.getElem?_cons_zero]; exact rfl)
     case kd42 =>
      go_simp
      refine HIX2.out.mono ?_
      rintro e V2 ⟨rfl, rfl⟩
      (try dsimp only)
      refine hK.out _ _ ?_ (fun hHeld => ?_)
      ·
       exact HB2.out.cell 4
      clear hK K
      try simp only [Act.put, List.setIfInBounds_toArray, List.set_cons_zero, List.set_cons_succ]
      refine wpAnyH_take (i := 7) (oi := ?p43) (v := ?v43) ?a43 (by kernel_rfl) ?b43 ?c43 ?q43 ?y43 hHeld ?z43
      case a43 => (simp only [List.getElem?_toArray, List.getElem?_cons_succ, List.getElem?_cons_zero]; exact rfl)
      case b43 => kernel_rfl
      case c43 => kernel_rfl
      case q43 => exact fun _ _ _ h => h
      case y43 =>
       refine Or.inl ⟨by rfl, ?_⟩
       intro V hSV
       go_simp
       (try with_reducible rfl)
      try simp only [Act.put, List.setIfInBounds_toArray, List.set_cons_zero, List.set_cons_succ]
      refine wpAnyH_take (i := 8) (oi := ?p44) (v := ?v44) ?a44 (by kernel_rfl) ?b44 ?c44 ?q44 ?y44 hHeld ?z44
      case a44 => (simp only [List.getElem?_toArray, List.getElem?_cons_succ, List.getElem?_cons_zero]; exact rfl)
      case b44 => kernel_rfl
      case c44 => kernel_rfl
      case q44 => exact fun _ _ _ h => h
      case y44 =>
       refine Or.inl ⟨by rfl, ?_⟩
       intro V hSV
       go_simp
       (try with_reducible rfl)
      try simp only [Act.put, List.setIfInBounds_toArray, List.set_cons_zero, List.set_cons_succ]
      refine wpAnyH_take (i := 9) (oi := ?p45) (v := ?v45) ?a45 (by kernel_rfl) ?b45 ?c45 ?q45 ?y45 hHeld ?z45
      case a45 => (simp only [List.getElem?_toArray, List.getElem?_cons_succ, List.getElem?_cons_zero]; exact rfl)
      case b45 => kernel_rfl
      case c45 => kernel_rfl
      case q45 => exact fun _ _ _ h => h
      case y45 =>
       refine Or.inl ⟨by rfl, ?_⟩
       intro V hSV
       go_simp
       (try with_reducible rfl)
      try simp only [Act.put, List.setIfInBounds_toArray, List.set_cons_zero, List.set_cons_succ]
      refine wpAnyH_ready (rs := [10]) (by kernel_rfl) (by simp) ?_
      refine AllReadyH.cons (o := ?od46) ?hod46 (fun K hK => ?kd46) ?md46
      case hod46 => (simp only [List.getElem?_toArray, List.getElem?_cons_succ, List.getElem?_cons_zero]; exact rfl)
      case kd46 =>
       go_simp
       refine hK.out _ _ ?_ (fun hHeld => ?_)
       ·
        exact ((only_set2 (w := V) (r := rr) _ _).bk HB2.out hrg.symm).cell 4
       clear hK K
       try simp only [Act.put, List.setIfInBounds_toArray, List.set_cons_zero, List.set_cons_succ]
       refine wpAnyH_done (by kernel_rfl) ?_ _
       clear hHeld
       repeat (first | go_skip | go_guarded | go_step)
       (try simp only [Exit.inBlock, Exit.then])
       refine bodyPost_ret (results_cell_row rfl _ _ rr _ _ _ _ rfl (term_end HR2.out _ _) Tryz.underlying46 rfl (by kernel_rfl)) rfl ?_
       exact ⟨(true, UInt32.ofNat 0), by first | rfl | rw [nvOf (by omega)] | (rw [nvOf (by omega)]; rfl) | (rw [nvOf (by omega)]; simp), PSt.far (mkSt (x := goE _ (termE sz)) hg HBU.out HB2.out HWU.out HNU.out HVU.out HNE.out hk2 hW hN hV HT2.out (by rw [goE_err]; exact HST.out)) HR2.out (by decide) (by decide) (by decide) (only_set2 _ _), (ans_err), (HKU.out.trans (Kp.only HT2.out hg HBU.out.lt)).fresh (only_set2 _ _) hrw hrb HR2.out.lt⟩
      exact AllReadyH.nil
     exact AllReadyH.nil
    exact AllReadyH.nil
  | ok s =>
   obtain ⟨rfl, rfl⟩ := HST.out
   clear HST
   have hlt : k < nW := by
    by_cases h : k < nW
    ·
     exact h
    ·
     exfalso
     have h2 := HKN.out
     rw [List.drop_of_length_le (by rw [rdV_len (OwV.rd HW.out)]; omega)] at h2
     simp [kindE] at h2
   obtain ⟨b, o, ⟨k9, t9, a9⟩, hA, hbb, hx9, hc0, hc1, hc2⟩ := rdV_at (OwV.rd HW.out) hlt
   obtain ⟨T9, hT9⟩ : ∃ T : ByteArray, T = txE (ws.drop k) := ⟨_, rfl⟩
   have r1 : U2.cell? ⟨b, o + k * 3 + 1, none⟩ = some (sv T9) := by
    rw [hT9, drop_at hx9]
    exact hc1
   have HT9 := Lib.hid hT9
   have hci : (k : Int) < (nW : Int) := by omega
   have HIX := Lib.hid (fun q => pIndex_any AV nV cV vars T9 (U2.drewN q) HRV.out (by omega))
   subst hA
   clear hc0 hc1 hc2 hx9 hT9
   cases hfo : findO vars T9 with
   | some i =>
    have hi5 : i < 5000 := Nat.lt_of_lt_of_le (findO_lt hfo) (by have := HVL.out; omega)
    have hz9 : findZ vars T9 = (i : Int) := by unfold findZ; rw [hfo]
    rw [hz9] at HIX
    have dlt : decide ((i : Int) < 0) = false := by simp
    have HFO := Lib.hid (show findO vars (txE (ws.drop k)) = some i by rw [← HT9.out]; exact hfo)
    have HNM := Lib.hid (show termE sz (ws.drop k, names, vars) = .ok ((true, UInt32.ofNat i), (ws.drop (k + 1), names, vars)) by
     unfold termE
     dsimp only
     rw [if_pos HKN.out, HFO.out]
     dsimp only [nextE]
     rw [List.tail_drop])
    clear hz9 hfo
    refine wp_region_held_drew (S := fun V => ∃ q, V = U2.drewN q) (by kernel_rfl) ?_ (fun hHeld => ?_)
    ·
     exact ⟨1, rfl⟩
    refine wpAnyH_take (i := 0) (oi := ?p47) (v := ?v47) ?a47 (by kernel_rfl) ?b47 ?c47 ?q47 ?y47 hHeld ?z47
    case a47 => (simp only [List.getElem?_toArray, List.getElem?_cons_succ, List.getElem?_cons_zero]; exact rfl)
    case b47 => kernel_rfl
    case c47 => kernel_rfl
    case q47 => exact fun _ _ _ h => h
    case y47 =>
     refine Or.inl ⟨by rfl, ?_⟩
     intro V hSV
     go_simp
     (try with_reducible rfl)
    try simp only [Act.put, List.setIfInBounds_toArray, List.set_cons_zero, List.set_cons_succ]
    refine wpAnyH_take (i := 1) (oi := ?p48) (v := ?v48) ?a48 (by kernel_rfl) ?b48 ?c48 ?q48 ?y48 hHeld ?z48
    case a48 => (simp only [List.getElem?_toArray, List.getElem?_cons_succ, List.getElem?_cons_zero]; exact rfl)
    case b48 => kernel_rfl
    case c48 => kernel_rfl
    case q48 => exact fun _ _ _ h => h
    case y48 =>
     refine Or.inl ⟨by rfl, ?_⟩
     intro V hSV
     go_simp
     (try with_reducible rfl)
    try simp only [Act.put, List.setIfInBounds_toArray, List.set_cons_zero, List.set_cons_succ]
    refine wpAnyH_take (i := 2) (oi := ?p49) (v := ?v49) ?a49 (by kernel_rfl) ?b49 ?c49 ?q49 ?y49 hHeld ?z49
    case a49 => (simp only [List.getElem?_toArray, List.getElem?_cons_succ, List.getElem?_cons_zero]; exact rfl)
    case b49 => kernel_rfl
    case c49 => kernel_rfl
    case q49 => exact fun _ _ _ h => h
    case y49 =>
     refine Or.inl ⟨by rfl, ?_⟩
     intro V hSV
     go_simp
     (try with_reducible rfl)
    try simp only [Act.put, List.setIfInBounds_toArray, List.set_cons_zero, List.set_cons_succ]
    refine wpAnyH_take (i := 3) (oi := ?p50) (v := ?v50) ?a50 (by kernel_rfl) ?b50 ?c50 ?q50 ?y50 hHeld ?z50
    case a50 => (simp only [List.getElem?_toArray, List.getElem?_cons_succ, List.getElem?_cons_zero]; exact rfl)
    case b50 => kernel_rfl
    case c50 => kernel_rfl
    case q50 => exact fun _ _ _ h => h
    case y50 =>
     refine Or.inl ⟨by rfl, ?_⟩
     intro V hSV
     obtain ⟨q, rfl⟩ := hSV
     go_simp
     (try with_reducible rfl)
    try simp only [Act.put, List.setIfInBounds_toArray, List.set_cons_zero, List.set_cons_succ]
    refine wpAnyH_take (i := 4) (oi := ?oid51) (v := .bool true) ?hod51 (by kernel_rfl) ?hfd51 ?hrd51 ?hQd51 ?hyd51 hHeld ?restd51
    case hod51 => (simp only [List.getElem?_toArray, List.getElem?_cons_succ, List.getElem?_cons_zero]; exact rfl)
    case hfd51 => kernel_rfl
    case hrd51 => kernel_rfl
    case hQd51 => exact fun _ _ _ h => h
    case hyd51 =>
     refine Or.inl ⟨by rfl, ?_⟩
     intro V hSV
     go_simp
     (try with_reducible rfl)
    try simp only [Act.put, List.setIfInBounds_toArray, List.set_cons_zero, List.set_cons_succ]
    refine wpAnyH_take (i := 5) (oi := ?oid52) (v := .bool true) ?hod52 (by kernel_rfl) ?hfd52 ?hrd52 ?hQd52 ?hyd52 hHeld ?restd52
    case hod52 => (simp only [List.getElem?_toArray, List.getElem?_cons_succ, List.getElem?_cons_zero]; exact rfl)
    case hfd52 => kernel_rfl
    case hrd52 => kernel_rfl
    case hQd52 => exact fun _ _ _ h => h
    case hyd52 =>
     refine Or.inl ⟨by rfl, ?_⟩
     intro V hSV
     go_simp
     (try with_reducible rfl)
    try simp only [Act.put, List.setIfInBounds_toArray, List.set_cons_zero, List.set_cons_succ]
    refine wpAnyH_take (i := 6) (oi := ?p53) (v := ?v53) ?a53 (by kernel_rfl) ?b53 ?c53 ?q53 ?y53 hHeld ?z53
    case a53 => (simp only [List.getElem?_toArray, List.getElem?_cons_succ, List.getElem?_cons_zero]; exact rfl)
    case b53 => kernel_rfl
    case c53 => kernel_rfl
    case q53 => exact fun _ _ _ h => h
    case y53 =>
     refine Or.inl ⟨by rfl, ?_⟩
     intro V hSV
     go_simp
     (try with_reducible rfl)
    try simp only [Act.put, List.setIfInBounds_toArray, List.set_cons_zero, List.set_cons_succ]
    refine wpAnyH_take (i := 7) (oi := ?p54) (v := ?v54) ?a54 (by kernel_rfl) ?b54 ?c54 ?q54 ?y54 hHeld ?z54
    case a54 => (simp only [List.getElem?_toArray, List.getElem?_cons_succ, List.getElem?_cons_zero]; exact rfl)
    case b54 => kernel_rfl
    case c54 => kernel_rfl
    case q54 => exact fun _ _ _ h => h
    case y54 =>
     refine Or.inl ⟨by rfl, ?_⟩
     intro V hSV
     go_simp
     (try with_reducible rfl)
    try simp only [Act.put, List.setIfInBounds_toArray, List.set_cons_zero, List.set_cons_succ]
    refine wpAnyH_take (i := 8) (oi := ?p55) (v := ?v55) ?a55 (by kernel_rfl) ?b55 ?c55 ?q55 ?y55 hHeld ?z55
    case a55 => (simp only [List.getElem?_toArray, List.getElem?_cons_succ, List.getElem?_cons_zero]; exact rfl)
    case b55 => kernel_rfl
    case c55 => kernel_rfl
    case q55 => exact fun _ _ _ h => h
    case y55 =>
     refine Or.inl ⟨by rfl, ?_⟩
     intro V hSV
     go_simp
     (try with_reducible rfl)
    try simp only [Act.put, List.setIfInBounds_toArray, List.set_cons_zero, List.set_cons_succ]
    refine wpAnyH_take (i := 9) (oi := ?p56) (v := ?v56) ?a56 (by kernel_rfl) ?b56 ?c56 ?q56 ?y56 hHeld ?z56
    case a56 => (simp only [List.getElem?_toArray, List.getElem?_cons_succ, List.getElem?_cons_zero]; exact rfl)
    case b56 => kernel_rfl
    case c56 => kernel_rfl
    case q56 => exact fun _ _ _ h => h
    case y56 =>
     refine Or.inl ⟨by rfl, ?_⟩
     intro V hSV
     obtain ⟨q, rfl⟩ := hSV
     go_simp
     (try with_reducible rfl)
    try simp only [Act.put, List.setIfInBounds_toArray, List.set_cons_zero, List.set_cons_succ]
    refine wpAnyH_take (i := 10) (oi := ?p57) (v := ?v57) ?a57 (by kernel_rfl) ?b57 ?c57 ?q57 ?y57 hHeld ?z57
    case a57 => (simp only [List.getElem?_toArray, List.getElem?_cons_succ, List.getElem?_cons_zero]; exact rfl)
    case b57 => kernel_rfl
    case c57 => kernel_rfl
    case q57 => exact fun _ _ _ h => h
    case y57 =>
     refine Or.inl ⟨by rfl, ?_⟩
     intro V hSV
     go_simp
     (try with_reducible rfl)
    try simp only [Act.put, List.setIfInBounds_toArray, List.set_cons_zero, List.set_cons_succ]
    refine wpAnyH_take (i := 11) (oi := ?p58) (v := ?v58) ?a58 (by kernel_rfl) ?b58 ?c58 ?q58 ?y58 hHeld ?z58
    case a58 => (simp only [List.getElem?_toArray, List.getElem?_cons_succ, List.getElem?_cons_zero]; exact rfl)
    case b58 => kernel_rfl
    case c58 => kernel_rfl
    case q58 => exact fun _ _ _ h => h
    case y58 =>
     refine Or.inl ⟨by rfl, ?_⟩
     intro V hSV
     go_simp
     (try with_reducible rfl)
    try simp only [Act.put, List.setIfInBounds_toArray, List.set_cons_zero, List.set_cons_succ]
    refine wpAnyH_take (i := 12) (oi := ?p59) (v := ?v59) ?a59 (by kernel_rfl) ?b59 ?c59 ?q59 ?y59 hHeld ?z59
    case a59 => (simp only [List.getElem?_toArray, List.getElem?_cons_succ, List.getElem?_cons_zero]; exact rfl)
    case b59 => kernel_rfl
    case c59 => kernel_rfl
    case q59 => exact fun _ _ _ h => h
    case y59 =>
     refine Or.inl ⟨by rfl, ?_⟩
     intro V hSV
     go_simp
     (try with_reducible rfl)
    try simp only [Act.put, List.setIfInBounds_toArray, List.set_cons_zero, List.set_cons_succ]
    refine wpAnyH_take (i := 13) (oi := ?p60) (v := ?v60) ?a60 (by kernel_rfl) ?b60 ?c60 ?q60 ?y60 hHeld ?z60
    case a60 => (simp only [List.getElem?_toArray, List.getElem?_cons_succ, List.getElem?_cons_zero]; exact rfl)
    case b60 => kernel_rfl
    case c60 => kernel_rfl
    case q60 => exact fun _ _ _ h => h
    case y60 =>
     refine Or.inl ⟨by rfl, ?_⟩
     intro V hSV
     obtain ⟨q, rfl⟩ := hSV
     go_simp
     (try with_reducible rfl)
    try simp only [Act.put, List.setIfInBounds_toArray, List.set_cons_zero, List.set_cons_succ]
    refine wpAnyH_take (i := 14) (oi := ?p61) (v := ?v61) ?a61 (by kernel_rfl) ?b61 ?c61 ?q61 ?y61 hHeld ?z61
    case a61 => (simp only [List.getElem?_toArray, List.getElem?_cons_succ, List.getElem?_cons_zero]; exact rfl)
    case b61 => kernel_rfl
    case c61 => kernel_rfl
    case q61 => exact fun _ _ _ h => h
    case y61 =>
     refine Or.inl ⟨by rfl, ?_⟩
     intro V hSV
     go_simp
     (try with_reducible rfl)
    try simp only [Act.put, List.setIfInBounds_toArray, List.set_cons_zero, List.set_cons_succ]
    refine wpAnyH_take (i := 15) (oi := ?p62) (v := ?v62) ?a62 (by kernel_rfl) ?b62 ?c62 ?q62 ?y62 hHeld ?z62
    case a62 => (simp only [List.getElem?_toArray, List.getElem?_cons_succ, List.getElem?_cons_zero]; exact rfl)
    case b62 => kernel_rfl
    case c62 => kernel_rfl
    case q62 => exact fun _ _ _ h => h
    case y62 =>
     refine Or.inl ⟨by rfl, ?_⟩
     intro V hSV
     go_simp
     (try with_reducible rfl)
    try simp only [Act.put, List.setIfInBounds_toArray, List.set_cons_zero, List.set_cons_succ]
    refine wpAnyH_take (i := 16) (oi := ?p63) (v := ?v63) ?a63 (by kernel_rfl) ?b63 ?c63 ?q63 ?y63 hHeld ?z63
    case a63 => (simp only [List.getElem?_toArray, List.getElem?_cons_succ, List.getElem?_cons_zero]; exact rfl)
    case b63 => kernel_rfl
    case c63 => kernel_rfl
    case q63 => exact fun _ _ _ h => h
    case y63 =>
     refine Or.inl ⟨by rfl, ?_⟩
     intro V hSV
     go_simp
     (try with_reducible rfl)
    try simp only [Act.put, List.setIfInBounds_toArray, List.set_cons_zero, List.set_cons_succ]
    refine wpAnyH_take (i := 17) (oi := ?p64) (v := ?v64) ?a64 (by kernel_rfl) ?b64 ?c64 ?q64 ?y64 hHeld ?z64
    case a64 => (simp only [List.getElem?_toArray, List.getElem?_cons_succ, List.getElem?_cons_zero]; exact rfl)
    case b64 => kernel_rfl
    case c64 => kernel_rfl
    case q64 => exact fun _ _ _ h => h
    case y64 =>
     refine Or.inl ⟨by rfl, ?_⟩
     intro V hSV
     obtain ⟨q, rfl⟩ := hSV
     go_simp
     (try with_reducible rfl)
    try simp only [Act.put, List.setIfInBounds_toArray, List.set_cons_zero, List.set_cons_succ]
    refine wpAnyH_take (i := 18) (oi := ?p65) (v := ?v65) ?a65 (by kernel_rfl) ?b65 ?c65 ?q65 ?y65 hHeld ?z65
    case a65 => (simp only [List.getElem?_toArray, List.getElem?_cons_succ, List.getElem?_cons_zero]; exact rfl)
    case b65 => kernel_rfl
    case c65 => kernel_rfl
    case q65 => exact fun _ _ _ h => h
    case y65 =>
     refine Or.inl ⟨by rfl, ?_⟩
     intro V hSV
     go_simp
     (try with_reducible rfl)
    try simp only [Act.put, List.setIfInBounds_toArray, List.set_cons_zero, List.set_cons_succ]
    refine wpAnyH_take (i := 19) (oi := ?p66) (v := ?v66) ?a66 (by kernel_rfl) ?b66 ?c66 ?q66 ?y66 hHeld ?z66
    case a66 => (simp only [List.getElem?_toArray, List.getElem?_cons_succ, List.getElem?_cons_zero]; exact rfl)
    case b66 => kernel_rfl
    case c66 => kernel_rfl
    case q66 => exact fun _ _ _ h => h
    case y66 =>
     refine Or.inl ⟨by rfl, ?_⟩
     intro V hSV
     go_simp
     (try with_reducible rfl)
    try simp only [Act.put, List.setIfInBounds_toArray, List.set_cons_zero, List.set_cons_succ]
    refine wpAnyH_take (i := 20) (oi := ?p67) (v := ?v67) ?a67 (by kernel_rfl) ?b67 ?c67 ?q67 ?y67 hHeld ?z67
    case a67 => (simp only [List.getElem?_toArray, List.getElem?_cons_succ, List.getElem?_cons_zero]; exact rfl)
    case b67 => kernel_rfl
    case c67 => kernel_rfl
    case q67 => exact fun _ _ _ h => h
    case y67 =>
     refine Or.inl ⟨by rfl, ?_⟩
     intro V hSV
     obtain ⟨q, rfl⟩ := hSV
     go_simp
     (try with_reducible rfl)
    try simp only [Act.put, List.setIfInBounds_toArray, List.set_cons_zero, List.set_cons_succ]
    refine wpAnyH_ready (rs := [21]) (by kernel_rfl) (by simp) ?_
    refine AllReadyH.cons (o := ?od68) ?hod68 (fun K hK => ?kd68) ?md68
    case hod68 => (simp only [List.getElem?_toArray, List.getElem?_cons_succ, List.getElem?_cons_zero]; exact rfl)
    case kd68 =>
     go_simp
     refine (HIX.out 1).mono ?_
     rintro e V ⟨rfl, rfl⟩
     (try dsimp only)
     refine hK.out _ _ ?_ (fun hHeld => ?_)
     ·
      exact ⟨1, rfl⟩
     clear hK K
     try simp only [Act.put, List.setIfInBounds_toArray, List.set_cons_zero, List.set_cons_succ]
     refine wpAnyH_take (i := 22) (oi := ?oid69) (v := .bool false) ?hod69 (by kernel_rfl) ?hfd69 ?hrd69 ?hQd69 ?hyd69 hHeld ?restd69
     case hod69 => (simp only [List.getElem?_toArray, List.getElem?_cons_succ, List.getElem?_cons_zero]; exact rfl)
     case hfd69 => kernel_rfl
     case hrd69 => kernel_rfl
     case hQd69 => exact fun _ _ _ h => h
     case hyd69 =>
      refine Or.inl ⟨by rfl, ?_⟩
      intro V hSV
      go_simp
      (try with_reducible rfl)
     try simp only [Act.put, List.setIfInBounds_toArray, List.set_cons_zero, List.set_cons_succ]
     refine wpAnyH_take (i := 23) (oi := ?oid70) (v := .bool false) ?hod70 (by kernel_rfl) ?hfd70 ?hrd70 ?hQd70 ?hyd70 hHeld ?restd70
     case hod70 => (simp only [List.getElem?_toArray, List.getElem?_cons_succ, List.getElem?_cons_zero]; exact rfl)
     case hfd70 => kernel_rfl
     case hrd70 => kernel_rfl
     case hQd70 => exact fun _ _ _ h => h
     case hyd70 =>
      refine Or.inl ⟨by rfl, ?_⟩
      intro V hSV
      go_simp
      (try with_reducible rfl)
     try simp only [Act.put, List.setIfInBounds_toArray, List.set_cons_zero, List.set_cons_succ]
     refine wpAnyH_done (by kernel_rfl) ?_ _
     clear hHeld
     try rw [World.drewN_zero]
     try change Exit.then _ _ _ _ U2.drew
     have HBU := Lib.hid (show Bk (U2.drew) g PT (pzC (some ⟨b, o, none⟩) nW cW k sz AN nN cN AV nV cV 0 a0) from HB.out)
     have HWU := Lib.hid (show OwV 127 (U2.drew) base (some ⟨b, o, none⟩) cW nW ws from HW.out)
     have HNU := Lib.hid (show OwS (U2.drew) base AN cN nN names from HN.out)
     have HVU := Lib.hid (show OwS (U2.drew) base AV cV nV vars from HV.out)
     have HKU := Lib.hid (show Kp base g w U2.drew from HK.out.drews 1)
     have HRU := Lib.hid (show Bk U2.drew rr 46 [.bool false, .int .u32 0] from HR.out)
     clear HB HW HN HV HK HR HRV c0 c1 c4 c5
     try clear HIX
     try clear r1
     generalize U2.drew = X at HBU HWU HNU HVU HKU HRU ⊢
     have c4 : X.cell? ⟨g, 4, none⟩ = some (.slice AV nV cV) := HBU.out.cell 4
     repeat (first | go_skip | go_guarded | go_step)
     have HWD := Lib.hid (show ∀ q, Calls Tryz.prog 61 #[.pointer (some ⟨g, 0, none⟩), .int .u8 2] (X.drewN q) fun e w' => e = .returned (sv (txE (ws.drop k))) ∧ Only g X w' ∧ k ≤ nW ∧ Bk w' g PT (pzC (some ⟨b, o, none⟩) nW cW (k + 1) sz AN nN cN AV nV cV 0 a0) ∧ (k + 1) ≤ nW from fun q => by
      refine (pWord_any 2 base ws (X.drewN q) HBU.out HWU.out hk (by omega) (by omega)).mono ?_
      rintro e w' ⟨ht, hd⟩
      have ht' : Only g X w' := Turn.trans (Turn.ofBelow (G := fun j => j = g) (belowDrews (Below.refl _ X) q)) ht
      rcases hd with ⟨h1, h2, h3, h4, h5⟩ | ⟨h1, h2, h3, h4⟩ | ⟨h1, h3, h4⟩
      ·
       exact ⟨h3, ht', hk, h5, h4⟩
      ·
       exact absurd HKN.out h2
      ·
       exact absurd rfl h1)
     obtain ⟨T, hT⟩ : ∃ T : ByteArray, T = (txE (ws.drop k)) := ⟨_, rfl⟩
     rw [← hT] at HWD
     have HTX := Lib.hid hT
     clear hT
     have HZ := Lib.hid (show findZ vars T = (i : Int) by unfold findZ; rw [HTX.out, HFO.out])
     have hwr : IntKind.u32.wrap (i : Int) = (i : Int) := by rw [IntKind.wrap_u32] <;> omega
     refine wp_region_held_drew (S := fun V => V.cell? ⟨g, 4, none⟩ = some (.slice AV nV cV)) (by kernel_rfl) ?_ (fun hHeld => ?_)
     ·
      exact c4
     refine wpAnyH_take (i := 0) (oi := ?p71) (v := ?v71) ?a71 (by kernel_rfl) ?b71 ?c71 ?q71 ?y71 hHeld ?z71
     case a71 => (simp only [List.getElem?_toArray, List.getElem?_cons_succ, List.getElem?_cons_zero]; exact rfl)
     case b71 => kernel_rfl
     case c71 => kernel_rfl
     case q71 => exact fun _ _ _ h => h
     case y71 =>
      refine Or.inl ⟨by rfl, ?_⟩
      intro V hSV
      go_simp
      (try with_reducible rfl)
     try simp only [Act.put, List.setIfInBounds_toArray, List.set_cons_zero, List.set_cons_succ]
     refine wpAnyH_take (i := 1) (oi := ?p72) (v := ?v72) ?a72 (by kernel_rfl) ?b72 ?c72 ?q72 ?y72 hHeld ?z72
     case a72 => (simp only [List.getElem?_toArray, List.getElem?_cons_succ, List.getElem?_cons_zero]; exact rfl)
     case b72 => kernel_rfl
     case c72 => kernel_rfl
     case q72 => exact fun _ _ _ h => h
     case y72 =>
      refine Or.inl ⟨by rfl, ?_⟩
      intro V hSV
      go_simp
      (try with_reducible rfl)
     try simp only [Act.put, List.setIfInBounds_toArray, List.set_cons_zero, List.set_cons_succ]
     refine wpAnyH_take (i := 2) (oi := ?p73) (v := ?v73) ?a73 (by kernel_rfl) ?b73 ?c73 ?q73 ?y73 hHeld ?z73
     case a73 => (simp only [List.getElem?_toArray, List.getElem?_cons_succ, List.getElem?_cons_zero]; exact rfl)
     case b73 => kernel_rfl
     case c73 => kernel_rfl
     case q73 => exact fun _ _ _ h => h
     case y73 =>
      refine Or.inl ⟨by rfl, ?_⟩
      intro V hSV
      go_simp
      (try with_reducible rfl)
     try simp only [Act.put, List.setIfInBounds_toArray, List.set_cons_zero, List.set_cons_succ]
     refine wpAnyH_take (i := 3) (oi := ?p74) (v := ?v74) ?a74 (by kernel_rfl) ?b74 ?c74 ?q74 ?y74 hHeld ?z74
     case a74 => (simp only [List.getElem?_toArray, List.getElem?_cons_succ, List.getElem?_cons_zero]; exact rfl)
     case b74 => kernel_rfl
     case c74 => kernel_rfl
     case q74 => exact fun _ _ _ h => h
     case y74 =>
      refine Or.inl ⟨by rfl, ?_⟩
      intro V hSV
      go_simp
      (try with_reducible rfl)
     try simp only [Act.put, List.setIfInBounds_toArray, List.set_cons_zero, List.set_cons_succ]
     refine wpAnyH_take (i := 4) (oi := ?p75) (v := ?v75) ?a75 (by kernel_rfl) ?b75 ?c75 ?q75 ?y75 hHeld ?z75
     case a75 => (simp only [List.getElem?_toArray, List.getElem?_cons_succ, List.getElem?_cons_zero]; exact rfl)
     case b75 => kernel_rfl
     case c75 => kernel_rfl
     case q75 => exact fun _ _ _ h => h
     case y75 =>
      refine Or.inl ⟨by rfl, ?_⟩
      intro V hSV
      go_simp
      (try with_reducible rfl)
     try simp only [Act.put, List.setIfInBounds_toArray, List.set_cons_zero, List.set_cons_succ]
     refine wpAnyH_ready (rs := [5]) (by kernel_rfl) (by simp) ?_
     refine AllReadyH.cons (o := ?od76) ?hod76 (fun K hK => ?kd76) ?md76
     case hod76 => (simp only [List.getElem?_toArray, List.getElem?_cons_succ, List.getElem?_cons_zero]; exact rfl)
     case kd76 =>
      go_simp
      refine (HWD.out 1).mono ?_
      rintro e V ⟨rfl, ht2, _, hb2, hk2⟩
      have HT2 := Lib.hid ht2
      have HB2 := Lib.hid hb2
      have HIX2 := Lib.hid (pIndex_any AV nV cV vars T V (Rd.ofOwn (own_only HVU.out HBU.out (by decide) ht2)) (by omega))
      rw [HZ.out] at HIX2
      have HR2 := Lib.hid (ht2.bk HRU.out hrg)
      have q0 : V.cell? ⟨rr, 0, none⟩ = some (.bool false) := HR2.out.cell 0
      have q1 : V.cell? ⟨rr, 1, none⟩ = some (.int .u32 0) := HR2.out.cell 1
      have q2 : V.frozen? ⟨rr, 0, none⟩ = false := HR2.out.frozen 0
      have q3 : V.frozen? ⟨rr, 1, none⟩ = false := HR2.out.frozen 1
      clear ht2 hb2
      (try dsimp only)
      refine hK.out _ _ ?_ (fun hHeld => ?_)
      ·
       exact HB2.out.cell 4
      clear hK K
      try simp only [Act.put, List.setIfInBounds_toArray, List.set_cons_zero, List.set_cons_succ]
      refine wpAnyH_ready (rs := [6]) (by kernel_rfl) (by simp) ?_
      refine AllReadyH.cons (o := ?od77) ?hod77 (fun K hK => ?kd77) ?md77
      case hod77 => (simp only [List.getElem?_toArray, List.getElem?_cons_succ, List.getElem?_cons_zero]; exact rfl)
      case kd77 =>
       go_simp
       refine HIX2.out.mono ?_
       rintro e V2 ⟨rfl, rfl⟩
       (try dsimp only)
       refine hK.out _ _ ?_ (fun hHeld => ?_)
       ·
        exact HB2.out.cell 4
       clear hK K
       try simp only [Act.put, List.setIfInBounds_toArray, List.set_cons_zero, List.set_cons_succ]
       refine wpAnyH_take (i := 7) (oi := ?p78) (v := ?v78) ?a78 (by kernel_rfl) ?b78 ?c78 ?q78 ?y78 hHeld ?z78
       case a78 => (simp only [List.getElem?_toArray, List.getElem?_cons_succ, List.getElem?_cons_zero]; exact rfl)
       case b78 => kernel_rfl
       case c78 => kernel_rfl
       case q78 => exact fun _ _ _ h => h
       case y78 =>
        refine Or.inl ⟨by rfl, ?_⟩
        intro V hSV
        go_simp
        (try with_reducible rfl)
       try simp only [Act.put, List.setIfInBounds_toArray, List.set_cons_zero, List.set_cons_succ]
       refine wpAnyH_take (i := 8) (oi := ?p79) (v := ?v79) ?a79 (by kernel_rfl) ?b79 ?c79 ?q79 ?y79 hHeld ?z79
       case a79 => (simp only [List.getElem?_toArray, List.getElem?_cons_succ, List.getElem?_cons_zero]; exact rfl)
       case b79 => kernel_rfl
       case c79 => kernel_rfl
       case q79 => exact fun _ _ _ h => h
       case y79 =>
        refine Or.inl ⟨by rfl, ?_⟩
        intro V hSV
        go_simp
        (try with_reducible rfl)
       try simp only [Act.put, List.setIfInBounds_toArray, List.set_cons_zero, List.set_cons_succ]
       refine wpAnyH_take (i := 9) (oi := ?p80) (v := ?v80) ?a80 (by kernel_rfl) ?b80 ?c80 ?q80 ?y80 hHeld ?z80
       case a80 => (simp only [List.getElem?_toArray, List.getElem?_cons_succ, List.getElem?_cons_zero]; exact rfl)
       case b80 => kernel_rfl
       case c80 => kernel_rfl
       case q80 => exact fun _ _ _ h => h
       case y80 =>
        refine Or.inl ⟨by rfl, ?_⟩
        intro V hSV
        go_simp
        (try with_reducible rfl)
       try simp only [Act.put, List.setIfInBounds_toArray, List.set_cons_zero, List.set_cons_succ]
       refine wpAnyH_ready (rs := [10]) (by kernel_rfl) (by simp) ?_
       refine AllReadyH.cons (o := ?od81) ?hod81 (fun K hK => ?kd81) ?md81
       case hod81 => (simp only [List.getElem?_toArray, List.getElem?_cons_succ, List.getElem?_cons_zero]; exact rfl)
       case kd81 =>
        go_simp
        refine hK.out _ _ ?_ (fun hHeld => ?_)
        ·
         exact ((only_set2 (w := V) (r := rr) _ _).bk HB2.out hrg.symm).cell 4
        clear hK K
        try simp only [Act.put, List.setIfInBounds_toArray, List.set_cons_zero, List.set_cons_succ]
        refine wpAnyH_done (by kernel_rfl) ?_ _
        clear hHeld
        repeat (first | go_skip | go_guarded | go_step)
        (try simp only [Exit.inBlock, Exit.then])
        refine bodyPost_ret (results_cell_row rfl _ _ rr _ _ _ _ rfl (term_end HR2.out _ _) Tryz.underlying46 rfl (by kernel_rfl)) rfl ?_
        exact ⟨(true, UInt32.ofNat i), by first | rfl | rw [nvOf (by omega)] | (rw [nvOf (by omega)]; rfl) | (rw [nvOf (by omega)]; simp), PSt.far (mkSt (x := goE _ (termE sz)) hg HBU.out HB2.out HWU.out HNU.out HVU.out HNE.out hk2 hW hN hV HT2.out (by rw [goE_ok HNM.out]; exact ⟨rfl, rfl⟩)) HR2.out (by decide) (by decide) (by decide) (only_set2 _ _), (by have := HNM.out; exact ans_ok this), (HKU.out.trans (Kp.only HT2.out hg HBU.out.lt)).fresh (only_set2 _ _) hrw hrb HR2.out.lt⟩
       exact AllReadyH.nil
      exact AllReadyH.nil
     exact AllReadyH.nil
    exact AllReadyH.nil
   | none =>
    have hz9 : findZ vars T9 = -1 := by unfold findZ; rw [hfo]
    rw [hz9] at HIX
    have HFO := Lib.hid (show findO vars (txE (ws.drop k)) = none by rw [← HT9.out]; exact hfo)
    clear hz9 hfo
    by_cases hfull : 16 ≤ nV
    ·
     have dfu : decide ((16 : Int) ≤ (nV : Int)) = true := by simp; omega
     have HNM := Lib.hid (show termE sz (ws.drop k, names, vars) = .error (6, placeE sz (ws.drop k)) by
      unfold termE
      dsimp only
      rw [if_pos HKN.out, HFO.out]
      dsimp only
      rw [if_pos (by rw [HVL.out]; exact hfull)])
     clear hfull
     refine wp_region_held_drew (S := fun V => ∃ q, V = U2.drewN q) (by kernel_rfl) ?_ (fun hHeld => ?_)
     ·
      exact ⟨1, rfl⟩
     refine wpAnyH_take (i := 0) (oi := ?p82) (v := ?v82) ?a82 (by kernel_rfl) ?b82 ?c82 ?q82 ?y82 hHeld ?z82
     case a82 => (simp only [List.getElem?_toArray, List.getElem?_cons_succ, List.getElem?_cons_zero]; exact rfl)
     case b82 => kernel_rfl
     case c82 => kernel_rfl
     case q82 => exact fun _ _ _ h => h
     case y82 =>
      refine Or.inl ⟨by rfl, ?_⟩
      intro V hSV
      go_simp
      (try with_reducible rfl)
     try simp only [Act.put, List.setIfInBounds_toArray, List.set_cons_zero, List.set_cons_succ]
     refine wpAnyH_take (i := 1) (oi := ?p83) (v := ?v83) ?a83 (by kernel_rfl) ?b83 ?c83 ?q83 ?y83 hHeld ?z83
     case a83 => (simp only [List.getElem?_toArray, List.getElem?_cons_succ, List.getElem?_cons_zero]; exact rfl)
     case b83 => kernel_rfl
     case c83 => kernel_rfl
     case q83 => exact fun _ _ _ h => h
     case y83 =>
      refine Or.inl ⟨by rfl, ?_⟩
      intro V hSV
      go_simp
      (try with_reducible rfl)
     try simp only [Act.put, List.setIfInBounds_toArray, List.set_cons_zero, List.set_cons_succ]
     refine wpAnyH_take (i := 2) (oi := ?p84) (v := ?v84) ?a84 (by kernel_rfl) ?b84 ?c84 ?q84 ?y84 hHeld ?z84
     case a84 => (simp only [List.getElem?_toArray, List.getElem?_cons_succ, List.getElem?_cons_zero]; exact rfl)
     case b84 => kernel_rfl
     case c84 => kernel_rfl
     case q84 => exact fun _ _ _ h => h
     case y84 =>
      refine Or.inl ⟨by rfl, ?_⟩
      intro V hSV
      go_simp
      (try with_reducible rfl)
     try simp only [Act.put, List.setIfInBounds_toArray, List.set_cons_zero, List.set_cons_succ]
     refine wpAnyH_take (i := 3) (oi := ?p85) (v := ?v85) ?a85 (by kernel_rfl) ?b85 ?c85 ?q85 ?y85 hHeld ?z85
     case a85 => (simp only [List.getElem?_toArray, List.getElem?_cons_succ, List.getElem?_cons_zero]; exact rfl)
     case b85 => kernel_rfl
     case c85 => kernel_rfl
     case q85 => exact fun _ _ _ h => h
     case y85 =>
      refine Or.inl ⟨by rfl, ?_⟩
      intro V hSV
      obtain ⟨q, rfl⟩ := hSV
      go_simp
      (try with_reducible rfl)
     try simp only [Act.put, List.setIfInBounds_toArray, List.set_cons_zero, List.set_cons_succ]
     refine wpAnyH_take (i := 4) (oi := ?oid86) (v := .bool true) ?hod86 (by kernel_rfl) ?hfd86 ?hrd86 ?hQd86 ?hyd86 hHeld ?restd86
     case hod86 => (simp only [List.getElem?_toArray, List.getElem?_cons_succ, List.getElem?_cons_zero]; exact rfl)
     case hfd86 => kernel_rfl
     case hrd86 => kernel_rfl
     case hQd86 => exact fun _ _ _ h => h
     case hyd86 =>
      refine Or.inl ⟨by rfl, ?_⟩
      intro V hSV
      go_simp
      (try with_reducible rfl)
     try simp only [Act.put, List.setIfInBounds_toArray, List.set_cons_zero, List.set_cons_succ]
     refine wpAnyH_take (i := 5) (oi := ?oid87) (v := .bool true) ?hod87 (by kernel_rfl) ?hfd87 ?hrd87 ?hQd87 ?hyd87 hHeld ?restd87
     case hod87 => (simp only [List.getElem?_toArray, List.getElem?_cons_succ, List.getElem?_cons_zero]; exact rfl)
     case hfd87 => kernel_rfl
     case hrd87 => kernel_rfl
     case hQd87 => exact fun _ _ _ h => h
     case hyd87 =>
      refine Or.inl ⟨by rfl, ?_⟩
      intro V hSV
      go_simp
      (try with_reducible rfl)
     try simp only [Act.put, List.setIfInBounds_toArray, List.set_cons_zero, List.set_cons_succ]
     refine wpAnyH_take (i := 6) (oi := ?p88) (v := ?v88) ?a88 (by kernel_rfl) ?b88 ?c88 ?q88 ?y88 hHeld ?z88
     case a88 => (simp only [List.getElem?_toArray, List.getElem?_cons_succ, List.getElem?_cons_zero]; exact rfl)
     case b88 => kernel_rfl
     case c88 => kernel_rfl
     case q88 => exact fun _ _ _ h => h
     case y88 =>
      refine Or.inl ⟨by rfl, ?_⟩
      intro V hSV
      go_simp
      (try with_reducible rfl)
     try simp only [Act.put, List.setIfInBounds_toArray, List.set_cons_zero, List.set_cons_succ]
     refine wpAnyH_take (i := 7) (oi := ?p89) (v := ?v89) ?a89 (by kernel_rfl) ?b89 ?c89 ?q89 ?y89 hHeld ?z89
     case a89 => (simp only [List.getElem?_toArray, List.getElem?_cons_succ, List.getElem?_cons_zero]; exact rfl)
     case b89 => kernel_rfl
     case c89 => kernel_rfl
     case q89 => exact fun _ _ _ h => h
     case y89 =>
      refine Or.inl ⟨by rfl, ?_⟩
      intro V hSV
      go_simp
      (try with_reducible rfl)
     try simp only [Act.put, List.setIfInBounds_toArray, List.set_cons_zero, List.set_cons_succ]
     refine wpAnyH_take (i := 8) (oi := ?p90) (v := ?v90) ?a90 (by kernel_rfl) ?b90 ?c90 ?q90 ?y90 hHeld ?z90
     case a90 => (simp only [List.getElem?_toArray, List.getElem?_cons_succ, List.getElem?_cons_zero]; exact rfl)
     case b90 => kernel_rfl
     case c90 => kernel_rfl
     case q90 => exact fun _ _ _ h => h
     case y90 =>
      refine Or.inl ⟨by rfl, ?_⟩
      intro V hSV
      go_simp
      (try with_reducible rfl)
     try simp only [Act.put, List.setIfInBounds_toArray, List.set_cons_zero, List.set_cons_succ]
     refine wpAnyH_take (i := 9) (oi := ?p91) (v := ?v91) ?a91 (by kernel_rfl) ?b91 ?c91 ?q91 ?y91 hHeld ?z91
     case a91 => (simp only [List.getElem?_toArray, List.getElem?_cons_succ, List.getElem?_cons_zero]; exact rfl)
     case b91 => kernel_rfl
     case c91 => kernel_rfl
     case q91 => exact fun _ _ _ h => h
     case y91 =>
      refine Or.inl ⟨by rfl, ?_⟩
      intro V hSV
      obtain ⟨q, rfl⟩ := hSV
      go_simp
      (try with_reducible rfl)
     try simp only [Act.put, List.setIfInBounds_toArray, List.set_cons_zero, List.set_cons_succ]
     refine wpAnyH_take (i := 10) (oi := ?p92) (v := ?v92) ?a92 (by kernel_rfl) ?b92 ?c92 ?q92 ?y92 hHeld ?z92
     case a92 => (simp only [List.getElem?_toArray, List.getElem?_cons_succ, List.getElem?_cons_zero]; exact rfl)
     case b92 => kernel_rfl
     case c92 => kernel_rfl
     case q92 => exact fun _ _ _ h => h
     case y92 =>
      refine Or.inl ⟨by rfl, ?_⟩
      intro V hSV
      go_simp
      (try with_reducible rfl)
     try simp only [Act.put, List.setIfInBounds_toArray, List.set_cons_zero, List.set_cons_succ]
     refine wpAnyH_take (i := 11) (oi := ?p93) (v := ?v93) ?a93 (by kernel_rfl) ?b93 ?c93 ?q93 ?y93 hHeld ?z93
     case a93 => (simp only [List.getElem?_toArray, List.getElem?_cons_succ, List.getElem?_cons_zero]; exact rfl)
     case b93 => kernel_rfl
     case c93 => kernel_rfl
     case q93 => exact fun _ _ _ h => h
     case y93 =>
      refine Or.inl ⟨by rfl, ?_⟩
      intro V hSV
      go_simp
      (try with_reducible rfl)
     try simp only [Act.put, List.setIfInBounds_toArray, List.set_cons_zero, List.set_cons_succ]
     refine wpAnyH_take (i := 12) (oi := ?p94) (v := ?v94) ?a94 (by kernel_rfl) ?b94 ?c94 ?q94 ?y94 hHeld ?z94
     case a94 => (simp only [List.getElem?_toArray, List.getElem?_cons_succ, List.getElem?_cons_zero]; exact rfl)
     case b94 => kernel_rfl
     case c94 => kernel_rfl
     case q94 => exact fun _ _ _ h => h
     case y94 =>
      refine Or.inl ⟨by rfl, ?_⟩
      intro V hSV
      go_simp
      (try with_reducible rfl)
     try simp only [Act.put, List.setIfInBounds_toArray, List.set_cons_zero, List.set_cons_succ]
     refine wpAnyH_take (i := 13) (oi := ?p95) (v := ?v95) ?a95 (by kernel_rfl) ?b95 ?c95 ?q95 ?y95 hHeld ?z95
     case a95 => (simp only [List.getElem?_toArray, List.getElem?_cons_succ, List.getElem?_cons_zero]; exact rfl)
     case b95 => kernel_rfl
     case c95 => kernel_rfl
     case q95 => exact fun _ _ _ h => h
     case y95 =>
      refine Or.inl ⟨by rfl, ?_⟩
      intro V hSV
      obtain ⟨q, rfl⟩ := hSV
      go_simp
      (try with_reducible rfl)
     try simp only [Act.put, List.setIfInBounds_toArray, List.set_cons_zero, List.set_cons_succ]
     refine wpAnyH_take (i := 14) (oi := ?p96) (v := ?v96) ?a96 (by kernel_rfl) ?b96 ?c96 ?q96 ?y96 hHeld ?z96
     case a96 => (simp only [List.getElem?_toArray, List.getElem?_cons_succ, List.getElem?_cons_zero]; exact rfl)
     case b96 => kernel_rfl
     case c96 => kernel_rfl
     case q96 => exact fun _ _ _ h => h
     case y96 =>
      refine Or.inl ⟨by rfl, ?_⟩
      intro V hSV
      go_simp
      (try with_reducible rfl)
     try simp only [Act.put, List.setIfInBounds_toArray, List.set_cons_zero, List.set_cons_succ]
     refine wpAnyH_take (i := 15) (oi := ?p97) (v := ?v97) ?a97 (by kernel_rfl) ?b97 ?c97 ?q97 ?y97 hHeld ?z97
     case a97 => (simp only [List.getElem?_toArray, List.getElem?_cons_succ, List.getElem?_cons_zero]; exact rfl)
     case b97 => kernel_rfl
     case c97 => kernel_rfl
     case q97 => exact fun _ _ _ h => h
     case y97 =>
      refine Or.inl ⟨by rfl, ?_⟩
      intro V hSV
      go_simp
      (try with_reducible rfl)
     try simp only [Act.put, List.setIfInBounds_toArray, List.set_cons_zero, List.set_cons_succ]
     refine wpAnyH_take (i := 16) (oi := ?p98) (v := ?v98) ?a98 (by kernel_rfl) ?b98 ?c98 ?q98 ?y98 hHeld ?z98
     case a98 => (simp only [List.getElem?_toArray, List.getElem?_cons_succ, List.getElem?_cons_zero]; exact rfl)
     case b98 => kernel_rfl
     case c98 => kernel_rfl
     case q98 => exact fun _ _ _ h => h
     case y98 =>
      refine Or.inl ⟨by rfl, ?_⟩
      intro V hSV
      go_simp
      (try with_reducible rfl)
     try simp only [Act.put, List.setIfInBounds_toArray, List.set_cons_zero, List.set_cons_succ]
     refine wpAnyH_take (i := 17) (oi := ?p99) (v := ?v99) ?a99 (by kernel_rfl) ?b99 ?c99 ?q99 ?y99 hHeld ?z99
     case a99 => (simp only [List.getElem?_toArray, List.getElem?_cons_succ, List.getElem?_cons_zero]; exact rfl)
     case b99 => kernel_rfl
     case c99 => kernel_rfl
     case q99 => exact fun _ _ _ h => h
     case y99 =>
      refine Or.inl ⟨by rfl, ?_⟩
      intro V hSV
      obtain ⟨q, rfl⟩ := hSV
      go_simp
      (try with_reducible rfl)
     try simp only [Act.put, List.setIfInBounds_toArray, List.set_cons_zero, List.set_cons_succ]
     refine wpAnyH_take (i := 18) (oi := ?p100) (v := ?v100) ?a100 (by kernel_rfl) ?b100 ?c100 ?q100 ?y100 hHeld ?z100
     case a100 => (simp only [List.getElem?_toArray, List.getElem?_cons_succ, List.getElem?_cons_zero]; exact rfl)
     case b100 => kernel_rfl
     case c100 => kernel_rfl
     case q100 => exact fun _ _ _ h => h
     case y100 =>
      refine Or.inl ⟨by rfl, ?_⟩
      intro V hSV
      go_simp
      (try with_reducible rfl)
     try simp only [Act.put, List.setIfInBounds_toArray, List.set_cons_zero, List.set_cons_succ]
     refine wpAnyH_take (i := 19) (oi := ?p101) (v := ?v101) ?a101 (by kernel_rfl) ?b101 ?c101 ?q101 ?y101 hHeld ?z101
     case a101 => (simp only [List.getElem?_toArray, List.getElem?_cons_succ, List.getElem?_cons_zero]; exact rfl)
     case b101 => kernel_rfl
     case c101 => kernel_rfl
     case q101 => exact fun _ _ _ h => h
     case y101 =>
      refine Or.inl ⟨by rfl, ?_⟩
      intro V hSV
      go_simp
      (try with_reducible rfl)
     try simp only [Act.put, List.setIfInBounds_toArray, List.set_cons_zero, List.set_cons_succ]
     refine wpAnyH_take (i := 20) (oi := ?p102) (v := ?v102) ?a102 (by kernel_rfl) ?b102 ?c102 ?q102 ?y102 hHeld ?z102
     case a102 => (simp only [List.getElem?_toArray, List.getElem?_cons_succ, List.getElem?_cons_zero]; exact rfl)
     case b102 => kernel_rfl
     case c102 => kernel_rfl
     case q102 => exact fun _ _ _ h => h
     case y102 =>
      refine Or.inl ⟨by rfl, ?_⟩
      intro V hSV
      obtain ⟨q, rfl⟩ := hSV
      go_simp
      (try with_reducible rfl)
     try simp only [Act.put, List.setIfInBounds_toArray, List.set_cons_zero, List.set_cons_succ]
     refine wpAnyH_ready (rs := [21]) (by kernel_rfl) (by simp) ?_
     refine AllReadyH.cons (o := ?od103) ?hod103 (fun K hK => ?kd103) ?md103
     case hod103 => (simp only [List.getElem?_toArray, List.getElem?_cons_succ, List.getElem?_cons_zero]; exact rfl)
     case kd103 =>
      go_simp
      refine (HIX.out 1).mono ?_
      rintro e V ⟨rfl, rfl⟩
      (try dsimp only)
      refine hK.out _ _ ?_ (fun hHeld => ?_)
      ·
       exact ⟨1, rfl⟩
      clear hK K
      try simp only [Act.put, List.setIfInBounds_toArray, List.set_cons_zero, List.set_cons_succ]
      refine wpAnyH_take (i := 22) (oi := ?oid104) (v := .bool true) ?hod104 (by kernel_rfl) ?hfd104 ?hrd104 ?hQd104 ?hyd104 hHeld ?restd104
      case hod104 => (simp only [List.getElem?_toArray, List.getElem?_cons_succ, List.getElem?_cons_zero]; exact rfl)
      case hfd104 => kernel_rfl
      case hrd104 => kernel_rfl
      case hQd104 => exact fun _ _ _ h => h
      case hyd104 =>
       refine Or.inl ⟨by rfl, ?_⟩
       intro V hSV
       go_simp
       (try with_reducible rfl)
      try simp only [Act.put, List.setIfInBounds_toArray, List.set_cons_zero, List.set_cons_succ]
      refine wpAnyH_take (i := 23) (oi := ?oid105) (v := .bool true) ?hod105 (by kernel_rfl) ?hfd105 ?hrd105 ?hQd105 ?hyd105 hHeld ?restd105
      case hod105 => (simp only [List.getElem?_toArray, List.getElem?_cons_succ, List.getElem?_cons_zero]; exact rfl)
      case hfd105 => kernel_rfl
      case hrd105 => kernel_rfl
      case hQd105 => exact fun _ _ _ h => h
      case hyd105 =>
       refine Or.inl ⟨by rfl, ?_⟩
       intro V hSV
       go_simp
       (try with_reducible rfl)
      try simp only [Act.put, List.setIfInBounds_toArray, List.set_cons_zero, List.set_cons_succ]
      refine wpAnyH_done (by kernel_rfl) ?_ _
      clear hHeld
      try rw [World.drewN_zero]
      try change Exit.then _ _ _ _ U2.drew
      have HBU := Lib.hid (show Bk (U2.drew) g PT (pzC (some ⟨b, o, none⟩) nW cW k sz AN nN cN AV nV cV 0 a0) from HB.out)
      have HWU := Lib.hid (show OwV 127 (U2.drew) base (some ⟨b, o, none⟩) cW nW ws from HW.out)
      have HNU := Lib.hid (show OwS (U2.drew) base AN cN nN names from HN.out)
      have HVU := Lib.hid (show OwS (U2.drew) base AV cV nV vars from HV.out)
      have HKU := Lib.hid (show Kp base g w U2.drew from HK.out.drews 1)
      have HRU := Lib.hid (show Bk U2.drew rr 46 [.bool false, .int .u32 0] from HR.out)
      clear HB HW HN HV HK HR HRV c0 c1 c4 c5
      try clear HIX
      try clear r1
      generalize U2.drew = X at HBU HWU HNU HVU HKU HRU ⊢
      have c4 : X.cell? ⟨g, 4, none⟩ = some (.slice AV nV cV) := HBU.out.cell 4
      repeat (first | go_skip | go_guarded | go_step)
      refine (pWrong_any 6 base ws _ HBU.out HWU.out hk (by omega)).mono ?_
      rintro e V ⟨rfl, hb2, ht2⟩
      rw [if_pos rfl, if_pos rfl] at hb2
      have HB2 := Lib.hid hb2
      have HT2 := Lib.hid ht2
      have HR2 := Lib.hid (ht2.bk HRU.out hrg)
      have q0 : V.cell? ⟨rr, 0, none⟩ = some (.bool false) := HR2.out.cell 0
      have q1 : V.cell? ⟨rr, 1, none⟩ = some (.int .u32 0) := HR2.out.cell 1
      have q2 : V.frozen? ⟨rr, 0, none⟩ = false := HR2.out.frozen 0
      have q3 : V.frozen? ⟨rr, 1, none⟩ = false := HR2.out.frozen 1
      clear hb2 ht2
      dsimp only
      repeat (first | go_skip | go_guarded | go_step)
      (try simp only [Exit.inBlock, Exit.then])
      refine bodyPost_ret (results_cell_row rfl _ _ rr _ _ _ _ rfl (term_end HR2.out _ _) Tryz.underlying46 rfl (by kernel_rfl)) rfl ?_
      exact ⟨(false, 0), rfl, PSt.far (mkSt (x := goE _ (termE sz)) hg HBU.out HB2.out HWU.out HNU.out HVU.out HNE.out hk hW hN hV HT2.out (by rw [goE_no HNM.out]; exact ⟨rfl, rfl, by omega⟩)) HR2.out (by decide) (by decide) (by decide) (only_set2 _ _), (by have := HNM.out; exact ans_no this), (HKU.out.trans (Kp.only HT2.out hg HBU.out.lt)).fresh (only_set2 _ _) hrw hrb HR2.out.lt⟩
     exact AllReadyH.nil
    ·
     have dfu : decide ((16 : Int) ≤ (nV : Int)) = false := by simp; omega
     have HNM := Lib.hid (show termE sz (ws.drop k, names, vars) = .ok ((true, UInt32.ofNat nV), (ws.drop (k + 1), names, vars ++ [txE (ws.drop k)])) by
      unfold termE
      dsimp only
      rw [if_pos HKN.out, HFO.out]
      dsimp only
      rw [if_neg (by rw [HVL.out]; exact hfull), List.tail_drop, HVL.out])
     have hfull : nV < 16 := by omega
     refine wp_region_held_drew (S := fun V => ∃ q, V = U2.drewN q) (by kernel_rfl) ?_ (fun hHeld => ?_)
     ·
      exact ⟨1, rfl⟩
     refine wpAnyH_take (i := 0) (oi := ?p106) (v := ?v106) ?a106 (by kernel_rfl) ?b106 ?c106 ?q106 ?y106 hHeld ?z106
     case a106 => (simp only [List.getElem?_toArray, List.getElem?_cons_succ, List.getElem?_cons_zero]; exact rfl)
     case b106 => kernel_rfl
     case c106 => kernel_rfl
     case q106 => exact fun _ _ _ h => h
     case y106 =>
      refine Or.inl ⟨by rfl, ?_⟩
      intro V hSV
      go_simp
      (try with_reducible rfl)
     try simp only [Act.put, List.setIfInBounds_toArray, List.set_cons_zero, List.set_cons_succ]
     refine wpAnyH_take (i := 1) (oi := ?p107) (v := ?v107) ?a107 (by kernel_rfl) ?b107 ?c107 ?q107 ?y107 hHeld ?z107
     case a107 => (simp only [List.getElem?_toArray, List.getElem?_cons_succ, List.getElem?_cons_zero]; exact rfl)
     case b107 => kernel_rfl
     case c107 => kernel_rfl
     case q107 => exact fun _ _ _ h => h
     case y107 =>
      refine Or.inl ⟨by rfl, ?_⟩
      intro V hSV
      go_simp
      (try with_reducible rfl)
     try simp only [Act.put, List.setIfInBounds_toArray, List.set_cons_zero, List.set_cons_succ]
     refine wpAnyH_take (i := 2) (oi := ?p108) (v := ?v108) ?a108 (by kernel_rfl) ?b108 ?c108 ?q108 ?y108 hHeld ?z108
     case a108 => (simp only [List.getElem?_toArray, List.getElem?_cons_succ, List.getElem?_cons_zero]; exact rfl)
     case b108 => kernel_rfl
     case c108 => kernel_rfl
     case q108 => exact fun _ _ _ h => h
     case y108 =>
      refine Or.inl ⟨by rfl, ?_⟩
      intro V hSV
      go_simp
      (try with_reducible rfl)
     try simp only [Act.put, List.setIfInBounds_toArray, List.set_cons_zero, List.set_cons_succ]
     refine wpAnyH_take (i := 3) (oi := ?p109) (v := ?v109) ?a109 (by kernel_rfl) ?b109 ?c109 ?q109 ?y109 hHeld ?z109
     case a109 => (simp only [List.getElem?_toArray, List.getElem?_cons_succ, List.getElem?_cons_zero]; exact rfl)
     case b109 => kernel_rfl
     case c109 => kernel_rfl
     case q109 => exact fun _ _ _ h => h
     case y109 =>
      refine Or.inl ⟨by rfl, ?_⟩
      intro V hSV
      obtain ⟨q, rfl⟩ := hSV
      go_simp
      (try with_reducible rfl)
     try simp only [Act.put, List.setIfInBounds_toArray, List.set_cons_zero, List.set_cons_succ]
     refine wpAnyH_take (i := 4) (oi := ?oid110) (v := .bool true) ?hod110 (by kernel_rfl) ?hfd110 ?hrd110 ?hQd110 ?hyd110 hHeld ?restd110
     case hod110 => (simp only [List.getElem?_toArray, List.getElem?_cons_succ, List.getElem?_cons_zero]; exact rfl)
     case hfd110 => kernel_rfl
     case hrd110 => kernel_rfl
     case hQd110 => exact fun _ _ _ h => h
     case hyd110 =>
      refine Or.inl ⟨by rfl, ?_⟩
      intro V hSV
      go_simp
      (try with_reducible rfl)
     try simp only [Act.put, List.setIfInBounds_toArray, List.set_cons_zero, List.set_cons_succ]
     refine wpAnyH_take (i := 5) (oi := ?oid111) (v := .bool true) ?hod111 (by kernel_rfl) ?hfd111 ?hrd111 ?hQd111 ?hyd111 hHeld ?restd111
     case hod111 => (simp only [List.getElem?_toArray, List.getElem?_cons_succ, List.getElem?_cons_zero]; exact rfl)
     case hfd111 => kernel_rfl
     case hrd111 => kernel_rfl
     case hQd111 => exact fun _ _ _ h => h
     case hyd111 =>
      refine Or.inl ⟨by rfl, ?_⟩
      intro V hSV
      go_simp
      (try with_reducible rfl)
     try simp only [Act.put, List.setIfInBounds_toArray, List.set_cons_zero, List.set_cons_succ]
     refine wpAnyH_take (i := 6) (oi := ?p112) (v := ?v112) ?a112 (by kernel_rfl) ?b112 ?c112 ?q112 ?y112 hHeld ?z112
     case a112 => (simp only [List.getElem?_toArray, List.getElem?_cons_succ, List.getElem?_cons_zero]; exact rfl)
     case b112 => kernel_rfl
     case c112 => kernel_rfl
     case q112 => exact fun _ _ _ h => h
     case y112 =>
      refine Or.inl ⟨by rfl, ?_⟩
      intro V hSV
      go_simp
      (try with_reducible rfl)
     try simp only [Act.put, List.setIfInBounds_toArray, List.set_cons_zero, List.set_cons_succ]
     refine wpAnyH_take (i := 7) (oi := ?p113) (v := ?v113) ?a113 (by kernel_rfl) ?b113 ?c113 ?q113 ?y113 hHeld ?z113
     case a113 => (simp only [List.getElem?_toArray, List.getElem?_cons_succ, List.getElem?_cons_zero]; exact rfl)
     case b113 => kernel_rfl
     case c113 => kernel_rfl
     case q113 => exact fun _ _ _ h => h
     case y113 =>
      refine Or.inl ⟨by rfl, ?_⟩
      intro V hSV
      go_simp
      (try with_reducible rfl)
     try simp only [Act.put, List.setIfInBounds_toArray, List.set_cons_zero, List.set_cons_succ]
     refine wpAnyH_take (i := 8) (oi := ?p114) (v := ?v114) ?a114 (by kernel_rfl) ?b114 ?c114 ?q114 ?y114 hHeld ?z114
     case a114 => (simp only [List.getElem?_toArray, List.getElem?_cons_succ, List.getElem?_cons_zero]; exact rfl)
     case b114 => kernel_rfl
     case c114 => kernel_rfl
     case q114 => exact fun _ _ _ h => h
     case y114 =>
      refine Or.inl ⟨by rfl, ?_⟩
      intro V hSV
      go_simp
      (try with_reducible rfl)
     try simp only [Act.put, List.setIfInBounds_toArray, List.set_cons_zero, List.set_cons_succ]
     refine wpAnyH_take (i := 9) (oi := ?p115) (v := ?v115) ?a115 (by kernel_rfl) ?b115 ?c115 ?q115 ?y115 hHeld ?z115
     case a115 => (simp only [List.getElem?_toArray, List.getElem?_cons_succ, List.getElem?_cons_zero]; exact rfl)
     case b115 => kernel_rfl
     case c115 => kernel_rfl
     case q115 => exact fun _ _ _ h => h
     case y115 =>
      refine Or.inl ⟨by rfl, ?_⟩
      intro V hSV
      obtain ⟨q, rfl⟩ := hSV
      go_simp
      (try with_reducible rfl)
     try simp only [Act.put, List.setIfInBounds_toArray, List.set_cons_zero, List.set_cons_succ]
     refine wpAnyH_take (i := 10) (oi := ?p116) (v := ?v116) ?a116 (by kernel_rfl) ?b116 ?c116 ?q116 ?y116 hHeld ?z116
     case a116 => (simp only [List.getElem?_toArray, List.getElem?_cons_succ, List.getElem?_cons_zero]; exact rfl)
     case b116 => kernel_rfl
     case c116 => kernel_rfl
     case q116 => exact fun _ _ _ h => h
     case y116 =>
      refine Or.inl ⟨by rfl, ?_⟩
      intro V hSV
      go_simp
      (try with_reducible rfl)
     try simp only [Act.put, List.setIfInBounds_toArray, List.set_cons_zero, List.set_cons_succ]
     refine wpAnyH_take (i := 11) (oi := ?p117) (v := ?v117) ?a117 (by kernel_rfl) ?b117 ?c117 ?q117 ?y117 hHeld ?z117
     case a117 => (simp only [List.getElem?_toArray, List.getElem?_cons_succ, List.getElem?_cons_zero]; exact rfl)
     case b117 => kernel_rfl
     case c117 => kernel_rfl
     case q117 => exact fun _ _ _ h => h
     case y117 =>
      refine Or.inl ⟨by rfl, ?_⟩
      intro V hSV
      go_simp
      (try with_reducible rfl)
     try simp only [Act.put, List.setIfInBounds_toArray, List.set_cons_zero, List.set_cons_succ]
     refine wpAnyH_take (i := 12) (oi := ?p118) (v := ?v118) ?a118 (by kernel_rfl) ?b118 ?c118 ?q118 ?y118 hHeld ?z118
     case a118 => (simp only [List.getElem?_toArray, List.getElem?_cons_succ, List.getElem?_cons_zero]; exact rfl)
     case b118 => kernel_rfl
     case c118 => kernel_rfl
     case q118 => exact fun _ _ _ h => h
     case y118 =>
      refine Or.inl ⟨by rfl, ?_⟩
      intro V hSV
      go_simp
      (try with_reducible rfl)
     try simp only [Act.put, List.setIfInBounds_toArray, List.set_cons_zero, List.set_cons_succ]
     refine wpAnyH_take (i := 13) (oi := ?p119) (v := ?v119) ?a119 (by kernel_rfl) ?b119 ?c119 ?q119 ?y119 hHeld ?z119
     case a119 => (simp only [List.getElem?_toArray, List.getElem?_cons_succ, List.getElem?_cons_zero]; exact rfl)
     case b119 => kernel_rfl
     case c119 => kernel_rfl
     case q119 => exact fun _ _ _ h => h
     case y119 =>
      refine Or.inl ⟨by rfl, ?_⟩
      intro V hSV
      obtain ⟨q, rfl⟩ := hSV
      go_simp
      (try with_reducible rfl)
     try simp only [Act.put, List.setIfInBounds_toArray, List.set_cons_zero, List.set_cons_succ]
     refine wpAnyH_take (i := 14) (oi := ?p120) (v := ?v120) ?a120 (by kernel_rfl) ?b120 ?c120 ?q120 ?y120 hHeld ?z120
     case a120 => (simp only [List.getElem?_toArray, List.getElem?_cons_succ, List.getElem?_cons_zero]; exact rfl)
     case b120 => kernel_rfl
     case c120 => kernel_rfl
     case q120 => exact fun _ _ _ h => h
     case y120 =>
      refine Or.inl ⟨by rfl, ?_⟩
      intro V hSV
      go_simp
      (try with_reducible rfl)
     try simp only [Act.put, List.setIfInBounds_toArray, List.set_cons_zero, List.set_cons_succ]
     refine wpAnyH_take (i := 15) (oi := ?p121) (v := ?v121) ?a121 (by kernel_rfl) ?b121 ?c121 ?q121 ?y121 hHeld ?z121
     case a121 => (simp only [List.getElem?_toArray, List.getElem?_cons_succ, List.getElem?_cons_zero]; exact rfl)
     case b121 => kernel_rfl
     case c121 => kernel_rfl
     case q121 => exact fun _ _ _ h => h
     case y121 =>
      refine Or.inl ⟨by rfl, ?_⟩
      intro V hSV
      go_simp
      (try with_reducible rfl)
     try simp only [Act.put, List.setIfInBounds_toArray, List.set_cons_zero, List.set_cons_succ]
     refine wpAnyH_take (i := 16) (oi := ?p122) (v := ?v122) ?a122 (by kernel_rfl) ?b122 ?c122 ?q122 ?y122 hHeld ?z122
     case a122 => (simp only [List.getElem?_toArray, List.getElem?_cons_succ, List.getElem?_cons_zero]; exact rfl)
     case b122 => kernel_rfl
     case c122 => kernel_rfl
     case q122 => exact fun _ _ _ h => h
     case y122 =>
      refine Or.inl ⟨by rfl, ?_⟩
      intro V hSV
      go_simp
      (try with_reducible rfl)
     try simp only [Act.put, List.setIfInBounds_toArray, List.set_cons_zero, List.set_cons_succ]
     refine wpAnyH_take (i := 17) (oi := ?p123) (v := ?v123) ?a123 (by kernel_rfl) ?b123 ?c123 ?q123 ?y123 hHeld ?z123
     case a123 => (simp only [List.getElem?_toArray, List.getElem?_cons_succ, List.getElem?_cons_zero]; exact rfl)
     case b123 => kernel_rfl
     case c123 => kernel_rfl
     case q123 => exact fun _ _ _ h => h
     case y123 =>
      refine Or.inl ⟨by rfl, ?_⟩
      intro V hSV
      obtain ⟨q, rfl⟩ := hSV
      go_simp
      (try with_reducible rfl)
     try simp only [Act.put, List.setIfInBounds_toArray, List.set_cons_zero, List.set_cons_succ]
     refine wpAnyH_take (i := 18) (oi := ?p124) (v := ?v124) ?a124 (by kernel_rfl) ?b124 ?c124 ?q124 ?y124 hHeld ?z124
     case a124 => (simp only [List.getElem?_toArray, List.getElem?_cons_succ, List.getElem?_cons_zero]; exact rfl)
     case b124 => kernel_rfl
     case c124 => kernel_rfl
     case q124 => exact fun _ _ _ h => h
     case y124 =>
      refine Or.inl ⟨by rfl, ?_⟩
      intro V hSV
      go_simp
      (try with_reducible rfl)
     try simp only [Act.put, List.setIfInBounds_toArray, List.set_cons_zero, List.set_cons_succ]
     refine wpAnyH_take (i := 19) (oi := ?p125) (v := ?v125) ?a125 (by kernel_rfl) ?b125 ?c125 ?q125 ?y125 hHeld ?z125
     case a125 => (simp only [List.getElem?_toArray, List.getElem?_cons_succ, List.getElem?_cons_zero]; exact rfl)
     case b125 => kernel_rfl
     case c125 => kernel_rfl
     case q125 => exact fun _ _ _ h => h
     case y125 =>
      refine Or.inl ⟨by rfl, ?_⟩
      intro V hSV
      go_simp
      (try with_reducible rfl)
     try simp only [Act.put, List.setIfInBounds_toArray, List.set_cons_zero, List.set_cons_succ]
     refine wpAnyH_take (i := 20) (oi := ?p126) (v := ?v126) ?a126 (by kernel_rfl) ?b126 ?c126 ?q126 ?y126 hHeld ?z126
     case a126 => (simp only [List.getElem?_toArray, List.getElem?_cons_succ, List.getElem?_cons_zero]; exact rfl)
     case b126 => kernel_rfl
     case c126 => kernel_rfl
     case q126 => exact fun _ _ _ h => h
     case y126 =>
      refine Or.inl ⟨by rfl, ?_⟩
      intro V hSV
      obtain ⟨q, rfl⟩ := hSV
      go_simp
      (try with_reducible rfl)
     try simp only [Act.put, List.setIfInBounds_toArray, List.set_cons_zero, List.set_cons_succ]
     refine wpAnyH_ready (rs := [21]) (by kernel_rfl) (by simp) ?_
     refine AllReadyH.cons (o := ?od127) ?hod127 (fun K hK => ?kd127) ?md127
     case hod127 => (simp only [List.getElem?_toArray, List.getElem?_cons_succ, List.getElem?_cons_zero]; exact rfl)
     case kd127 =>
      go_simp
      refine (HIX.out 1).mono ?_
      rintro e V ⟨rfl, rfl⟩
      (try dsimp only)
      refine hK.out _ _ ?_ (fun hHeld => ?_)
      ·
       exact ⟨1, rfl⟩
      clear hK K
      try simp only [Act.put, List.setIfInBounds_toArray, List.set_cons_zero, List.set_cons_succ]
      refine wpAnyH_take (i := 22) (oi := ?oid128) (v := .bool true) ?hod128 (by kernel_rfl) ?hfd128 ?hrd128 ?hQd128 ?hyd128 hHeld ?restd128
      case hod128 => (simp only [List.getElem?_toArray, List.getElem?_cons_succ, List.getElem?_cons_zero]; exact rfl)
      case hfd128 => kernel_rfl
      case hrd128 => kernel_rfl
      case hQd128 => exact fun _ _ _ h => h
      case hyd128 =>
       refine Or.inl ⟨by rfl, ?_⟩
       intro V hSV
       go_simp
       (try with_reducible rfl)
      try simp only [Act.put, List.setIfInBounds_toArray, List.set_cons_zero, List.set_cons_succ]
      refine wpAnyH_take (i := 23) (oi := ?oid129) (v := .bool true) ?hod129 (by kernel_rfl) ?hfd129 ?hrd129 ?hQd129 ?hyd129 hHeld ?restd129
      case hod129 => (simp only [List.getElem?_toArray, List.getElem?_cons_succ, List.getElem?_cons_zero]; exact rfl)
      case hfd129 => kernel_rfl
      case hrd129 => kernel_rfl
      case hQd129 => exact fun _ _ _ h => h
      case hyd129 =>
       refine Or.inl ⟨by rfl, ?_⟩
       intro V hSV
       go_simp
       (try with_reducible rfl)
      try simp only [Act.put, List.setIfInBounds_toArray, List.set_cons_zero, List.set_cons_succ]
      refine wpAnyH_done (by kernel_rfl) ?_ _
      clear hHeld
      try rw [World.drewN_zero]
      try change Exit.then _ _ _ _ U2.drew
      have HBU := Lib.hid (show Bk (U2.drew) g PT (pzC (some ⟨b, o, none⟩) nW cW k sz AN nN cN AV nV cV 0 a0) from HB.out)
      have HWU := Lib.hid (show OwV 127 (U2.drew) base (some ⟨b, o, none⟩) cW nW ws from HW.out)
      have HNU := Lib.hid (show OwS (U2.drew) base AN cN nN names from HN.out)
      have HVU := Lib.hid (show OwS (U2.drew) base AV cV nV vars from HV.out)
      have HKU := Lib.hid (show Kp base g w U2.drew from HK.out.drews 1)
      have HRU := Lib.hid (show Bk U2.drew rr 46 [.bool false, .int .u32 0] from HR.out)
      clear HB HW HN HV HK HR HRV c0 c1 c4 c5
      try clear HIX
      try clear r1
      generalize U2.drew = X at HBU HWU HNU HVU HKU HRU ⊢
      have c4 : X.cell? ⟨g, 4, none⟩ = some (.slice AV nV cV) := HBU.out.cell 4
      repeat (first | go_skip | go_guarded | go_step)
      have HB1 := Lib.hid (show Bk X.drew g PT (pzC (some ⟨b, o, none⟩) nW cW k sz AN nN cN AV nV cV 0 a0) from HBU.out)
      have HW1 := Lib.hid (show OwV 127 X.drew base (some ⟨b, o, none⟩) cW nW ws from HWU.out)
      have HN1 := Lib.hid (show OwS X.drew base AN cN nN names from HNU.out)
      have HV1 := Lib.hid (show OwS X.drew base AV cV nV vars from HVU.out)
      have HK1 := Lib.hid (show Kp base g w X.drew from HKU.out.drews 1)
      have HR1 := Lib.hid (show Bk X.drew rr 46 [.bool false, .int .u32 0] from HRU.out)
      clear HBU HWU HNU HVU HKU HRU
      have hbW : base ≤ X.drew.heap.size := by have := HB1.out.lt; omega
      have hlit := run_litS T9 X.drew
      have HX := Lib.hid (show ∀ X1, X1 = X.drew.alloc (.cells #[sv T9] 9) → Bk X1 g PT (pzC (some ⟨b, o, none⟩) nW cW k sz AN nN cN AV nV cV 0 a0) ∧ OwV 127 X1 base (some ⟨b, o, none⟩) cW nW ws ∧ OwS X1 base AN cN nN names ∧ OwS X1 base AV cV nV vars ∧ Kp base g w X1 ∧ Rd X1 X1.heap.size 1 (some ⟨X.drew.heap.size, 0, none⟩) 1 [sv T9] ∧ base ≤ X1.heap.size ∧ Bk X1 rr 46 [.bool false, .int .u32 0] from fun X1 hX1 => by
       have hbX : Below X.drew.heap.size X.drew X1 := by rw [hX1]; exact (Below.refl _ _).alloc (Nat.le_refl _) _
       refine ⟨HB1.out.later hbX, ownBelow HW1.out hbX (Nat.le_refl _), ownBelow HN1.out hbX (Nat.le_refl _), ownBelow HV1.out hbX (Nat.le_refl _), by rw [hX1]; exact HK1.out.alloc hbW _, by rw [hX1]; exact (Bk.new X.drew _ [sv T9]).rd 1 (by simp), by have := hbX.size; omega, HR1.out.later hbX⟩)
      obtain ⟨HS0⟩ : Nonempty (Hid (∃ (An : Option Addr) (nn cn : Nat), Bk X.drew g PT (pzC (some ⟨b, o, none⟩) nW cW k sz AN nN cN An nn cn 0 a0) ∧ OwV 127 X.drew base (some ⟨b, o, none⟩) cW nW ws)) := ⟨Lib.hid ⟨AV, nV, cV, HB1.out, HW1.out⟩⟩
      refine wp_region_held_drew (S := fun V => ∃ (An : Option Addr) (nn cn : Nat), Bk V g PT (pzC (some ⟨b, o, none⟩) nW cW k sz AN nN cN An nn cn 0 a0) ∧ OwV 127 V base (some ⟨b, o, none⟩) cW nW ws) (by kernel_rfl) ?_ (fun hHeld => ?_)
      ·
       exact HS0.out
      refine wpAnyH_take (i := 0) (oi := ?p130) (v := ?v130) ?a130 (by kernel_rfl) ?b130 ?c130 ?q130 ?y130 hHeld ?z130
      case a130 => (simp only [List.getElem?_toArray, List.getElem?_cons_succ, List.getElem?_cons_zero]; exact rfl)
      case b130 => kernel_rfl
      case c130 => kernel_rfl
      case q130 => exact fun _ _ _ h => h
      case y130 =>
       refine Or.inl ⟨by rfl, ?_⟩
       intro V hSV
       go_simp
       (try with_reducible rfl)
      try simp only [Act.put, List.setIfInBounds_toArray, List.set_cons_zero, List.set_cons_succ]
      refine wpAnyH_take (i := 1) (oi := ?p131) (v := ?v131) ?a131 (by kernel_rfl) ?b131 ?c131 ?q131 ?y131 hHeld ?z131
      case a131 => (simp only [List.getElem?_toArray, List.getElem?_cons_succ, List.getElem?_cons_zero]; exact rfl)
      case b131 => kernel_rfl
      case c131 => kernel_rfl
      case q131 => exact fun _ _ _ h => h
      case y131 =>
       refine Or.inl ⟨by rfl, ?_⟩
       intro V hSV
       go_simp
       (try with_reducible rfl)
      try simp only [Act.put, List.setIfInBounds_toArray, List.set_cons_zero, List.set_cons_succ]
      refine wpAnyH_take (i := 2) (oi := ?p132) (v := ?v132) ?a132 (by kernel_rfl) ?b132 ?c132 ?q132 ?y132 hHeld ?z132
      case a132 => (simp only [List.getElem?_toArray, List.getElem?_cons_succ, List.getElem?_cons_zero]; exact rfl)
      case b132 => kernel_rfl
      case c132 => kernel_rfl
      case q132 => exact fun _ _ _ h => h
      case y132 =>
       refine Or.inl ⟨by rfl, ?_⟩
       intro V hSV
       go_simp
       (try with_reducible rfl)
      try simp only [Act.put, List.setIfInBounds_toArray, List.set_cons_zero, List.set_cons_succ]
      refine wpAnyH_take (i := 3) (oi := ?p133) (v := ?v133) ?a133 (by kernel_rfl) ?b133 ?c133 ?q133 ?y133 hHeld ?z133
      case a133 => (simp only [List.getElem?_toArray, List.getElem?_cons_succ, List.getElem?_cons_zero]; exact rfl)
      case b133 => kernel_rfl
      case c133 => kernel_rfl
      case q133 => exact fun _ _ _ h => h
      case y133 =>
       refine Or.inl ⟨by rfl, ?_⟩
       intro V hSV
       go_simp
       (try with_reducible rfl)
      try simp only [Act.put, List.setIfInBounds_toArray, List.set_cons_zero, List.set_cons_succ]
      refine wpAnyH_take (i := 5) (oi := ?p134) (v := ?v134) ?a134 (by kernel_rfl) ?b134 ?c134 ?q134 ?y134 hHeld ?z134
      case a134 => (simp only [List.getElem?_toArray, List.getElem?_cons_succ, List.getElem?_cons_zero]; exact rfl)
      case b134 => kernel_rfl
      case c134 => kernel_rfl
      case q134 => exact fun _ _ _ h => h
      case y134 =>
       refine Or.inl ⟨by rfl, ?_⟩
       intro V hSV
       go_simp
       (try with_reducible rfl)
      try simp only [Act.put, List.setIfInBounds_toArray, List.set_cons_zero, List.set_cons_succ]
      refine wpAnyH_take (i := 6) (oi := ?p135) (v := ?v135) ?a135 (by kernel_rfl) ?b135 ?c135 ?q135 ?y135 hHeld ?z135
      case a135 => (simp only [List.getElem?_toArray, List.getElem?_cons_succ, List.getElem?_cons_zero]; exact rfl)
      case b135 => kernel_rfl
      case c135 => kernel_rfl
      case q135 => exact fun _ _ _ h => h
      case y135 =>
       refine Or.inl ⟨by rfl, ?_⟩
       intro V hSV
       go_simp
       (try with_reducible rfl)
      try simp only [Act.put, List.setIfInBounds_toArray, List.set_cons_zero, List.set_cons_succ]
      refine wpAnyH_take (i := 7) (oi := ?p136) (v := ?v136) ?a136 (by kernel_rfl) ?b136 ?c136 ?q136 ?y136 hHeld ?z136
      case a136 => (simp only [List.getElem?_toArray, List.getElem?_cons_succ, List.getElem?_cons_zero]; exact rfl)
      case b136 => kernel_rfl
      case c136 => kernel_rfl
      case q136 => exact fun _ _ _ h => h
      case y136 =>
       refine Or.inl ⟨by rfl, ?_⟩
       intro V hSV
       go_simp
       (try with_reducible rfl)
      try simp only [Act.put, List.setIfInBounds_toArray, List.set_cons_zero, List.set_cons_succ]
      refine wpAnyH_take (i := 8) (oi := ?p137) (v := ?v137) ?a137 (by kernel_rfl) ?b137 ?c137 ?q137 ?y137 hHeld ?z137
      case a137 => (simp only [List.getElem?_toArray, List.getElem?_cons_succ, List.getElem?_cons_zero]; exact rfl)
      case b137 => kernel_rfl
      case c137 => kernel_rfl
      case q137 => exact fun _ _ _ h => h
      case y137 =>
       refine Or.inl ⟨by rfl, ?_⟩
       intro V hSV
       obtain ⟨An, nn, cn, hbS, hwS⟩ := hSV
       have s0 : V.cell? ⟨g, 0, none⟩ = some (.slice (some ⟨b, o, none⟩) nW cW) := hbS.cell 0
       have s1 : V.cell? ⟨g, 1, none⟩ = some (.int .i64 (k : Int)) := hbS.cell 1
       have s2 : V.cell? ⟨b, o + k * 3 + 1, none⟩ = some (sv T9) := by
        obtain ⟨b', o', ⟨k8, t8, a8⟩, hA', _, hx8, _, hc1', _⟩ := rdV_at (OwV.rd hwS) hlt
        simp only [Option.some.injEq, Addr.mk.injEq] at hA'
        obtain ⟨rfl, rfl, _⟩ := hA'
        rw [HT9.out, drop_at hx8]
        exact hc1'
       go_simp
       (try with_reducible rfl)
      try simp only [Act.put, List.setIfInBounds_toArray, List.set_cons_zero, List.set_cons_succ]
      refine wpAnyH_take (i := 9) (oi := ?p138) (v := ?v138) ?a138 (by kernel_rfl) ?b138 ?c138 ?q138 ?y138 hHeld ?z138
      case a138 => (simp only [List.getElem?_toArray, List.getElem?_cons_succ, List.getElem?_cons_zero]; exact rfl)
      case b138 => kernel_rfl
      case c138 => kernel_rfl
      case q138 => exact fun _ _ _ h => h
      case y138 =>
       refine Or.inl ⟨by rfl, ?_⟩
       intro V hSV
       go_simp
       (try with_reducible rfl)
      try simp only [Act.put, List.setIfInBounds_toArray, List.set_cons_zero, List.set_cons_succ]
      refine wpAnyH_take (i := 10) (oi := ?p139) (v := ?v139) ?a139 (by kernel_rfl) ?b139 ?c139 ?q139 ?y139 hHeld ?z139
      case a139 => (simp only [List.getElem?_toArray, List.getElem?_cons_succ, List.getElem?_cons_zero]; exact rfl)
      case b139 => kernel_rfl
      case c139 => kernel_rfl
      case q139 => exact fun _ _ _ h => h
      case y139 =>
       refine Or.inl ⟨by rfl, ?_⟩
       intro V hSV
       go_simp
       (try with_reducible rfl)
      try simp only [Act.put, List.setIfInBounds_toArray, List.set_cons_zero, List.set_cons_succ]
      refine wpAnyH_take (i := 11) (oi := ?p140) (v := ?v140) ?a140 (by kernel_rfl) ?b140 ?c140 ?q140 ?y140 hHeld ?z140
      case a140 => (simp only [List.getElem?_toArray, List.getElem?_cons_succ, List.getElem?_cons_zero]; exact rfl)
      case b140 => kernel_rfl
      case c140 => kernel_rfl
      case q140 => exact fun _ _ _ h => h
      case y140 =>
       refine Or.inl ⟨by rfl, ?_⟩
       intro V hSV
       go_simp
       (try with_reducible rfl)
      try simp only [Act.put, List.setIfInBounds_toArray, List.set_cons_zero, List.set_cons_succ]
      refine wpAnyH_take (i := 12) (oi := ?p141) (v := ?v141) ?a141 (by kernel_rfl) ?b141 ?c141 ?q141 ?y141 hHeld ?z141
      case a141 => (simp only [List.getElem?_toArray, List.getElem?_cons_succ, List.getElem?_cons_zero]; exact rfl)
      case b141 => kernel_rfl
      case c141 => kernel_rfl
      case q141 => exact fun _ _ _ h => h
      case y141 =>
       refine Or.inl ⟨by rfl, ?_⟩
       intro V hSV
       obtain ⟨An, nn, cn, hbS, hwS⟩ := hSV
       have s0 : V.cell? ⟨g, 0, none⟩ = some (.slice (some ⟨b, o, none⟩) nW cW) := hbS.cell 0
       have s1 : V.cell? ⟨g, 1, none⟩ = some (.int .i64 (k : Int)) := hbS.cell 1
       have s2 : V.cell? ⟨b, o + k * 3 + 1, none⟩ = some (sv T9) := by
        obtain ⟨b', o', ⟨k8, t8, a8⟩, hA', _, hx8, _, hc1', _⟩ := rdV_at (OwV.rd hwS) hlt
        simp only [Option.some.injEq, Addr.mk.injEq] at hA'
        obtain ⟨rfl, rfl, _⟩ := hA'
        rw [HT9.out, drop_at hx8]
        exact hc1'
       go_simp
       (try with_reducible rfl)
      try simp only [Act.put, List.setIfInBounds_toArray, List.set_cons_zero, List.set_cons_succ]
      refine wpAnyH_take (i := 13) (oi := ?p142) (v := ?v142) ?a142 (by kernel_rfl) ?b142 ?c142 ?q142 ?y142 hHeld ?z142
      case a142 => (simp only [List.getElem?_toArray, List.getElem?_cons_succ, List.getElem?_cons_zero]; exact rfl)
      case b142 => kernel_rfl
      case c142 => kernel_rfl
      case q142 => exact fun _ _ _ h => h
      case y142 =>
       refine Or.inl ⟨by rfl, ?_⟩
       intro V hSV
       go_simp
       (try with_reducible rfl)
      try simp only [Act.put, List.setIfInBounds_toArray, List.set_cons_zero, List.set_cons_succ]
      refine wpAnyH_take (i := 14) (oi := ?p143) (v := ?v143) ?a143 (by kernel_rfl) ?b143 ?c143 ?q143 ?y143 hHeld ?z143
      case a143 => (simp only [List.getElem?_toArray, List.getElem?_cons_succ, List.getElem?_cons_zero]; exact rfl)
      case b143 => kernel_rfl
      case c143 => kernel_rfl
      case q143 => exact fun _ _ _ h => h
      case y143 =>
       refine Or.inl ⟨by rfl, ?_⟩
       intro V hSV
       go_simp
       (try with_reducible rfl)
      try simp only [Act.put, List.setIfInBounds_toArray, List.set_cons_zero, List.set_cons_succ]
      refine wpAnyH_take (i := 15) (oi := ?p144) (v := ?v144) ?a144 (by kernel_rfl) ?b144 ?c144 ?q144 ?y144 hHeld ?z144
      case a144 => (simp only [List.getElem?_toArray, List.getElem?_cons_succ, List.getElem?_cons_zero]; exact rfl)
      case b144 => kernel_rfl
      case c144 => kernel_rfl
      case q144 => exact fun _ _ _ h => h
      case y144 =>
       refine Or.inl ⟨by rfl, ?_⟩
       intro V hSV
       obtain ⟨An, nn, cn, hbS, hwS⟩ := hSV
       have s0 : V.cell? ⟨g, 0, none⟩ = some (.slice (some ⟨b, o, none⟩) nW cW) := hbS.cell 0
       have s1 : V.cell? ⟨g, 1, none⟩ = some (.int .i64 (k : Int)) := hbS.cell 1
       have s2 : V.cell? ⟨b, o + k * 3 + 1, none⟩ = some (sv T9) := by
        obtain ⟨b', o', ⟨k8, t8, a8⟩, hA', _, hx8, _, hc1', _⟩ := rdV_at (OwV.rd hwS) hlt
        simp only [Option.some.injEq, Addr.mk.injEq] at hA'
        obtain ⟨rfl, rfl, _⟩ := hA'
        rw [HT9.out, drop_at hx8]
        exact hc1'
       go_simp
       (try with_reducible rfl)
      try simp only [Act.put, List.setIfInBounds_toArray, List.set_cons_zero, List.set_cons_succ]
      refine wpAnyH_ready (rs := [4, 16]) (by kernel_rfl) (by simp) ?_
      refine AllReadyH.cons (o := ?od145) ?hod145 (fun K hK => ?kd145) ?md145
      case hod145 => (simp only [List.getElem?_toArray, List.getElem?_cons_succ, List.getElem?_cons_zero]; exact rfl)
      case kd145 =>
       go_simp
       refine hK.out _ _ ?_ (fun hHeld => ?_)
       ·
        exact hHeld
       clear hK K
       try simp only [Act.put, List.setIfInBounds_toArray, List.set_cons_zero, List.set_cons_succ]
       refine wpAnyH_ready (rs := [16]) (by kernel_rfl) (by simp) ?_
       refine AllReadyH.cons (o := ?od146) ?hod146 (fun K hK => ?kd146) ?md146
       case hod146 => (simp only [List.getElem?_toArray, List.getElem?_cons_succ, List.getElem?_cons_zero]; exact rfl)
       case kd146 =>
        go_simp
        obtain ⟨X1, hX1⟩ : ∃ X1, X1 = X.drew.alloc (.cells #[sv T9] 9) := ⟨_, rfl⟩
        rw [show (X.alloc (.cells #[sv T9] 9)).drew = X1 from hX1.symm]
        obtain ⟨hbx, hwx, hnx, hvx, hkx, hrx, hbXs, hrrx⟩ := HX.out X1 hX1
        have HBX := Lib.hid hbx
        have HWX := Lib.hid hwx
        have HNX := Lib.hid hnx
        have HVX := Lib.hid hvx
        have HKX := Lib.hid hkx
        have HRX := Lib.hid hrx
        have HRRX := Lib.hid hrrx
        have c4 : X1.cell? ⟨g, 4, none⟩ = some (.slice AV nV cV) := hbx.cell 4
        clear hX1 hbx hwx hnx hvx hkx hrx hlit hrrx
        refine hK.out _ _ ?_ (fun hHeld => ?_)
        ·
         exact ⟨AV, nV, cV, HBX.out, HWX.out⟩
        clear hK K
        try simp only [Act.put, List.setIfInBounds_toArray, List.set_cons_zero, List.set_cons_succ]
        refine wpAnyH_ready (rs := [17]) (by kernel_rfl) (by simp) ?_
        refine AllReadyH.cons (o := ?od147) ?hod147 (fun K hK => ?kd147) ?md147
        case hod147 => (simp only [List.getElem?_toArray, List.getElem?_cons_succ, List.getElem?_cons_zero]; exact rfl)
        case kd147 =>
         refine anyd_appS (by rfl) (.tmp 46) (.tmp 58) (by rfl) base AV cV nV vars (by rfl) HVX.out _ _ 1 T9 (by rfl) HRX.out (by omega) hbXs ?_
         intro A' c' W2 ho2 hg2 hid2
         obtain ⟨hb2, hw2, hn2, hne2, hk2⟩ := rowGrown HBX.out HWX.out HVX.out HNX.out (fun b0 h1 h2 => HNE.out b0 h2 h1) hg2 hid2 hbXs
         have HO2 := Lib.hid ho2
         have HB2 := Lib.hid hb2
         have HW2 := Lib.hid hw2
         have HN2 := Lib.hid hn2
         have HNE2 := Lib.hid (show ∀ b0, (Value.slice AN nN cN).ownBlock = some b0 → (Value.slice A' (nV + 1) c').ownBlock ≠ some b0 from fun b0 h1 h2 => hne2 b0 h2 h1)
         have HK2 := Lib.hid (HKX.out.trans hk2)
         have HRR2 := Lib.hid (hk2.bk HRRX.out (by decide) hrg)
         have f4 : W2.frozen? ⟨g, 4, none⟩ = false := hb2.frozen 4
         have c4' : W2.cell? ⟨g, 4, none⟩ = some (.slice AV nV cV) := hb2.cell 4
         clear ho2 hg2 hid2 hb2 hw2 hn2 hne2 hk2
         refine hK.out _ _ ?_ (fun hHeld => ?_)
         ·
          exact ⟨AV, nV, cV, HB2.out, HW2.out⟩
         clear hK K
         try simp only [Act.put, List.setIfInBounds_toArray, List.set_cons_zero, List.set_cons_succ]
         refine wpAnyH_take (i := 18) (oi := ?p148) (v := ?v148) ?a148 (by kernel_rfl) ?b148 ?c148 ?q148 ?y148 hHeld ?z148
         case a148 => (simp only [List.getElem?_toArray, List.getElem?_cons_succ, List.getElem?_cons_zero]; exact rfl)
         case b148 => kernel_rfl
         case c148 => kernel_rfl
         case q148 => exact fun _ _ _ h => h
         case y148 =>
          refine Or.inl ⟨by rfl, ?_⟩
          intro V hSV
          go_simp
          (try with_reducible rfl)
         try simp only [Act.put, List.setIfInBounds_toArray, List.set_cons_zero, List.set_cons_succ]
         refine wpAnyH_take (i := 19) (oi := ?p149) (v := ?v149) ?a149 (by kernel_rfl) ?b149 ?c149 ?q149 ?y149 hHeld ?z149
         case a149 => (simp only [List.getElem?_toArray, List.getElem?_cons_succ, List.getElem?_cons_zero]; exact rfl)
         case b149 => kernel_rfl
         case c149 => kernel_rfl
         case q149 => exact fun _ _ _ h => h
         case y149 =>
          refine Or.inl ⟨by rfl, ?_⟩
          intro V hSV
          go_simp
          (try with_reducible rfl)
         try simp only [Act.put, List.setIfInBounds_toArray, List.set_cons_zero, List.set_cons_succ]
         refine wpAnyH_ready (rs := [20]) (by kernel_rfl) (by simp) ?_
         refine AllReadyH.cons (o := ?od150) ?hod150 (fun K hK => ?kd150) ?md150
         case hod150 => (simp only [List.getElem?_toArray, List.getElem?_cons_succ, List.getElem?_cons_zero]; exact rfl)
         case kd150 =>
          go_simp
          have ht3 : Only g W2 (W2.setCell ⟨g, 4, none⟩ (.slice A' (nV + 1) c')) := Turn.setCell (G := fun j => j = g) (Turn.refl _ W2) (fun _ => rfl) _
          have HBU := Lib.hid (show Bk (W2.setCell ⟨g, 4, none⟩ (.slice A' (nV + 1) c')) g PT (pzC (some ⟨b, o, none⟩) nW cW k sz AN nN cN A' (nV + 1) c' 0 a0) from HB2.out.set_ 4 _)
          have HWU := Lib.hid (own_only HW2.out HB2.out (by decide) ht3)
          have HVU := Lib.hid (own_only HO2.out HB2.out (by decide) ht3)
          have HNU := Lib.hid (own_only HN2.out HB2.out (by decide) ht3)
          have HKU := Lib.hid (HK2.out.trans (Kp.only ht3 hg HB2.out.lt))
          have HRU := Lib.hid (ht3.bk HRR2.out hrg)
          clear ht3 f4 c4'
          generalize W2.setCell ⟨g, 4, none⟩ (.slice A' (nV + 1) c') = X2 at HBU HWU HNU HVU HKU HRU ⊢
          refine hK.out _ _ ?_ (fun hHeld => ?_)
          ·
           exact ⟨A', nV + 1, c', HBU.out, HWU.out⟩
          clear hK K
          try simp only [Act.put, List.setIfInBounds_toArray, List.set_cons_zero, List.set_cons_succ]
          refine wpAnyH_done (by kernel_rfl) ?_ _
          clear hHeld HS0 HX HB1 HW1 HN1 HV1 HK1 HBX HWX HNX HVX HKX HRX HB2 HW2 HN2 HO2 HK2 c4 hbW hbXs hgl HRRX HRR2 HR1
          try clear hlit
          have c4 : X2.cell? ⟨g, 4, none⟩ = some (.slice A' (nV + 1) c') := HBU.out.cell 4
          rw [HT9.out] at HVU
          have HFO2 := Lib.hid (show findO (vars ++ [txE (ws.drop k)]) (txE (ws.drop k)) = some nV by rw [findO_append _ _ _ HFO.out, if_pos rfl, HVL.out])
          clear HFO
          have HFO := HFO2
          have HNE := HNE2
          clear HFO2 HNE2
          repeat (first | go_skip | go_guarded | go_step)
          have HWD := Lib.hid (show ∀ q, Calls Tryz.prog 61 #[.pointer (some ⟨g, 0, none⟩), .int .u8 2] (X2.drewN q) fun e w' => e = .returned (sv (txE (ws.drop k))) ∧ Only g X2 w' ∧ k ≤ nW ∧ Bk w' g PT (pzC (some ⟨b, o, none⟩) nW cW (k + 1) sz AN nN cN A' (nV + 1) c' 0 a0) ∧ (k + 1) ≤ nW from fun q => by
           refine (pWord_any 2 base ws (X2.drewN q) HBU.out HWU.out hk (by omega) (by omega)).mono ?_
           rintro e w' ⟨ht, hd⟩
           have ht' : Only g X2 w' := Turn.trans (Turn.ofBelow (G := fun j => j = g) (belowDrews (Below.refl _ X2) q)) ht
           rcases hd with ⟨h1, h2, h3, h4, h5⟩ | ⟨h1, h2, h3, h4⟩ | ⟨h1, h3, h4⟩
           ·
            exact ⟨h3, ht', hk, h5, h4⟩
           ·
            exact absurd HKN.out h2
           ·
            exact absurd rfl h1)
          obtain ⟨T, hT⟩ : ∃ T : ByteArray, T = (txE (ws.drop k)) := ⟨_, rfl⟩
          rw [← hT] at HWD
          have HTX := Lib.hid hT
          clear hT
          have HZ := Lib.hid (show findZ (vars ++ [txE (ws.drop k)]) T = (nV : Int) by unfold findZ; rw [HTX.out, HFO.out])
          have hwr : IntKind.u32.wrap (nV : Int) = (nV : Int) := by rw [IntKind.wrap_u32] <;> omega
          refine wp_region_held_drew (S := fun V => V.cell? ⟨g, 4, none⟩ = some (.slice A' (nV + 1) c')) (by kernel_rfl) ?_ (fun hHeld => ?_)
          ·
           exact c4
          refine wpAnyH_take (i := 0) (oi := ?p151) (v := ?v151) ?a151 (by kernel_rfl) ?b151 ?c151 ?q151 ?y151 hHeld ?z151
          case a151 => (simp only [List.getElem?_toArray, List.getElem?_cons_succ, List.getElem?_cons_zero]; exact rfl)
          case b151 => kernel_rfl
          case c151 => kernel_rfl
          case q151 => exact fun _ _ _ h => h
          case y151 =>
           refine Or.inl ⟨by rfl, ?_⟩
           intro V hSV
           go_simp
           (try with_reducible rfl)
          try simp only [Act.put, List.setIfInBounds_toArray, List.set_cons_zero, List.set_cons_succ]
          refine wpAnyH_take (i := 1) (oi := ?p152) (v := ?v152) ?a152 (by kernel_rfl) ?b152 ?c152 ?q152 ?y152 hHeld ?z152
          case a152 => (simp only [List.getElem?_toArray, List.getElem?_cons_succ, List.getElem?_cons_zero]; exact rfl)
          case b152 => kernel_rfl
          case c152 => kernel_rfl
          case q152 => exact fun _ _ _ h => h
          case y152 =>
           refine Or.inl ⟨by rfl, ?_⟩
           intro V hSV
           go_simp
           (try with_reducible rfl)
          try simp only [Act.put, List.setIfInBounds_toArray, List.set_cons_zero, List.set_cons_succ]
          refine wpAnyH_take (i := 2) (oi := ?p153) (v := ?v153) ?a153 (by kernel_rfl) ?b153 ?c153 ?q153 ?y153 hHeld ?z153
          case a153 => (simp only [List.getElem?_toArray, List.getElem?_cons_succ, List.getElem?_cons_zero]; exact rfl)
          case b153 => kernel_rfl
          case c153 => kernel_rfl
          case q153 => exact fun _ _ _ h => h
          case y153 =>
           refine Or.inl ⟨by rfl, ?_⟩
           intro V hSV
           go_simp
           (try with_reducible rfl)
          try simp only [Act.put, List.setIfInBounds_toArray, List.set_cons_zero, List.set_cons_succ]
          refine wpAnyH_take (i := 3) (oi := ?p154) (v := ?v154) ?a154 (by kernel_rfl) ?b154 ?c154 ?q154 ?y154 hHeld ?z154
          case a154 => (simp only [List.getElem?_toArray, List.getElem?_cons_succ, List.getElem?_cons_zero]; exact rfl)
          case b154 => kernel_rfl
          case c154 => kernel_rfl
          case q154 => exact fun _ _ _ h => h
          case y154 =>
           refine Or.inl ⟨by rfl, ?_⟩
           intro V hSV
           go_simp
           (try with_reducible rfl)
          try simp only [Act.put, List.setIfInBounds_toArray, List.set_cons_zero, List.set_cons_succ]
          refine wpAnyH_take (i := 4) (oi := ?p155) (v := ?v155) ?a155 (by kernel_rfl) ?b155 ?c155 ?q155 ?y155 hHeld ?z155
          case a155 => (simp only [List.getElem?_toArray, List.getElem?_cons_succ, List.getElem?_cons_zero]; exact rfl)
          case b155 => kernel_rfl
          case c155 => kernel_rfl
          case q155 => exact fun _ _ _ h => h
          case y155 =>
           refine Or.inl ⟨by rfl, ?_⟩
           intro V hSV
           go_simp
           (try with_reducible rfl)
          try simp only [Act.put, List.setIfInBounds_toArray, List.set_cons_zero, List.set_cons_succ]
          refine wpAnyH_ready (rs := [5]) (by kernel_rfl) (by simp) ?_
          refine AllReadyH.cons (o := ?od156) ?hod156 (fun K hK => ?kd156) ?md156
          case hod156 => (simp only [List.getElem?_toArray, List.getElem?_cons_succ, List.getElem?_cons_zero]; exact rfl)
          case kd156 =>
           go_simp
           refine (HWD.out 1).mono ?_
           rintro e V ⟨rfl, ht2, _, hb2, hk2⟩
           have HT2 := Lib.hid ht2
           have HB2 := Lib.hid hb2
           have HIX2 := Lib.hid (pIndex_any A' (nV + 1) c' (vars ++ [txE (ws.drop k)]) T V (Rd.ofOwn (own_only HVU.out HBU.out (by decide) ht2)) (by omega))
           rw [HZ.out] at HIX2
           have HR2 := Lib.hid (ht2.bk HRU.out hrg)
           have q0 : V.cell? ⟨rr, 0, none⟩ = some (.bool false) := HR2.out.cell 0
           have q1 : V.cell? ⟨rr, 1, none⟩ = some (.int .u32 0) := HR2.out.cell 1
           have q2 : V.frozen? ⟨rr, 0, none⟩ = false := HR2.out.frozen 0
           have q3 : V.frozen? ⟨rr, 1, none⟩ = false := HR2.out.frozen 1
           clear ht2 hb2
           (try dsimp only)
           refine hK.out _ _ ?_ (fun hHeld => ?_)
           ·
            exact HB2.out.cell 4
           clear hK K
           try simp only [Act.put, List.setIfInBounds_toArray, List.set_cons_zero, List.set_cons_succ]
           refine wpAnyH_ready (rs := [6]) (by kernel_rfl) (by simp) ?_
           refine AllReadyH.cons (o := ?od157) ?hod157 (fun K hK => ?kd157) ?md157
           case hod157 => (simp only [List.getElem?_toArray, List.getElem?_cons_succ, List.getElem?_cons_zero]; exact rfl)
           case kd157 =>
            go_simp
            refine HIX2.out.mono ?_
            rintro e V2 ⟨rfl, rfl⟩
            (try dsimp only)
            refine hK.out _ _ ?_ (fun hHeld => ?_)
            ·
             exact HB2.out.cell 4
            clear hK K
            try simp only [Act.put, List.setIfInBounds_toArray, List.set_cons_zero, List.set_cons_succ]
            refine wpAnyH_take (i := 7) (oi := ?p158) (v := ?v158) ?a158 (by kernel_rfl) ?b158 ?c158 ?q158 ?y158 hHeld ?z158
            case a158 => (simp only [List.getElem?_toArray, List.getElem?_cons_succ, List.getElem?_cons_zero]; exact rfl)
            case b158 => kernel_rfl
            case c158 => kernel_rfl
            case q158 => exact fun _ _ _ h => h
            case y158 =>
             refine Or.inl ⟨by rfl, ?_⟩
             intro V hSV
             go_simp
             (try with_reducible rfl)
            try simp only [Act.put, List.setIfInBounds_toArray, List.set_cons_zero, List.set_cons_succ]
            refine wpAnyH_take (i := 8) (oi := ?p159) (v := ?v159) ?a159 (by kernel_rfl) ?b159 ?c159 ?q159 ?y159 hHeld ?z159
            case a159 => (simp only [List.getElem?_toArray, List.getElem?_cons_succ, List.getElem?_cons_zero]; exact rfl)
            case b159 => kernel_rfl
            case c159 => kernel_rfl
            case q159 => exact fun _ _ _ h => h
            case y159 =>
             refine Or.inl ⟨by rfl, ?_⟩
             intro V hSV
             go_simp
             (try with_reducible rfl)
            try simp only [Act.put, List.setIfInBounds_toArray, List.set_cons_zero, List.set_cons_succ]
            refine wpAnyH_take (i := 9) (oi := ?p160) (v := ?v160) ?a160 (by kernel_rfl) ?b160 ?c160 ?q160 ?y160 hHeld ?z160
            case a160 => (simp only [List.getElem?_toArray, List.getElem?_cons_succ, List.getElem?_cons_zero]; exact rfl)
            case b160 => kernel_rfl
            case c160 => kernel_rfl
            case q160 => exact fun _ _ _ h => h
            case y160 =>
             refine Or.inl ⟨by rfl, ?_⟩
             intro V hSV
             go_simp
             (try with_reducible rfl)
            try simp only [Act.put, List.setIfInBounds_toArray, List.set_cons_zero, List.set_cons_succ]
            refine wpAnyH_ready (rs := [10]) (by kernel_rfl) (by simp) ?_
            refine AllReadyH.cons (o := ?od161) ?hod161 (fun K hK => ?kd161) ?md161
            case hod161 => (simp only [List.getElem?_toArray, List.getElem?_cons_succ, List.getElem?_cons_zero]; exact rfl)
            case kd161 =>
             go_simp
             refine hK.out _ _ ?_ (fun hHeld => ?_)
             ·
              exact ((only_set2 (w := V) (r := rr) _ _).bk HB2.out hrg.symm).cell 4
             clear hK K
             try simp only [Act.put, List.setIfInBounds_toArray, List.set_cons_zero, List.set_cons_succ]
             refine wpAnyH_done (by kernel_rfl) ?_ _
             clear hHeld
             repeat (first | go_skip | go_guarded | go_step)
             (try simp only [Exit.inBlock, Exit.then])
             refine bodyPost_ret (results_cell_row rfl _ _ rr _ _ _ _ rfl (term_end HR2.out _ _) Tryz.underlying46 rfl (by kernel_rfl)) rfl ?_
             exact ⟨(true, UInt32.ofNat nV), by first | rfl | rw [nvOf (by omega)] | (rw [nvOf (by omega)]; rfl) | (rw [nvOf (by omega)]; simp), PSt.far (mkSt (x := goE _ (termE sz)) hg HBU.out HB2.out HWU.out HNU.out HVU.out HNE.out hk2 hW hN (by omega) HT2.out (by rw [goE_ok HNM.out]; exact ⟨rfl, rfl⟩)) HR2.out (by decide) (by decide) (by decide) (only_set2 _ _), (by have := HNM.out; exact ans_ok this), (HKU.out.trans (Kp.only HT2.out hg HBU.out.lt)).fresh (only_set2 _ _) hrw hrb HR2.out.lt⟩
            exact AllReadyH.nil
           exact AllReadyH.nil
          exact AllReadyH.nil
         exact AllReadyH.nil
        exact AllReadyH.nil
       exact AllReadyH.nil
      refine AllReadyH.cons (o := ?od162) ?hod162 (fun K hK => ?kd162) ?md162
      case hod162 => (simp only [List.getElem?_toArray, List.getElem?_cons_succ, List.getElem?_cons_zero]; exact rfl)
      case kd162 =>
       go_simp
       obtain ⟨X1, hX1⟩ : ∃ X1, X1 = X.drew.alloc (.cells #[sv T9] 9) := ⟨_, rfl⟩
       rw [show (X.alloc (.cells #[sv T9] 9)).drew = X1 from hX1.symm]
       obtain ⟨hbx, hwx, hnx, hvx, hkx, hrx, hbXs, hrrx⟩ := HX.out X1 hX1
       have HBX := Lib.hid hbx
       have HWX := Lib.hid hwx
       have HNX := Lib.hid hnx
       have HVX := Lib.hid hvx
       have HKX := Lib.hid hkx
       have HRX := Lib.hid hrx
       have HRRX := Lib.hid hrrx
       have c4 : X1.cell? ⟨g, 4, none⟩ = some (.slice AV nV cV) := hbx.cell 4
       clear hX1 hbx hwx hnx hvx hkx hrx hlit hrrx
       refine hK.out _ _ ?_ (fun hHeld => ?_)
       ·
        exact ⟨AV, nV, cV, HBX.out, HWX.out⟩
       clear hK K
       try simp only [Act.put, List.setIfInBounds_toArray, List.set_cons_zero, List.set_cons_succ]
       refine wpAnyH_ready (rs := [4]) (by kernel_rfl) (by simp) ?_
       refine AllReadyH.cons (o := ?od163) ?hod163 (fun K hK => ?kd163) ?md163
       case hod163 => (simp only [List.getElem?_toArray, List.getElem?_cons_succ, List.getElem?_cons_zero]; exact rfl)
       case kd163 =>
        go_simp
        refine hK.out _ _ ?_ (fun hHeld => ?_)
        ·
         exact hHeld
        clear hK K
        try simp only [Act.put, List.setIfInBounds_toArray, List.set_cons_zero, List.set_cons_succ]
        refine wpAnyH_ready (rs := [17]) (by kernel_rfl) (by simp) ?_
        refine AllReadyH.cons (o := ?od164) ?hod164 (fun K hK => ?kd164) ?md164
        case hod164 => (simp only [List.getElem?_toArray, List.getElem?_cons_succ, List.getElem?_cons_zero]; exact rfl)
        case kd164 =>
         refine anyd_appS (by rfl) (.tmp 46) (.tmp 58) (by rfl) base AV cV nV vars (by rfl) HVX.out _ _ 1 T9 (by rfl) HRX.out (by omega) hbXs ?_
         intro A' c' W2 ho2 hg2 hid2
         obtain ⟨hb2, hw2, hn2, hne2, hk2⟩ := rowGrown HBX.out HWX.out HVX.out HNX.out (fun b0 h1 h2 => HNE.out b0 h2 h1) hg2 hid2 hbXs
         have HO2 := Lib.hid ho2
         have HB2 := Lib.hid hb2
         have HW2 := Lib.hid hw2
         have HN2 := Lib.hid hn2
         have HNE2 := Lib.hid (show ∀ b0, (Value.slice AN nN cN).ownBlock = some b0 → (Value.slice A' (nV + 1) c').ownBlock ≠ some b0 from fun b0 h1 h2 => hne2 b0 h2 h1)
         have HK2 := Lib.hid (HKX.out.trans hk2)
         have HRR2 := Lib.hid (hk2.bk HRRX.out (by decide) hrg)
         have f4 : W2.frozen? ⟨g, 4, none⟩ = false := hb2.frozen 4
         have c4' : W2.cell? ⟨g, 4, none⟩ = some (.slice AV nV cV) := hb2.cell 4
         clear ho2 hg2 hid2 hb2 hw2 hn2 hne2 hk2
         refine hK.out _ _ ?_ (fun hHeld => ?_)
         ·
          exact ⟨AV, nV, cV, HB2.out, HW2.out⟩
         clear hK K
         try simp only [Act.put, List.setIfInBounds_toArray, List.set_cons_zero, List.set_cons_succ]
         refine wpAnyH_take (i := 18) (oi := ?p165) (v := ?v165) ?a165 (by kernel_rfl) ?b165 ?c165 ?q165 ?y165 hHeld ?z165
         case a165 => (simp only [List.getElem?_toArray, List.getElem?_cons_succ, List.getElem?_cons_zero]; exact rfl)
         case b165 => kernel_rfl
         case c165 => kernel_rfl
         case q165 => exact fun _ _ _ h => h
         case y165 =>
          refine Or.inl ⟨by rfl, ?_⟩
          intro V hSV
          go_simp
          (try with_reducible rfl)
         try simp only [Act.put, List.setIfInBounds_toArray, List.set_cons_zero, List.set_cons_succ]
         refine wpAnyH_take (i := 19) (oi := ?p166) (v := ?v166) ?a166 (by kernel_rfl) ?b166 ?c166 ?q166 ?y166 hHeld ?z166
         case a166 => (simp only [List.getElem?_toArray, List.getElem?_cons_succ, List.getElem?_cons_zero]; exact rfl)
         case b166 => kernel_rfl
         case c166 => kernel_rfl
         case q166 => exact fun _ _ _ h => h
         case y166 =>
          refine Or.inl ⟨by rfl, ?_⟩
          intro V hSV
          go_simp
          (try with_reducible rfl)
         try simp only [Act.put, List.setIfInBounds_toArray, List.set_cons_zero, List.set_cons_succ]
         refine wpAnyH_ready (rs := [20]) (by kernel_rfl) (by simp) ?_
         refine AllReadyH.cons (o := ?od167) ?hod167 (fun K hK => ?kd167) ?md167
         case hod167 => (simp only [List.getElem?_toArray, List.getElem?_cons_succ, List.getElem?_cons_zero]; exact rfl)
         case kd167 =>
          go_simp
          have ht3 : Only g W2 (W2.setCell ⟨g, 4, none⟩ (.slice A' (nV + 1) c')) := Turn.setCell (G := fun j => j = g) (Turn.refl _ W2) (fun _ => rfl) _
          have HBU := Lib.hid (show Bk (W2.setCell ⟨g, 4, none⟩ (.slice A' (nV + 1) c')) g PT (pzC (some ⟨b, o, none⟩) nW cW k sz AN nN cN A' (nV + 1) c' 0 a0) from HB2.out.set_ 4 _)
          have HWU := Lib.hid (own_only HW2.out HB2.out (by decide) ht3)
          have HVU := Lib.hid (own_only HO2.out HB2.out (by decide) ht3)
          have HNU := Lib.hid (own_only HN2.out HB2.out (by decide) ht3)
          have HKU := Lib.hid (HK2.out.trans (Kp.only ht3 hg HB2.out.lt))
          have HRU := Lib.hid (ht3.bk HRR2.out hrg)
          clear ht3 f4 c4'
          generalize W2.setCell ⟨g, 4, none⟩ (.slice A' (nV + 1) c') = X2 at HBU HWU HNU HVU HKU HRU ⊢
          refine hK.out _ _ ?_ (fun hHeld => ?_)
          ·
           exact ⟨A', nV + 1, c', HBU.out, HWU.out⟩
          clear hK K
          try simp only [Act.put, List.setIfInBounds_toArray, List.set_cons_zero, List.set_cons_succ]
          refine wpAnyH_done (by kernel_rfl) ?_ _
          clear hHeld HS0 HX HB1 HW1 HN1 HV1 HK1 HBX HWX HNX HVX HKX HRX HB2 HW2 HN2 HO2 HK2 c4 hbW hbXs hgl HRRX HRR2 HR1
          try clear hlit
          have c4 : X2.cell? ⟨g, 4, none⟩ = some (.slice A' (nV + 1) c') := HBU.out.cell 4
          rw [HT9.out] at HVU
          have HFO2 := Lib.hid (show findO (vars ++ [txE (ws.drop k)]) (txE (ws.drop k)) = some nV by rw [findO_append _ _ _ HFO.out, if_pos rfl, HVL.out])
          clear HFO
          have HFO := HFO2
          have HNE := HNE2
          clear HFO2 HNE2
          repeat (first | go_skip | go_guarded | go_step)
          have HWD := Lib.hid (show ∀ q, Calls Tryz.prog 61 #[.pointer (some ⟨g, 0, none⟩), .int .u8 2] (X2.drewN q) fun e w' => e = .returned (sv (txE (ws.drop k))) ∧ Only g X2 w' ∧ k ≤ nW ∧ Bk w' g PT (pzC (some ⟨b, o, none⟩) nW cW (k + 1) sz AN nN cN A' (nV + 1) c' 0 a0) ∧ (k + 1) ≤ nW from fun q => by
           refine (pWord_any 2 base ws (X2.drewN q) HBU.out HWU.out hk (by omega) (by omega)).mono ?_
           rintro e w' ⟨ht, hd⟩
           have ht' : Only g X2 w' := Turn.trans (Turn.ofBelow (G := fun j => j = g) (belowDrews (Below.refl _ X2) q)) ht
           rcases hd with ⟨h1, h2, h3, h4, h5⟩ | ⟨h1, h2, h3, h4⟩ | ⟨h1, h3, h4⟩
           ·
            exact ⟨h3, ht', hk, h5, h4⟩
           ·
            exact absurd HKN.out h2
           ·
            exact absurd rfl h1)
          obtain ⟨T, hT⟩ : ∃ T : ByteArray, T = (txE (ws.drop k)) := ⟨_, rfl⟩
          rw [← hT] at HWD
          have HTX := Lib.hid hT
          clear hT
          have HZ := Lib.hid (show findZ (vars ++ [txE (ws.drop k)]) T = (nV : Int) by unfold findZ; rw [HTX.out, HFO.out])
          have hwr : IntKind.u32.wrap (nV : Int) = (nV : Int) := by rw [IntKind.wrap_u32] <;> omega
          refine wp_region_held_drew (S := fun V => V.cell? ⟨g, 4, none⟩ = some (.slice A' (nV + 1) c')) (by kernel_rfl) ?_ (fun hHeld => ?_)
          ·
           exact c4
          refine wpAnyH_take (i := 0) (oi := ?p168) (v := ?v168) ?a168 (by kernel_rfl) ?b168 ?c168 ?q168 ?y168 hHeld ?z168
          case a168 => (simp only [List.getElem?_toArray, List.getElem?_cons_succ, List.getElem?_cons_zero]; exact rfl)
          case b168 => kernel_rfl
          case c168 => kernel_rfl
          case q168 => exact fun _ _ _ h => h
          case y168 =>
           refine Or.inl ⟨by rfl, ?_⟩
           intro V hSV
           go_simp
           (try with_reducible rfl)
          try simp only [Act.put, List.setIfInBounds_toArray, List.set_cons_zero, List.set_cons_succ]
          refine wpAnyH_take (i := 1) (oi := ?p169) (v := ?v169) ?a169 (by kernel_rfl) ?b169 ?c169 ?q169 ?y169 hHeld ?z169
          case a169 => (simp only [List.getElem?_toArray, List.getElem?_cons_succ, List.getElem?_cons_zero]; exact rfl)
          case b169 => kernel_rfl
          case c169 => kernel_rfl
          case q169 => exact fun _ _ _ h => h
          case y169 =>
           refine Or.inl ⟨by rfl, ?_⟩
           intro V hSV
           go_simp
           (try with_reducible rfl)
          try simp only [Act.put, List.setIfInBounds_toArray, List.set_cons_zero, List.set_cons_succ]
          refine wpAnyH_take (i := 2) (oi := ?p170) (v := ?v170) ?a170 (by kernel_rfl) ?b170 ?c170 ?q170 ?y170 hHeld ?z170
          case a170 => (simp only [List.getElem?_toArray, List.getElem?_cons_succ, List.getElem?_cons_zero]; exact rfl)
          case b170 => kernel_rfl
          case c170 => kernel_rfl
          case q170 => exact fun _ _ _ h => h
          case y170 =>
           refine Or.inl ⟨by rfl, ?_⟩
           intro V hSV
           go_simp
           (try with_reducible rfl)
          try simp only [Act.put, List.setIfInBounds_toArray, List.set_cons_zero, List.set_cons_succ]
          refine wpAnyH_take (i := 3) (oi := ?p171) (v := ?v171) ?a171 (by kernel_rfl) ?b171 ?c171 ?q171 ?y171 hHeld ?z171
          case a171 => (simp only [List.getElem?_toArray, List.getElem?_cons_succ, List.getElem?_cons_zero]; exact rfl)
          case b171 => kernel_rfl
          case c171 => kernel_rfl
          case q171 => exact fun _ _ _ h => h
          case y171 =>
           refine Or.inl ⟨by rfl, ?_⟩
           intro V hSV
           go_simp
           (try with_reducible rfl)
          try simp only [Act.put, List.setIfInBounds_toArray, List.set_cons_zero, List.set_cons_succ]
          refine wpAnyH_take (i := 4) (oi := ?p172) (v := ?v172) ?a172 (by kernel_rfl) ?b172 ?c172 ?q172 ?y172 hHeld ?z172
          case a172 => (simp only [List.getElem?_toArray, List.getElem?_cons_succ, List.getElem?_cons_zero]; exact rfl)
          case b172 => kernel_rfl
          case c172 => kernel_rfl
          case q172 => exact fun _ _ _ h => h
          case y172 =>
           refine Or.inl ⟨by rfl, ?_⟩
           intro V hSV
           go_simp
           (try with_reducible rfl)
          try simp only [Act.put, List.setIfInBounds_toArray, List.set_cons_zero, List.set_cons_succ]
          refine wpAnyH_ready (rs := [5]) (by kernel_rfl) (by simp) ?_
          refine AllReadyH.cons (o := ?od173) ?hod173 (fun K hK => ?kd173) ?md173
          case hod173 => (simp only [List.getElem?_toArray, List.getElem?_cons_succ, List.getElem?_cons_zero]; exact rfl)
          case kd173 =>
           go_simp
           refine (HWD.out 1).mono ?_
           rintro e V ⟨rfl, ht2, _, hb2, hk2⟩
           have HT2 := Lib.hid ht2
           have HB2 := Lib.hid hb2
           have HIX2 := Lib.hid (pIndex_any A' (nV + 1) c' (vars ++ [txE (ws.drop k)]) T V (Rd.ofOwn (own_only HVU.out HBU.out (by decide) ht2)) (by omega))
           rw [HZ.out] at HIX2
           have HR2 := Lib.hid (ht2.bk HRU.out hrg)
           have q0 : V.cell? ⟨rr, 0, none⟩ = some (.bool false) := HR2.out.cell 0
           have q1 : V.cell? ⟨rr, 1, none⟩ = some (.int .u32 0) := HR2.out.cell 1
           have q2 : V.frozen? ⟨rr, 0, none⟩ = false := HR2.out.frozen 0
           have q3 : V.frozen? ⟨rr, 1, none⟩ = false := HR2.out.frozen 1
           clear ht2 hb2
           (try dsimp only)
           refine hK.out _ _ ?_ (fun hHeld => ?_)
           ·
            exact HB2.out.cell 4
           clear hK K
           try simp only [Act.put, List.setIfInBounds_toArray, List.set_cons_zero, List.set_cons_succ]
           refine wpAnyH_ready (rs := [6]) (by kernel_rfl) (by simp) ?_
           refine AllReadyH.cons (o := ?od174) ?hod174 (fun K hK => ?kd174) ?md174
           case hod174 => (simp only [List.getElem?_toArray, List.getElem?_cons_succ, List.getElem?_cons_zero]; exact rfl)
           case kd174 =>
            go_simp
            refine HIX2.out.mono ?_
            rintro e V2 ⟨rfl, rfl⟩
            (try dsimp only)
            refine hK.out _ _ ?_ (fun hHeld => ?_)
            ·
             exact HB2.out.cell 4
            clear hK K
            try simp only [Act.put, List.setIfInBounds_toArray, List.set_cons_zero, List.set_cons_succ]
            refine wpAnyH_take (i := 7) (oi := ?p175) (v := ?v175) ?a175 (by kernel_rfl) ?b175 ?c175 ?q175 ?y175 hHeld ?z175
            case a175 => (simp only [List.getElem?_toArray, List.getElem?_cons_succ, List.getElem?_cons_zero]; exact rfl)
            case b175 => kernel_rfl
            case c175 => kernel_rfl
            case q175 => exact fun _ _ _ h => h
            case y175 =>
             refine Or.inl ⟨by rfl, ?_⟩
             intro V hSV
             go_simp
             (try with_reducible rfl)
            try simp only [Act.put, List.setIfInBounds_toArray, List.set_cons_zero, List.set_cons_succ]
            refine wpAnyH_take (i := 8) (oi := ?p176) (v := ?v176) ?a176 (by kernel_rfl) ?b176 ?c176 ?q176 ?y176 hHeld ?z176
            case a176 => (simp only [List.getElem?_toArray, List.getElem?_cons_succ, List.getElem?_cons_zero]; exact rfl)
            case b176 => kernel_rfl
            case c176 => kernel_rfl
            case q176 => exact fun _ _ _ h => h
            case y176 =>
             refine Or.inl ⟨by rfl, ?_⟩
             intro V hSV
             go_simp
             (try with_reducible rfl)
            try simp only [Act.put, List.setIfInBounds_toArray, List.set_cons_zero, List.set_cons_succ]
            refine wpAnyH_take (i := 9) (oi := ?p177) (v := ?v177) ?a177 (by kernel_rfl) ?b177 ?c177 ?q177 ?y177 hHeld ?z177
            case a177 => (simp only [List.getElem?_toArray, List.getElem?_cons_succ, List.getElem?_cons_zero]; exact rfl)
            case b177 => kernel_rfl
            case c177 => kernel_rfl
            case q177 => exact fun _ _ _ h => h
            case y177 =>
             refine Or.inl ⟨by rfl, ?_⟩
             intro V hSV
             go_simp
             (try with_reducible rfl)
            try simp only [Act.put, List.setIfInBounds_toArray, List.set_cons_zero, List.set_cons_succ]
            refine wpAnyH_ready (rs := [10]) (by kernel_rfl) (by simp) ?_
            refine AllReadyH.cons (o := ?od178) ?hod178 (fun K hK => ?kd178) ?md178
            case hod178 => (simp only [List.getElem?_toArray, List.getElem?_cons_succ, List.getElem?_cons_zero]; exact rfl)
            case kd178 =>
             go_simp
             refine hK.out _ _ ?_ (fun hHeld => ?_)
             ·
              exact ((only_set2 (w := V) (r := rr) _ _).bk HB2.out hrg.symm).cell 4
             clear hK K
             try simp only [Act.put, List.setIfInBounds_toArray, List.set_cons_zero, List.set_cons_succ]
             refine wpAnyH_done (by kernel_rfl) ?_ _
             clear hHeld
             repeat (first | go_skip | go_guarded | go_step)
             (try simp only [Exit.inBlock, Exit.then])
             refine bodyPost_ret (results_cell_row rfl _ _ rr _ _ _ _ rfl (term_end HR2.out _ _) Tryz.underlying46 rfl (by kernel_rfl)) rfl ?_
             exact ⟨(true, UInt32.ofNat nV), by first | rfl | rw [nvOf (by omega)] | (rw [nvOf (by omega)]; rfl) | (rw [nvOf (by omega)]; simp), PSt.far (mkSt (x := goE _ (termE sz)) hg HBU.out HB2.out HWU.out HNU.out HVU.out HNE.out hk2 hW hN (by omega) HT2.out (by rw [goE_ok HNM.out]; exact ⟨rfl, rfl⟩)) HR2.out (by decide) (by decide) (by decide) (only_set2 _ _), (by have := HNM.out; exact ans_ok this), (HKU.out.trans (Kp.only HT2.out hg HBU.out.lt)).fresh (only_set2 _ _) hrw hrb HR2.out.lt⟩
            exact AllReadyH.nil
           exact AllReadyH.nil
          exact AllReadyH.nil
         exact AllReadyH.nil
        exact AllReadyH.nil
       exact AllReadyH.nil
      exact AllReadyH.nil
     exact AllReadyH.nil
 ·
  have dk : ((kk : Int) != 2) = true := by rw [bne_iff_ne]; omega
  have HKN := Lib.hid (show kindE (ws.drop k) ≠ 2 by rw [← HKK.out]; exact h2)
  have HTE := Lib.hid (show ∀ s, x = .ok s → termE sz s = bindE (nameE sz s) fun i s1 => .ok ((false, UInt32.ofNat i), s1) from fun s hs => by
   subst hs
   obtain ⟨_, rfl⟩ := HST.out
   unfold termE
   dsimp only
   rw [if_neg HKN.out])
  clear h2 HB HW HN HV c0 c1 c4 c5 HRV
  repeat (first | go_skip | go_guarded | go_step)
  refine (pName_any base g ws sz x U2 HP.out).mono ?_
  rintro e V ⟨n, rfl, hn32, hp2, ha2, hk2⟩
  have hr2 := hk2.bk HR.out (by decide) hrg
  have HP2 := Lib.hid hp2
  have HA2 := Lib.hid ha2
  have HK2 := Lib.hid (HK.out.trans hk2)
  have HR2 := Lib.hid hr2
  have q0 : V.cell? ⟨rr, 0, none⟩ = some (.bool false) := hr2.cell 0
  have q1 : V.cell? ⟨rr, 1, none⟩ = some (.int .u32 0) := hr2.cell 1
  have q2 : V.frozen? ⟨rr, 0, none⟩ = false := hr2.frozen 0
  have q3 : V.frozen? ⟨rr, 1, none⟩ = false := hr2.frozen 1
  clear hp2 ha2 hk2 hr2
  dsimp only
  repeat (first | go_skip | go_guarded | go_step)
  (try simp only [Exit.inBlock, Exit.then])
  refine bodyPost_ret (results_cell_row rfl _ _ rr _ _ _ _ rfl (term_end HR2.out _ _) Tryz.underlying46 rfl (by kernel_rfl)) rfl ?_
  refine ⟨(false, UInt32.ofNat n), by first | rfl | rw [nvOf hn32] | (rw [nvOf hn32]; rfl) | (rw [nvOf hn32]; simp), ?_, ?_, HK2.out.fresh (only_set2 _ _) hrw hrb HR2.out.lt⟩
  ·
   refine PSt.far ?_ HR2.out (by decide) (by decide) (by decide) (only_set2 _ _)
   rw [show goE x (termE sz) = goE x (nameE sz) from by
    cases x with
    | error z => rfl
    | ok s =>
     unfold goE
     dsimp only
     rw [HTE.out s rfl]
     cases hq : nameE sz s with
     | error z => rfl
     | ok z => rfl]
   exact HP2.out
  ·
   intro s u s' hs hq
   rw [HTE.out s hs] at hq
   obtain ⟨i, s1, h1, h2⟩ := bindE_ok hq
   have := HA2.out s i s1 hs h1
   subst this
   cases h2
   rfl
end Go.Proofs.YtoigpbajefkpoaaGreatDoor

