/- Texts, packed: PbC -/
import Derived.Test.YtoigpbajefkpoaaGreatDoorPyJ
import Derived.Test.YtoigpbajefkpoaaGreatDoorPyE
import Derived.Deep.RegionHeld3
import Derived.StillTailTactics
import Derived.StillTail
import Derived.KernelRfl
set_option linter.unusedVariables false
set_option linter.unusedSimpArgs false
namespace Go.Proofs.YtoigpbajefkpoaaGreatDoor
open Go Go.RowKit

set_option maxRecDepth 100000 in
set_option maxHeartbeats 4000000 in
theorem sIndex_any (A : Option Addr) (n c : Nat) (l : List ByteArray) (s : ByteArray) (w : World) (hr : Rd w w.heap.size 1 A n (l.map sv)) (hn : n ≤ 1000000) :
  Calls Tryz.prog 125 #[.slice A n c, sv s] w fun e w' => e = .returned (.int .i64 (findZ l s)) ∧ w = w' := by
 have HL := Lib.hid (show l.length = n by simpa using hr.len1)
 have HR := Lib.hid hr
 clear hr
 go_enter Tryz.func125, Tryz.ntmps125
 repeat (first | go_skip | go_guarded | go_step)
 go_loop [8] (fun p => ∃ i : Nat, i ≤ n ∧ p = .int .i64 (i : Int) ∧ ∀ (j : Nat) (x : ByteArray), j < i → l[j]? = some x → x ≠ s) (fun p => n - (intOf p).toNat)
 case atStart => exact ⟨0, by omega, rfl, fun j x hj => absurd hj (by omega)⟩
 case round =>
  obtain ⟨i, hi, rfl, hne⟩ := hrel
  have HNE := Lib.hid hne
  clear hne
  by_cases hlt : i < n
  ·
   have hci : (i : Int) < (n : Int) := by omega
   obtain ⟨b, o, u, hA, hbb, hu, hc⟩ := HR.out.at1 hlt
   subst hA
   obtain ⟨x, hx⟩ : ∃ x, l[i]? = some x := ⟨_, List.getElem?_eq_getElem (by rw [HL.out]; exact hlt)⟩
   rw [List.getElem?_map, hx] at hu
   simp only [Option.map_some, Option.some.injEq] at hu
   subst hu
   have HX := Lib.hid hx
   clear hx
   by_cases he : s = x
   ·
    subst he
    have HZ := Lib.hid (show findZ l s = (i : Int) by unfold findZ; rw [findO_some HX.out HNE.out])
    repeat (first | go_skip | go_guarded | go_step)
    go_ret
    exact ⟨by rw [HZ.out]; rfl, rfl⟩
   ·
    have hq := neS he
    have HE := Lib.hid (show x ≠ s from fun e => he e.symm)
    clear he
    repeat (first | go_skip | go_guarded | go_step)
    go_round
    case rel => exact ⟨i + 1, by omega, by go_num, fun j y hj hy => by
     rcases Nat.lt_succ_iff_lt_or_eq.1 hj with h1 | rfl
     ·
      exact HNE.out j y h1 hy
     ·
      rw [HX.out] at hy
      cases hy
      exact HE.out⟩
    case measure => simp [intOf] <;> omega
  ·
   obtain rfl : i = n := by omega
   have HZ := Lib.hid (show findZ l s = -1 by
    unfold findZ
    rw [findO_none (l := l) (s := s) fun j x hj e => HNE.out j x (by have := (List.getElem?_eq_some_iff.1 hj).1; rw [HL.out] at this; exact this) hj e])
   repeat (first | go_skip | go_guarded | go_step)
   go_ret
   exact ⟨by rw [HZ.out]; rfl, rfl⟩
theorem findO_app (l r : List ByteArray) (s : ByteArray) : findO (l ++ r) s = match findO l s with | some i => some i | none => (findO r s).map (· + l.length) := by
 unfold findO
 rw [List.findIdx?_append]
 cases h : List.findIdx? (fun x => decide (x = s)) l <;> rfl
section
variable {gt : Nat} {Ft : Nat → Prop} {l0 : List ByteArray} {sz wb : Nat} {F : Nat → Prop} {g : Nat} {s : PS} {w : World}
/-- The parser's two tables. -/
theorem LSt.open_ (h : LSt gt Ft l0 sz wb w F g s) : ∃ (gf : Nat) (Ff : Nat → Prop) (ns : List ByteArray), w.cell? ⟨g, 1, none⟩ = some (.pointer (some ⟨gt, 0, none⟩)) ∧ w.cell? ⟨g, 2, none⟩ = some (.pointer (some ⟨gf, 0, none⟩)) ∧ Tb w gf Ff ns ∧ s.2.1 = l0 ++ ns ∧
  (∀ k, Ff k → F k) ∧
  ∀ V Ff' ns', Tb V gf Ff' ns' → Turn Ff w V → (∀ k, Ff' k → Ff k ∨ w.heap.size ≤ k) → Gs (s.1, l0 ++ ns', s.2.2) → ∃ F', LSt gt Ft l0 sz wb V F' g (s.1, l0 ++ ns', s.2.2) ∧ Mv F F' w V := by
 obtain ⟨o, c, AV, nV, cV, gf, Ff, ns, h1, h2, h3, h4, h5, h6, h7, h8, rfl, h10, h11, h12⟩ := h
 refine ⟨gf, Ff, ns, h1.readT (Below.refl _ _) 1 rfl, h1.readT (Below.refl _ _) 2 rfl, h6, h7, fun k hk => .inr (.inl hk), ?_⟩
 intro V Ff' ns' hT hV hF hG
 have hg : ¬ Ff g := fun hf => by rcases h6.types hf h1 with e | e <;> exact absurd e (by decide)
 have hwb : ¬ Ff wb := fun hf => by
  obtain ⟨cs, fr, hb⟩ := h2.1
  rcases h6.types hf hb with e | e <;> exact absurd e (by decide)
 have hown : ∀ k, (Value.slice AV nV cV).ownBlock = some k → ¬ Ff k := fun k hk => (h11 k hk).1
 refine ⟨LFp g Ff' (.slice AV nV cV), ⟨o, c, AV, nV, cV, gf, Ff', ns', hV.bk h1 hg, h2.turn hV hwb, h3, h4, h5.turn hV (fun k hk hf => h10 k hf hk), hT, rfl, hV.own h8 hown, rfl, ?_, ?_, hG⟩, ⟨hV.mono (fun k _ hk => .inr (.inl hk)), ?_⟩⟩
 ·
  intro k hk
  rcases hF k hk with h | h
  ·
   exact h10 k h
  ·
   intro hf
   have := h5.lt k hf
   omega
 ·
  intro k hk
  refine ⟨fun hf => ?_, (h11 k hk).2⟩
  rcases hF k hf with h | h
  ·
   exact hown k hk h
  ·
   have := (World.ownsRow.lt h8 k hk).2
   omega
 ·
  rintro k (rfl | hk | hk)
  ·
   exact .inl (.inl rfl)
  ·
   rcases hF k hk with h | h
   ·
    exact .inl (.inr (.inl h))
   ·
    exact .inr h
  ·
   exact .inl (.inr (.inr hk))
/-- The parser's variables. -/
theorem LSt.openV (h : LSt gt Ft l0 sz wb w F g s) : ∃ (AV : Option Addr) (nV cV : Nat), w.cell? ⟨g, 3, none⟩ = some (.slice AV nV cV) ∧ w.frozen? ⟨g, 3, none⟩ = false ∧ OwS w 0 AV cV nV s.2.2 ∧ (Value.slice AV nV cV).ownBlock ≠ some g ∧ (∀ k, (k = g ∨ (Value.slice AV nV cV).ownBlock = some k) → F k) ∧
  ∀ V A' n' c' l', Turn (fun k => (Value.slice AV nV cV).ownBlock = some k) w V → OwS V 0 A' c' n' l' → (∀ k, (Value.slice A' n' c').ownBlock = some k → (Value.slice AV nV cV).ownBlock = some k ∨ w.heap.size ≤ k) → Gs (s.1, s.2.1, l') →
   ∃ F', LSt gt Ft l0 sz wb (V.setCell ⟨g, 3, none⟩ (.slice A' n' c')) F' g (s.1, s.2.1, l') ∧ Mv F F' w (V.setCell ⟨g, 3, none⟩ (.slice A' n' c')) := by
 obtain ⟨o, c, AV, nV, cV, gf, Ff, ns, h1, h2, h3, h4, h5, h6, h7, h8, rfl, h10, h11, h12⟩ := h
 have hg : (Value.slice AV nV cV).ownBlock ≠ some g := own_far h8 h1 (by decide)
 refine ⟨AV, nV, cV, h1.readT (Below.refl _ _) 3 rfl, h1.frozen 3, h8, hg, fun k hk => hk.elim (fun e => .inl e) (fun e => .inr (.inr e)), ?_⟩
 intro V A' n' c' l' hV hO hid hG
 have hwg : ¬ (wb = g) := fun e => by
  subst e
  obtain ⟨cs, fr, hb⟩ := h2.1
  have := hb.symm.trans h1
  simp only [Option.some.injEq, Obj.cells.injEq] at this
  exact absurd this.2.1 (by decide)
 have hwb : ¬ ((Value.slice AV nV cV).ownBlock = some wb) := fun e => by
  obtain ⟨cs, fr, hb⟩ := h2.1
  obtain ⟨cs', t, fr', hh, rfl⟩ := own_type h8 e
  have := hb.symm.trans hh
  simp only [Option.some.injEq, Obj.cells.injEq] at this
  exact absurd this.2.1 (by decide)
 have hb1 : Bk V g LT _ := hV.bk h1 hg
 have ht2 : Turn (fun k => k = g) V (V.setCell ⟨g, 3, none⟩ (.slice A' n' c')) := (Turn.refl (fun k => k = g) V).setCell (p := ⟨g, 3, none⟩) (fun _ => rfl) _
 have hall : Turn (fun k => k = g ∨ (Value.slice AV nV cV).ownBlock = some k) w (V.setCell ⟨g, 3, none⟩ (.slice A' n' c')) := (hV.mono (fun k _ hk => .inr hk)).then_ ht2 (fun k _ hk => .inl hk)
 have hgl := h1.lt
 refine ⟨LFp g Ff (.slice A' n' c'), ⟨o, c, A', n', c', gf, Ff, ns, hb1.set_ 3 _, h2.turn hall (fun e => e.elim hwg hwb), h3, h4, h5.turn hall (fun k hk e => ?_), h6.turn hall (fun k hk e => ?_), h7, ht2.own hO (fun k hk e => ?_), rfl, h10, ?_, hG⟩, ⟨hall.mono (fun k _ hk => hk.elim (fun e => .inl e) (fun e => .inr (.inr e))), ?_⟩⟩
 ·
  rcases e with e | e
  ·
   subst e
   rcases h5.types hk h1 with e | e <;> exact absurd e (by decide)
  ·
   exact (h11 k e).2 hk
 ·
  rcases e with e | e
  ·
   subst e
   rcases h6.types hk h1 with e | e <;> exact absurd e (by decide)
  ·
   exact (h11 k e).1 hk
 ·
  subst e
  rcases hid k hk with e | e
  ·
   exact hg e
  ·
   omega
 ·
  intro k hk
  rcases hid k hk with e | e
  ·
   exact h11 k e
  ·
   exact ⟨fun hf => by have := h6.lt k hf; omega, fun hf => by have := h5.lt k hf; omega⟩
 ·
  rintro k (rfl | hk | hk)
  ·
   exact .inl (.inl rfl)
  ·
   exact .inl (.inr (.inl hk))
  ·
   rcases hid k hk with e | e
   ·
    exact .inl (.inr (.inr e))
   ·
    exact .inr e
theorem LSt.clear (h : LSt gt Ft l0 sz wb w F g s) : w.cell? ⟨g, 3, none⟩ ≠ none ∧ w.frozen? ⟨g, 3, none⟩ = false ∧ ∃ F', LSt gt Ft l0 sz wb (w.setCell ⟨g, 3, none⟩ (.slice none 0 0)) F' g (s.1, s.2.1, []) ∧ Mv F F' w (w.setCell ⟨g, 3, none⟩ (.slice none 0 0)) := by
 have hgs := h.gs
 obtain ⟨AV, nV, cV, h1, h2, h3, h4, h4', h5⟩ := h.openV
 exact ⟨by rw [h1]; simp, h2, h5 w none 0 0 [] (Turn.refl _ _) (World.ownsRow_nil _ _ _ _) (fun k hk => by simp [Value.ownBlock] at hk) ⟨hgs.ws, hgs.good, List.nodup_nil, by simp⟩⟩

set_option maxRecDepth 100000 in
set_option maxHeartbeats 8000000 in
theorem number_any (x : Wd) (w : World) (h : LSt gt Ft l0 sz wb w F g s) (hx : NmW x) :
  Calls Tryz.prog 103 #[.pointer (some ⟨g, 0, none⟩), wdV x] w fun e w' => Fin gt Ft l0 sz wb F g w (numE x s) (fun i v _ => v = nv (UInt32.ofNat i) ∧ i < 4096) e w' := by
 have H := Lib.hid h
 have HX := Lib.hid hx
 have HSZ := Lib.hid (show (⟨x.2.1.toArray⟩ : ByteArray).size ≤ 32 by have := hx.2; unfold mayB at this; simp only [Bool.and_eq_true, decide_eq_true_eq] at this; omega)
 have HG1 := Lib.hid (show l0.length ≤ 4096 by
  obtain ⟨gf, Ff, ns, q1, q2, q3, q4, q5, q6⟩ := h.open_
  have := h.gs.good.len
  rw [q4] at this
  simp at this
  omega)
 clear h hx
 go_enter Tryz.func103, Tryz.ntmps103
 go_upto_region 1 with (fail)
 obtain ⟨U, a0, hU, hub, ha0, hb0⟩ : ∃ U a0, U = w.alloc (.cells #[.int .u8 (x.1 : Int), strV x.2.1, .int .i64 (x.2.2 : Int)] LW) ∧ Below w.heap.size w U ∧ w.heap.size = a0 ∧ Bk U a0 LW [.int .u8 (x.1 : Int), strV x.2.1, .int .i64 (x.2.2 : Int)] := ⟨_, _, rfl, (Below.refl _ _).alloc (Nat.le_refl _) _, rfl, Bk.new w _ _⟩
 rw [← hU, ha0]
 have HU := Lib.hid hub
 have HA := Lib.hid hb0
 have HS := Lib.hid (H.out.later hub)
 have x1 := hb0.readT (Below.refl _ _) 1 rfl
 have x2 := hb0.readT (Below.refl _ _) 2 rfl
 obtain ⟨gf, Ff, ns, r1, r2, hf, hsn, htu, hput⟩ := HS.out.open_
 have HF := Lib.hid hf
 have HSN := Lib.hid hsn
 have HTU := Lib.hid htu
 have HPUT := Lib.hid hput
 have HT := Lib.hid HS.out.tab
 obtain ⟨tx, htx⟩ : ∃ tx : ByteArray, tx = ⟨x.2.1.toArray⟩ := ⟨_, rfl⟩
 have HTX := Lib.hid htx
 have x1' : U.cell? ⟨a0, 1, none⟩ = some (sv tx) := by rw [htx]; exact x1
 rw [← htx] at HSZ
 have HMAY := Lib.hid (show mayB tx = true by rw [htx]; exact HX.out.2)
 clear hU hub ha0 hb0 hf hsn htu hput htx x1
 cases hfd : findO l0 tx with
 | some i =>
  have HFD := Lib.hid hfd
  have HI := Lib.hid (findO_lt hfd)
  have HN := Lib.hid (show numE x s = .ok (i, s) by unfold numE; rw [HSN.out, findO_app, ← HTX.out, hfd])
  clear hfd
  refine wp_region_held_drew (S := fun V => ∃ q, V = U.drewN q) (by kernel_rfl) ?_ (fun hHeld => ?_)
  ·
   exact ⟨1, rfl⟩
  refine wpAnyH_take (i := 0) (oi := ?p1) (v := ?v1) ?a1 (by kernel_rfl) ?b1 ?c1 ?q1 ?y1 hHeld ?z1
  case a1 => (simp only [List.getElem?_toArray, List.getElem?_cons_succ, List.getElem?_cons_zero]; exact rfl)
  case b1 => kernel_rfl
  case c1 => kernel_rfl
  case q1 => exact fun _ _ _ h => h
  case y1 =>
   refine Or.inl ⟨by rfl, ?_⟩
   intro V hSV
   go_simp
   (try with_reducible rfl)
  try simp only [Act.put, List.setIfInBounds_toArray, List.set_cons_zero, List.set_cons_succ]
  refine wpAnyH_take (i := 1) (oi := ?p2) (v := ?v2) ?a2 (by kernel_rfl) ?b2 ?c2 ?q2 ?y2 hHeld ?z2
  case a2 => (simp only [List.getElem?_toArray, List.getElem?_cons_succ, List.getElem?_cons_zero]; exact rfl)
  case b2 => kernel_rfl
  case c2 => kernel_rfl
  case q2 => exact fun _ _ _ h => h
  case y2 =>
   refine Or.inl ⟨by rfl, ?_⟩
   intro V hSV
   go_simp
   (try with_reducible rfl)
  try simp only [Act.put, List.setIfInBounds_toArray, List.set_cons_zero, List.set_cons_succ]
  refine wpAnyH_take (i := 2) (oi := ?p3) (v := ?v3) ?a3 (by kernel_rfl) ?b3 ?c3 ?q3 ?y3 hHeld ?z3
  case a3 => (simp only [List.getElem?_toArray, List.getElem?_cons_succ, List.getElem?_cons_zero]; exact rfl)
  case b3 => kernel_rfl
  case c3 => kernel_rfl
  case q3 => exact fun _ _ _ h => h
  case y3 =>
   refine Or.inl ⟨by rfl, ?_⟩
   intro V hSV
   go_simp
   (try with_reducible rfl)
  try simp only [Act.put, List.setIfInBounds_toArray, List.set_cons_zero, List.set_cons_succ]
  refine wpAnyH_take (i := 3) (oi := ?p4) (v := ?v4) ?a4 (by kernel_rfl) ?b4 ?c4 ?q4 ?y4 hHeld ?z4
  case a4 => (simp only [List.getElem?_toArray, List.getElem?_cons_succ, List.getElem?_cons_zero]; exact rfl)
  case b4 => kernel_rfl
  case c4 => kernel_rfl
  case q4 => exact fun _ _ _ h => h
  case y4 =>
   refine Or.inl ⟨by rfl, ?_⟩
   intro V hSV
   obtain ⟨q, rfl⟩ := hSV
   go_simp
   (try with_reducible rfl)
  try simp only [Act.put, List.setIfInBounds_toArray, List.set_cons_zero, List.set_cons_succ]
  refine wpAnyH_take (i := 4) (oi := ?p5) (v := ?v5) ?a5 (by kernel_rfl) ?b5 ?c5 ?q5 ?y5 hHeld ?z5
  case a5 => (simp only [List.getElem?_toArray, List.getElem?_cons_succ, List.getElem?_cons_zero]; exact rfl)
  case b5 => kernel_rfl
  case c5 => kernel_rfl
  case q5 => exact fun _ _ _ h => h
  case y5 =>
   refine Or.inl ⟨by rfl, ?_⟩
   intro V hSV
   go_simp
   (try with_reducible rfl)
  try simp only [Act.put, List.setIfInBounds_toArray, List.set_cons_zero, List.set_cons_succ]
  refine wpAnyH_take (i := 5) (oi := ?p6) (v := ?v6) ?a6 (by kernel_rfl) ?b6 ?c6 ?q6 ?y6 hHeld ?z6
  case a6 => (simp only [List.getElem?_toArray, List.getElem?_cons_succ, List.getElem?_cons_zero]; exact rfl)
  case b6 => kernel_rfl
  case c6 => kernel_rfl
  case q6 => exact fun _ _ _ h => h
  case y6 =>
   refine Or.inl ⟨by rfl, ?_⟩
   intro V hSV
   obtain ⟨q, rfl⟩ := hSV
   go_simp
   (try with_reducible rfl)
  try simp only [Act.put, List.setIfInBounds_toArray, List.set_cons_zero, List.set_cons_succ]
  refine wpAnyH_ready (rs := [6]) (by kernel_rfl) (by simp) ?_
  refine AllReadyH.cons (o := ?od7) ?hod7 (fun K hK => ?kd7) ?md7
  case hod7 => (simp only [List.getElem?_toArray, List.getElem?_cons_succ, List.getElem?_cons_zero]; exact rfl)
  case kd7 =>
   obtain ⟨q, hq⟩ := hHeld
   rw [hq]
   clear hq
   go_simp
   refine (tFind gt Ft l0 tx (U.drewN q) (HT.out.turn (Turn.ofBelow (G := fun _ => False) (belowDrews (Below.refl _ U) q)) (fun _ _ h => h)) (by have := HSZ.out; simp only [maxLen]; omega)).mono ?_
   rintro e w' ⟨rfl, rfl⟩
   rw [HFD.out]
   (try dsimp only)
   refine hK.out _ _ ?_ (fun hHeld => ?_)
   ·
    exact ⟨q, rfl⟩
   clear hK K
   try simp only [Act.put, List.setIfInBounds_toArray, List.set_cons_zero, List.set_cons_succ]
   refine wpAnyH_take (i := 7) (oi := ?p8) (v := ?v8) ?a8 (by kernel_rfl) ?b8 ?c8 ?q8 ?y8 hHeld ?z8
   case a8 => (simp only [List.getElem?_toArray, List.getElem?_cons_succ, List.getElem?_cons_zero]; exact rfl)
   case b8 => kernel_rfl
   case c8 => kernel_rfl
   case q8 => exact fun _ _ _ h => h
   case y8 =>
    refine Or.inl ⟨by rfl, ?_⟩
    intro V hSV
    go_simp
    (try with_reducible rfl)
   try simp only [Act.put, List.setIfInBounds_toArray, List.set_cons_zero, List.set_cons_succ]
   refine wpAnyH_take (i := 8) (oi := ?p9) (v := ?v9) ?a9 (by kernel_rfl) ?b9 ?c9 ?q9 ?y9 hHeld ?z9
   case a9 => (simp only [List.getElem?_toArray, List.getElem?_cons_succ, List.getElem?_cons_zero]; exact rfl)
   case b9 => kernel_rfl
   case c9 => kernel_rfl
   case q9 => exact fun _ _ _ h => h
   case y9 =>
    refine Or.inl ⟨by rfl, ?_⟩
    intro V hSV
    go_simp
    (try with_reducible rfl)
   try simp only [Act.put, List.setIfInBounds_toArray, List.set_cons_zero, List.set_cons_succ]
   refine wpAnyH_take (i := 9) (oi := ?p10) (v := ?v10) ?a10 (by kernel_rfl) ?b10 ?c10 ?q10 ?y10 hHeld ?z10
   case a10 => (simp only [List.getElem?_toArray, List.getElem?_cons_succ, List.getElem?_cons_zero]; exact rfl)
   case b10 => kernel_rfl
   case c10 => kernel_rfl
   case q10 => exact fun _ _ _ h => h
   case y10 =>
    refine Or.inl ⟨by rfl, ?_⟩
    intro V hSV
    go_simp
    (try with_reducible rfl)
   try simp only [Act.put, List.setIfInBounds_toArray, List.set_cons_zero, List.set_cons_succ]
   refine wpAnyH_take (i := 10) (oi := ?p11) (v := ?v11) ?a11 (by kernel_rfl) ?b11 ?c11 ?q11 ?y11 hHeld ?z11
   case a11 => (simp only [List.getElem?_toArray, List.getElem?_cons_succ, List.getElem?_cons_zero]; exact rfl)
   case b11 => kernel_rfl
   case c11 => kernel_rfl
   case q11 => exact fun _ _ _ h => h
   case y11 =>
    refine Or.inl ⟨by rfl, ?_⟩
    intro V hSV
    go_simp
    (try with_reducible rfl)
   try simp only [Act.put, List.setIfInBounds_toArray, List.set_cons_zero, List.set_cons_succ]
   refine wpAnyH_take (i := 11) (oi := ?p12) (v := ?v12) ?a12 (by kernel_rfl) ?b12 ?c12 ?q12 ?y12 hHeld ?z12
   case a12 => (simp only [List.getElem?_toArray, List.getElem?_cons_succ, List.getElem?_cons_zero]; exact rfl)
   case b12 => kernel_rfl
   case c12 => kernel_rfl
   case q12 => exact fun _ _ _ h => h
   case y12 =>
    refine Or.inl ⟨by rfl, ?_⟩
    intro V hSV
    go_simp
    (try with_reducible rfl)
   try simp only [Act.put, List.setIfInBounds_toArray, List.set_cons_zero, List.set_cons_succ]
   refine wpAnyH_done (by kernel_rfl) ?_ _
   obtain ⟨q, hq⟩ := hHeld
   rw [hq]
   clear hq
   repeat (first | go_skip | go_guarded | go_step)
   go_ret
   have hi : (UInt32.ofNat i).toNat = i := ftoNat_of (by have := HI.out; have := HG1.out; omega)
   exact .inl ⟨i, s, _, F, HN.out, rfl, ⟨by unfold nv; rw [hi]; rfl, by have := HI.out; have := HG1.out; omega⟩, HS.out.later (belowDrews (Below.refl _ U) q), Mv.ofBelow (belowDrews HU.out q)⟩
  exact AllReadyH.nil
 | none =>
  have HFD := Lib.hid hfd
  clear hfd
  refine wp_region_held_drew (S := fun V => ∃ q, V = U.drewN q) (by kernel_rfl) ?_ (fun hHeld => ?_)
  ·
   exact ⟨1, rfl⟩
  refine wpAnyH_take (i := 0) (oi := ?p13) (v := ?v13) ?a13 (by kernel_rfl) ?b13 ?c13 ?q13 ?y13 hHeld ?z13
  case a13 => (simp only [List.getElem?_toArray, List.getElem?_cons_succ, List.getElem?_cons_zero]; exact rfl)
  case b13 => kernel_rfl
  case c13 => kernel_rfl
  case q13 => exact fun _ _ _ h => h
  case y13 =>
   refine Or.inl ⟨by rfl, ?_⟩
   intro V hSV
   go_simp
   (try with_reducible rfl)
  try simp only [Act.put, List.setIfInBounds_toArray, List.set_cons_zero, List.set_cons_succ]
  refine wpAnyH_take (i := 1) (oi := ?p14) (v := ?v14) ?a14 (by kernel_rfl) ?b14 ?c14 ?q14 ?y14 hHeld ?z14
  case a14 => (simp only [List.getElem?_toArray, List.getElem?_cons_succ, List.getElem?_cons_zero]; exact rfl)
  case b14 => kernel_rfl
  case c14 => kernel_rfl
  case q14 => exact fun _ _ _ h => h
  case y14 =>
   refine Or.inl ⟨by rfl, ?_⟩
   intro V hSV
   go_simp
   (try with_reducible rfl)
  try simp only [Act.put, List.setIfInBounds_toArray, List.set_cons_zero, List.set_cons_succ]
  refine wpAnyH_take (i := 2) (oi := ?p15) (v := ?v15) ?a15 (by kernel_rfl) ?b15 ?c15 ?q15 ?y15 hHeld ?z15
  case a15 => (simp only [List.getElem?_toArray, List.getElem?_cons_succ, List.getElem?_cons_zero]; exact rfl)
  case b15 => kernel_rfl
  case c15 => kernel_rfl
  case q15 => exact fun _ _ _ h => h
  case y15 =>
   refine Or.inl ⟨by rfl, ?_⟩
   intro V hSV
   go_simp
   (try with_reducible rfl)
  try simp only [Act.put, List.setIfInBounds_toArray, List.set_cons_zero, List.set_cons_succ]
  refine wpAnyH_take (i := 3) (oi := ?p16) (v := ?v16) ?a16 (by kernel_rfl) ?b16 ?c16 ?q16 ?y16 hHeld ?z16
  case a16 => (simp only [List.getElem?_toArray, List.getElem?_cons_succ, List.getElem?_cons_zero]; exact rfl)
  case b16 => kernel_rfl
  case c16 => kernel_rfl
  case q16 => exact fun _ _ _ h => h
  case y16 =>
   refine Or.inl ⟨by rfl, ?_⟩
   intro V hSV
   obtain ⟨q, rfl⟩ := hSV
   go_simp
   (try with_reducible rfl)
  try simp only [Act.put, List.setIfInBounds_toArray, List.set_cons_zero, List.set_cons_succ]
  refine wpAnyH_take (i := 4) (oi := ?p17) (v := ?v17) ?a17 (by kernel_rfl) ?b17 ?c17 ?q17 ?y17 hHeld ?z17
  case a17 => (simp only [List.getElem?_toArray, List.getElem?_cons_succ, List.getElem?_cons_zero]; exact rfl)
  case b17 => kernel_rfl
  case c17 => kernel_rfl
  case q17 => exact fun _ _ _ h => h
  case y17 =>
   refine Or.inl ⟨by rfl, ?_⟩
   intro V hSV
   go_simp
   (try with_reducible rfl)
  try simp only [Act.put, List.setIfInBounds_toArray, List.set_cons_zero, List.set_cons_succ]
  refine wpAnyH_take (i := 5) (oi := ?p18) (v := ?v18) ?a18 (by kernel_rfl) ?b18 ?c18 ?q18 ?y18 hHeld ?z18
  case a18 => (simp only [List.getElem?_toArray, List.getElem?_cons_succ, List.getElem?_cons_zero]; exact rfl)
  case b18 => kernel_rfl
  case c18 => kernel_rfl
  case q18 => exact fun _ _ _ h => h
  case y18 =>
   refine Or.inl ⟨by rfl, ?_⟩
   intro V hSV
   obtain ⟨q, rfl⟩ := hSV
   go_simp
   (try with_reducible rfl)
  try simp only [Act.put, List.setIfInBounds_toArray, List.set_cons_zero, List.set_cons_succ]
  refine wpAnyH_ready (rs := [6]) (by kernel_rfl) (by simp) ?_
  refine AllReadyH.cons (o := ?od19) ?hod19 (fun K hK => ?kd19) ?md19
  case hod19 => (simp only [List.getElem?_toArray, List.getElem?_cons_succ, List.getElem?_cons_zero]; exact rfl)
  case kd19 =>
   obtain ⟨q, hq⟩ := hHeld
   rw [hq]
   clear hq
   go_simp
   refine (tFind gt Ft l0 tx (U.drewN q) (HT.out.turn (Turn.ofBelow (G := fun _ => False) (belowDrews (Below.refl _ U) q)) (fun _ _ h => h)) (by have := HSZ.out; simp only [maxLen]; omega)).mono ?_
   rintro e w' ⟨rfl, rfl⟩
   rw [HFD.out]
   (try dsimp only)
   refine hK.out _ _ ?_ (fun hHeld => ?_)
   ·
    exact ⟨q, rfl⟩
   clear hK K
   try simp only [Act.put, List.setIfInBounds_toArray, List.set_cons_zero, List.set_cons_succ]
   refine wpAnyH_take (i := 7) (oi := ?p20) (v := ?v20) ?a20 (by kernel_rfl) ?b20 ?c20 ?q20 ?y20 hHeld ?z20
   case a20 => (simp only [List.getElem?_toArray, List.getElem?_cons_succ, List.getElem?_cons_zero]; exact rfl)
   case b20 => kernel_rfl
   case c20 => kernel_rfl
   case q20 => exact fun _ _ _ h => h
   case y20 =>
    refine Or.inl ⟨by rfl, ?_⟩
    intro V hSV
    go_simp
    (try with_reducible rfl)
   try simp only [Act.put, List.setIfInBounds_toArray, List.set_cons_zero, List.set_cons_succ]
   refine wpAnyH_take (i := 8) (oi := ?p21) (v := ?v21) ?a21 (by kernel_rfl) ?b21 ?c21 ?q21 ?y21 hHeld ?z21
   case a21 => (simp only [List.getElem?_toArray, List.getElem?_cons_succ, List.getElem?_cons_zero]; exact rfl)
   case b21 => kernel_rfl
   case c21 => kernel_rfl
   case q21 => exact fun _ _ _ h => h
   case y21 =>
    refine Or.inl ⟨by rfl, ?_⟩
    intro V hSV
    go_simp
    (try with_reducible rfl)
   try simp only [Act.put, List.setIfInBounds_toArray, List.set_cons_zero, List.set_cons_succ]
   refine wpAnyH_take (i := 9) (oi := ?p22) (v := ?v22) ?a22 (by kernel_rfl) ?b22 ?c22 ?q22 ?y22 hHeld ?z22
   case a22 => (simp only [List.getElem?_toArray, List.getElem?_cons_succ, List.getElem?_cons_zero]; exact rfl)
   case b22 => kernel_rfl
   case c22 => kernel_rfl
   case q22 => exact fun _ _ _ h => h
   case y22 =>
    refine Or.inl ⟨by rfl, ?_⟩
    intro V hSV
    go_simp
    (try with_reducible rfl)
   try simp only [Act.put, List.setIfInBounds_toArray, List.set_cons_zero, List.set_cons_succ]
   refine wpAnyH_take (i := 10) (oi := ?p23) (v := ?v23) ?a23 (by kernel_rfl) ?b23 ?c23 ?q23 ?y23 hHeld ?z23
   case a23 => (simp only [List.getElem?_toArray, List.getElem?_cons_succ, List.getElem?_cons_zero]; exact rfl)
   case b23 => kernel_rfl
   case c23 => kernel_rfl
   case q23 => exact fun _ _ _ h => h
   case y23 =>
    refine Or.inl ⟨by rfl, ?_⟩
    intro V hSV
    go_simp
    (try with_reducible rfl)
   try simp only [Act.put, List.setIfInBounds_toArray, List.set_cons_zero, List.set_cons_succ]
   refine wpAnyH_take (i := 11) (oi := ?p24) (v := ?v24) ?a24 (by kernel_rfl) ?b24 ?c24 ?q24 ?y24 hHeld ?z24
   case a24 => (simp only [List.getElem?_toArray, List.getElem?_cons_succ, List.getElem?_cons_zero]; exact rfl)
   case b24 => kernel_rfl
   case c24 => kernel_rfl
   case q24 => exact fun _ _ _ h => h
   case y24 =>
    refine Or.inl ⟨by rfl, ?_⟩
    intro V hSV
    go_simp
    (try with_reducible rfl)
   try simp only [Act.put, List.setIfInBounds_toArray, List.set_cons_zero, List.set_cons_succ]
   refine wpAnyH_done (by kernel_rfl) ?_ _
   obtain ⟨q, hq⟩ := hHeld
   rw [hq]
   clear hq
   go_upto_region 4 with (fail)
   obtain ⟨U1, hU1⟩ : ∃ U1, U1 = U.drewN q := ⟨_, rfl⟩
   have HS1 := Lib.hid (show LSt gt Ft l0 sz wb U1 F g s by rw [hU1]; exact HS.out.later (belowDrews (Below.refl _ U) q))
   have HU1 := Lib.hid (show Below w.heap.size w U1 by rw [hU1]; exact belowDrews HU.out q)
   have HA1 := Lib.hid (show Bk U1 a0 LW [.int .u8 (x.1 : Int), strV x.2.1, .int .i64 (x.2.2 : Int)] by rw [hU1]; exact HA.out)
   have y1 : U1.cell? ⟨a0, 1, none⟩ = some (sv tx) := by rw [hU1]; exact x1'
   rw [← hU1]
   clear hU1 HF HSN HTU HPUT HT HS HU HA r1 r2 x1' x2 Ff ns gf
   obtain ⟨gf, Ff, ns, r1, r2, hf, hsn, htu, hput⟩ := HS1.out.open_
   have HF := Lib.hid hf
   have HSN := Lib.hid hsn
   have HTU := Lib.hid htu
   have HPUT := Lib.hid hput
   have HGF := Lib.hid (show ¬ Ff g by
    obtain ⟨cs, hb⟩ := HS1.out.bk
    intro hk
    rcases hf.types hk hb with e | e <;> exact absurd e (by decide))
   have HAF := Lib.hid (show ¬ Ff a0 by
    intro hk
    rcases hf.types hk HA1.out with e | e <;> exact absurd e (by decide))
   have HNS := Lib.hid (show l0.length + ns.length ≤ 4096 by have := HS1.out.gs.good.len; rw [hsn] at this; simpa using this)
   have hgl := HS1.out.at_.2
   have HGL := Lib.hid hgl
   have HAL := Lib.hid HA1.out.lt
   obtain ⟨pp, hpp⟩ : ∃ pp, pp = putL ns tx := ⟨_, rfl⟩
   obtain ⟨ns1, nn, ee⟩ := pp
   have HPP := Lib.hid hpp.symm
   clear hf hsn htu hput hgl hpp
   refine wp_region_held_drew (S := fun V => V.cell? ⟨g, 2, none⟩ = some (.pointer (some ⟨gf, 0, none⟩)) ∧ V.cell? ⟨a0, 1, none⟩ = some (sv tx)) (by kernel_rfl) ?_ (fun hHeld => ?_)
   ·
    exact ⟨r2, y1⟩
   refine wpAnyH_take (i := 0) (oi := ?p25) (v := ?v25) ?a25 (by kernel_rfl) ?b25 ?c25 ?q25 ?y25 hHeld ?z25
   case a25 => (simp only [List.getElem?_toArray, List.getElem?_cons_succ, List.getElem?_cons_zero]; exact rfl)
   case b25 => kernel_rfl
   case c25 => kernel_rfl
   case q25 => exact fun _ _ _ h => h
   case y25 =>
    refine Or.inl ⟨by rfl, ?_⟩
    intro V hSV
    go_simp
    (try with_reducible rfl)
   try simp only [Act.put, List.setIfInBounds_toArray, List.set_cons_zero, List.set_cons_succ]
   refine wpAnyH_take (i := 1) (oi := ?p26) (v := ?v26) ?a26 (by kernel_rfl) ?b26 ?c26 ?q26 ?y26 hHeld ?z26
   case a26 => (simp only [List.getElem?_toArray, List.getElem?_cons_succ, List.getElem?_cons_zero]; exact rfl)
   case b26 => kernel_rfl
   case c26 => kernel_rfl
   case q26 => exact fun _ _ _ h => h
   case y26 =>
    refine Or.inl ⟨by rfl, ?_⟩
    intro V hSV
    go_simp
    (try with_reducible rfl)
   try simp only [Act.put, List.setIfInBounds_toArray, List.set_cons_zero, List.set_cons_succ]
   refine wpAnyH_take (i := 2) (oi := ?p27) (v := ?v27) ?a27 (by kernel_rfl) ?b27 ?c27 ?q27 ?y27 hHeld ?z27
   case a27 => (simp only [List.getElem?_toArray, List.getElem?_cons_succ, List.getElem?_cons_zero]; exact rfl)
   case b27 => kernel_rfl
   case c27 => kernel_rfl
   case q27 => exact fun _ _ _ h => h
   case y27 =>
    refine Or.inl ⟨by rfl, ?_⟩
    intro V hSV
    go_simp
    (try with_reducible rfl)
   try simp only [Act.put, List.setIfInBounds_toArray, List.set_cons_zero, List.set_cons_succ]
   refine wpAnyH_take (i := 3) (oi := ?p28) (v := ?v28) ?a28 (by kernel_rfl) ?b28 ?c28 ?q28 ?y28 hHeld ?z28
   case a28 => (simp only [List.getElem?_toArray, List.getElem?_cons_succ, List.getElem?_cons_zero]; exact rfl)
   case b28 => kernel_rfl
   case c28 => kernel_rfl
   case q28 => exact fun _ _ _ h => h
   case y28 =>
    refine Or.inl ⟨by rfl, ?_⟩
    intro V hSV
    obtain ⟨z1, z2⟩ := hSV
    go_simp
    (try with_reducible rfl)
   try simp only [Act.put, List.setIfInBounds_toArray, List.set_cons_zero, List.set_cons_succ]
   refine wpAnyH_take (i := 4) (oi := ?p29) (v := ?v29) ?a29 (by kernel_rfl) ?b29 ?c29 ?q29 ?y29 hHeld ?z29
   case a29 => (simp only [List.getElem?_toArray, List.getElem?_cons_succ, List.getElem?_cons_zero]; exact rfl)
   case b29 => kernel_rfl
   case c29 => kernel_rfl
   case q29 => exact fun _ _ _ h => h
   case y29 =>
    refine Or.inl ⟨by rfl, ?_⟩
    intro V hSV
    go_simp
    (try with_reducible rfl)
   try simp only [Act.put, List.setIfInBounds_toArray, List.set_cons_zero, List.set_cons_succ]
   refine wpAnyH_take (i := 5) (oi := ?p30) (v := ?v30) ?a30 (by kernel_rfl) ?b30 ?c30 ?q30 ?y30 hHeld ?z30
   case a30 => (simp only [List.getElem?_toArray, List.getElem?_cons_succ, List.getElem?_cons_zero]; exact rfl)
   case b30 => kernel_rfl
   case c30 => kernel_rfl
   case q30 => exact fun _ _ _ h => h
   case y30 =>
    refine Or.inl ⟨by rfl, ?_⟩
    intro V hSV
    obtain ⟨z1, z2⟩ := hSV
    go_simp
    (try with_reducible rfl)
   try simp only [Act.put, List.setIfInBounds_toArray, List.set_cons_zero, List.set_cons_succ]
   refine wpAnyH_ready (rs := [6]) (by kernel_rfl) (by simp) ?_
   refine AllReadyH.cons (o := ?od31) ?hod31 (fun K hK => ?kd31) ?md31
   case hod31 => (simp only [List.getElem?_toArray, List.getElem?_cons_succ, List.getElem?_cons_zero]; exact rfl)
   case kd31 =>
    go_simp
    refine (tPut gf Ff ns tx _ (HF.out.turn (Turn.ofBelow (G := fun _ => False) (belowDrews (Below.refl _ U1) 1)) (fun _ _ h => h)) (by have := HNS.out; omega) (by have := HSZ.out; omega) (fun W => may_ok8 tx W (by have := HSZ.out; omega))).mono ?_
    rintro e V ⟨rfl, F1, hT1, hV1, hF1⟩
    rw [HPP.out] at hT1 ⊢
    have HT1 := Lib.hid hT1
    have HV1 := Lib.hid (show Turn Ff U1 V from (Turn.ofBelow (G := Ff) (belowDrews (Below.refl _ U1) 1)).trans hV1)
    have HF1 := Lib.hid (show ∀ k, F1 k → Ff k ∨ U1.heap.size ≤ k from hF1)
    have z1 := (HV1.out.cell (p := ⟨g, 2, none⟩) HGL.out HGF.out).trans r2
    have z2 := (HV1.out.cell (p := ⟨a0, 1, none⟩) HAL.out HAF.out).trans y1
    clear hT1 hV1 hF1
    (try dsimp only)
    refine hK.out _ _ ?_ (fun hHeld => ?_)
    ·
     exact ⟨z1, z2⟩
    clear hK K
    try simp only [Act.put, List.setIfInBounds_toArray, List.set_cons_zero, List.set_cons_succ]
    refine wpAnyH_take (i := 7) (oi := ?p32) (v := ?v32) ?a32 (by kernel_rfl) ?b32 ?c32 ?q32 ?y32 hHeld ?z32
    case a32 => (simp only [List.getElem?_toArray, List.getElem?_cons_succ, List.getElem?_cons_zero]; exact rfl)
    case b32 => kernel_rfl
    case c32 => kernel_rfl
    case q32 => exact fun _ _ _ h => h
    case y32 =>
     refine Or.inl ⟨by rfl, ?_⟩
     intro V hSV
     go_simp
     (try with_reducible rfl)
    try simp only [Act.put, List.setIfInBounds_toArray, List.set_cons_zero, List.set_cons_succ]
    refine wpAnyH_take (i := 8) (oi := ?p33) (v := ?v33) ?a33 (by kernel_rfl) ?b33 ?c33 ?q33 ?y33 hHeld ?z33
    case a33 => (simp only [List.getElem?_toArray, List.getElem?_cons_succ, List.getElem?_cons_zero]; exact rfl)
    case b33 => kernel_rfl
    case c33 => kernel_rfl
    case q33 => exact fun _ _ _ h => h
    case y33 =>
     refine Or.inl ⟨by rfl, ?_⟩
     intro V hSV
     go_simp
     (try with_reducible rfl)
    try simp only [Act.put, List.setIfInBounds_toArray, List.set_cons_zero, List.set_cons_succ]
    refine wpAnyH_take (i := 9) (oi := ?p34) (v := ?v34) ?a34 (by kernel_rfl) ?b34 ?c34 ?q34 ?y34 hHeld ?z34
    case a34 => (simp only [List.getElem?_toArray, List.getElem?_cons_succ, List.getElem?_cons_zero]; exact rfl)
    case b34 => kernel_rfl
    case c34 => kernel_rfl
    case q34 => exact fun _ _ _ h => h
    case y34 =>
     refine Or.inl ⟨by rfl, ?_⟩
     intro V hSV
     go_simp
     (try with_reducible rfl)
    try simp only [Act.put, List.setIfInBounds_toArray, List.set_cons_zero, List.set_cons_succ]
    refine wpAnyH_take (i := 10) (oi := ?p35) (v := ?v35) ?a35 (by kernel_rfl) ?b35 ?c35 ?q35 ?y35 hHeld ?z35
    case a35 => (simp only [List.getElem?_toArray, List.getElem?_cons_succ, List.getElem?_cons_zero]; exact rfl)
    case b35 => kernel_rfl
    case c35 => kernel_rfl
    case q35 => exact fun _ _ _ h => h
    case y35 =>
     refine Or.inl ⟨by rfl, ?_⟩
     intro V hSV
     go_simp
     (try with_reducible rfl)
    try simp only [Act.put, List.setIfInBounds_toArray, List.set_cons_zero, List.set_cons_succ]
    refine wpAnyH_take (i := 11) (oi := ?p36) (v := ?v36) ?a36 (by kernel_rfl) ?b36 ?c36 ?q36 ?y36 hHeld ?z36
    case a36 => (simp only [List.getElem?_toArray, List.getElem?_cons_succ, List.getElem?_cons_zero]; exact rfl)
    case b36 => kernel_rfl
    case c36 => kernel_rfl
    case q36 => exact fun _ _ _ h => h
    case y36 =>
     refine Or.inl ⟨by rfl, ?_⟩
     intro V hSV
     go_simp
     (try with_reducible rfl)
    try simp only [Act.put, List.setIfInBounds_toArray, List.set_cons_zero, List.set_cons_succ]
    refine wpAnyH_done (by kernel_rfl) ?_ _
    clear hHeld
    obtain ⟨L0, hL0⟩ : ∃ L0, L0 = l0.length := ⟨_, rfl⟩
    have HL0 := Lib.hid hL0
    have hw1 : IntKind.u32.wrap (L0 : Int) = (L0 : Int) := by rw [IntKind.wrap_u32] <;> (have := HG1.out; omega)
    have HG3 := Lib.hid HS1.out.gs
    have HTV := Lib.hid (HV1.out.mono (fun k _ hk => HTU.out k hk) : Turn F U1 V)
    have HA2 := Lib.hid (HS1.out.keeps HTV.out HA1.out (by decide) (by decide) (by decide))
    have HTB := Lib.hid (HS1.out.tab.turn HTV.out (fun k hk hf => HS1.out.notT hf hk))
    have t1 := (HV1.out.cell (p := ⟨g, 1, none⟩) HGL.out HGF.out).trans r1
    have w2 := HA2.out.readT (Below.refl _ _) 2 rfl
    clear hL0 z1 z2 y1 r2 r1
    cases hfo : findO ns tx with
    | some j =>
     have hj := findO_lt hfo
     have hpe : putL ns tx = (ns, j, 0) := by unfold putL; rw [HMAY.out, if_neg (by decide), hfo]
     rw [HPP.out] at hpe
     simp only [Prod.mk.injEq] at hpe
     obtain ⟨rfl, rfl, rfl⟩ := hpe
     obtain ⟨F2, hs2, hm2⟩ := HPUT.out V F1 ns1 HT1.out HV1.out HF1.out (by rw [← HSN.out]; exact HG3.out)
     rw [← HSN.out] at hs2
     have HS2 := Lib.hid (show LSt gt Ft l0 sz wb V F2 g s from hs2)
     have HM2 := Lib.hid ((Mv.ofBelow (F := F) HU1.out).trans hm2)
     have HN := Lib.hid (show numE x s = .ok (nn + L0, s) by unfold numE; rw [HSN.out, findO_app, ← HTX.out, HFD.out]; dsimp only; rw [hfo, HL0.out]; rfl)
     have hJ : nn + L0 < 4096 := by have := HNS.out; have := HL0.out; omega
     have hw2 : IntKind.u32.wrap ((nn : Int) + (L0 : Int)) = ((nn + L0 : Nat) : Int) := by rw [IntKind.wrap_u32] <;> omega
     obtain ⟨mm, hmm⟩ : ∃ mm, mm = nn + L0 := ⟨_, rfl⟩
     rw [← hmm] at HN hJ hw2
     have hd : decide ((4096 : Int) ≤ (mm : Int)) = false := by simp; omega
     clear hs2 hm2 hfo hj hmm
     go_upto_region 6 with (refine (tLen gt Ft l0 V HTB.out).mono ?_; rintro e w' ⟨rfl, rfl⟩; rw [← HL0.out])
     repeat (first | go_skip | go_guarded | go_step)
     go_ret
     have hi : (UInt32.ofNat mm).toNat = mm := ftoNat_of hJ
     exact .inl ⟨mm, s, _, F2, HN.out, rfl, ⟨by unfold nv; rw [hi]; rfl, hJ⟩, HS2.out, HM2.out⟩
    | none =>
     by_cases hfull : 4096 ≤ ns.length
     ·
      have hpe : putL ns tx = (ns, 0, 6) := by unfold putL; rw [HMAY.out, if_neg (by decide), hfo]; dsimp only; rw [if_pos hfull]
      rw [HPP.out] at hpe
      simp only [Prod.mk.injEq] at hpe
      obtain ⟨rfl, rfl, he6⟩ := hpe
      have HN := Lib.hid (show numE x s = .error (6, x.2.2) by unfold numE; rw [HSN.out, findO_app, ← HTX.out, HFD.out]; dsimp only; rw [hfo]; dsimp only [Option.map_none]; rw [if_pos (by simp; omega)])
      have hd : ((ee : Int) != 0) = true := by simp; omega
      obtain ⟨mm, hmm⟩ : ∃ mm : Nat, IntKind.u32.wrap (((0 : Nat) : Int) + (L0 : Int)) = (mm : Int) := ⟨L0, by rw [IntKind.wrap_u32] <;> (have := HL0.out; have := HG1.out; omega)⟩
      clear hfo hfull he6
      go_upto_region 6 with (refine (tLen gt Ft l0 V HTB.out).mono ?_; rintro e w' ⟨rfl, rfl⟩; rw [← HL0.out])
      repeat (first | go_skip | go_guarded | go_step)
      exact ⟨rfl, .inr ⟨_, HN.out, rfl, (Mv.ofBelow (F := F) HU1.out).endT HTV.out⟩⟩
     ·
      have hpe : putL ns tx = (ns ++ [tx], ns.length, 0) := by unfold putL; rw [HMAY.out, if_neg (by decide), hfo]; dsimp only; rw [if_neg hfull]
      rw [HPP.out] at hpe
      simp only [Prod.mk.injEq] at hpe
      obtain ⟨rfl, rfl, rfl⟩ := hpe
      obtain ⟨mm, hmm⟩ : ∃ mm, mm = ns.length + L0 := ⟨_, rfl⟩
      have hw2 : IntKind.u32.wrap ((ns.length : Int) + (L0 : Int)) = (mm : Int) := by rw [IntKind.wrap_u32] <;> (have := HL0.out; have := HG1.out; omega)
      by_cases hbig : 4096 ≤ mm
      ·
       have HN := Lib.hid (show numE x s = .error (6, x.2.2) by unfold numE; rw [HSN.out, findO_app, ← HTX.out, HFD.out]; dsimp only; rw [hfo]; dsimp only [Option.map_none]; rw [if_pos (by simp; have := HL0.out; omega)])
       have hd : decide ((4096 : Int) ≤ (mm : Int)) = true := by simp; omega
       clear hfo hfull hbig hmm
       go_upto_region 6 with (refine (tLen gt Ft l0 V HTB.out).mono ?_; rintro e w' ⟨rfl, rfl⟩; rw [← HL0.out])
       repeat (first | go_skip | go_guarded | go_step)
       exact ⟨rfl, .inr ⟨_, HN.out, rfl, (Mv.ofBelow (F := F) HU1.out).endT HTV.out⟩⟩
      ·
       have hlen : s.2.1.length = mm := by rw [HSN.out]; simp; have := HL0.out; omega
       have HN := Lib.hid (show numE x s = .ok (mm, (s.1, s.2.1 ++ [tx], s.2.2)) by unfold numE; rw [hlen, HSN.out, findO_app, ← HTX.out, HFD.out]; dsimp only; rw [hfo]; dsimp only [Option.map_none]; rw [if_neg (by omega)])
       have hgs := (gs_num HG3.out HX.out HN.out).1
       rw [HSN.out, List.append_assoc] at hgs
       obtain ⟨F2, hs2, hm2⟩ := HPUT.out V F1 (ns ++ [tx]) HT1.out HV1.out HF1.out hgs
       rw [← List.append_assoc, ← HSN.out] at hs2
       have HS2 := Lib.hid hs2
       have HM2 := Lib.hid ((Mv.ofBelow (F := F) HU1.out).trans hm2)
       have hd : decide ((4096 : Int) ≤ (mm : Int)) = false := by simp; omega
       have hJ : mm < 4096 := by omega
       have HJ := Lib.hid hJ
       clear hfo hfull hbig hmm hlen hgs hs2 hm2 hJ
       go_upto_region 6 with (refine (tLen gt Ft l0 V HTB.out).mono ?_; rintro e w' ⟨rfl, rfl⟩; rw [← HL0.out])
       repeat (first | go_skip | go_guarded | go_step)
       go_ret
       have hi : (UInt32.ofNat mm).toNat = mm := ftoNat_of HJ.out
       exact .inl ⟨mm, _, _, F2, HN.out, rfl, ⟨by unfold nv; rw [hi]; rfl, HJ.out⟩, HS2.out, HM2.out⟩
   exact AllReadyH.nil
  exact AllReadyH.nil

set_option maxRecDepth 100000 in
set_option maxHeartbeats 8000000 in
theorem variable_any (x : Wd) (w : World) (h : LSt gt Ft l0 sz wb w F g s) :
  Calls Tryz.prog 115 #[.pointer (some ⟨g, 0, none⟩), wdV x] w fun e w' => Fin gt Ft l0 sz wb F g w (varE x s) (fun i v _ => v = nv (UInt32.ofNat i) ∧ i < 16) e w' := by
 have H := Lib.hid h
 clear h
 go_enter Tryz.func115, Tryz.ntmps115
 go_upto_region 1 with (fail)
 obtain ⟨U, a0, hU, hub, ha0, hb0⟩ : ∃ U a0, U = w.alloc (.cells #[.int .u8 (x.1 : Int), strV x.2.1, .int .i64 (x.2.2 : Int)] LW) ∧ Below w.heap.size w U ∧ w.heap.size = a0 ∧ Bk U a0 LW [.int .u8 (x.1 : Int), strV x.2.1, .int .i64 (x.2.2 : Int)] := ⟨_, _, rfl, (Below.refl _ _).alloc (Nat.le_refl _) _, rfl, Bk.new w _ _⟩
 rw [← hU, ha0]
 have HU := Lib.hid hub
 have HA := Lib.hid hb0
 have HS := Lib.hid (H.out.later hub)
 have x1 := hb0.readT (Below.refl _ _) 1 rfl
 have x2 := hb0.readT (Below.refl _ _) 2 rfl
 obtain ⟨AV, nV, cV, r3, f3, hov, hgn, hvf, hset⟩ := HS.out.openV
 have HOV := Lib.hid hov
 have HFW := Lib.hid HS.out.gs.few
 have HLN := Lib.hid (show s.2.2.length = nV by simpa using (Rd.ofOwn hov).len1)
 obtain ⟨tx, htx⟩ : ∃ tx : ByteArray, tx = ⟨x.2.1.toArray⟩ := ⟨_, rfl⟩
 have HTX := Lib.hid htx
 have x1' : U.cell? ⟨a0, 1, none⟩ = some (sv tx) := by rw [htx]; exact x1
 have HGS := Lib.hid HS.out.gs
 have HIX := Lib.hid (fun q => sIndex_any AV nV cV s.2.2 tx (U.drewN q) ((Rd.ofOwn hov).below (belowDrews (Below.refl _ U) q)) (by have := HFW.out; have := HLN.out; omega))
 clear hU hub ha0 hb0 hov hgn hvf hset htx x1
 cases hfd : findO s.2.2 tx with
 | some i =>
  have hi := findO_lt hfd
  have HI := Lib.hid hi
  have HZ := Lib.hid (show findZ s.2.2 tx = (i : Int) by unfold findZ; rw [hfd])
  have HN := Lib.hid (show varE x s = .ok (i, s) by unfold varE; rw [← HTX.out, hfd])
  have hlt : decide ((i : Int) < 0) = false := by simp
  have h16 : decide ((16 : Int) ≤ (i : Int)) = false := by simp; have := HFW.out; omega
  have hw1 : IntKind.u32.wrap (i : Int) = (i : Int) := by rw [IntKind.wrap_u32] <;> (have := HFW.out; omega)
  clear hfd hi
  refine wp_region_held_drew (S := fun V => ∃ q, V = U.drewN q) (by kernel_rfl) ?_ (fun hHeld => ?_)
  ·
   exact ⟨1, rfl⟩
  refine wpAnyH_take (i := 0) (oi := ?p37) (v := ?v37) ?a37 (by kernel_rfl) ?b37 ?c37 ?q37 ?y37 hHeld ?z37
  case a37 => (simp only [List.getElem?_toArray, List.getElem?_cons_succ, List.getElem?_cons_zero]; exact rfl)
  case b37 => kernel_rfl
  case c37 => kernel_rfl
  case q37 => exact fun _ _ _ h => h
  case y37 =>
   refine Or.inl ⟨by rfl, ?_⟩
   intro V hSV
   go_simp
   (try with_reducible rfl)
  try simp only [Act.put, List.setIfInBounds_toArray, List.set_cons_zero, List.set_cons_succ]
  refine wpAnyH_take (i := 1) (oi := ?p38) (v := ?v38) ?a38 (by kernel_rfl) ?b38 ?c38 ?q38 ?y38 hHeld ?z38
  case a38 => (simp only [List.getElem?_toArray, List.getElem?_cons_succ, List.getElem?_cons_zero]; exact rfl)
  case b38 => kernel_rfl
  case c38 => kernel_rfl
  case q38 => exact fun _ _ _ h => h
  case y38 =>
   refine Or.inl ⟨by rfl, ?_⟩
   intro V hSV
   go_simp
   (try with_reducible rfl)
  try simp only [Act.put, List.setIfInBounds_toArray, List.set_cons_zero, List.set_cons_succ]
  refine wpAnyH_take (i := 2) (oi := ?p39) (v := ?v39) ?a39 (by kernel_rfl) ?b39 ?c39 ?q39 ?y39 hHeld ?z39
  case a39 => (simp only [List.getElem?_toArray, List.getElem?_cons_succ, List.getElem?_cons_zero]; exact rfl)
  case b39 => kernel_rfl
  case c39 => kernel_rfl
  case q39 => exact fun _ _ _ h => h
  case y39 =>
   refine Or.inl ⟨by rfl, ?_⟩
   intro V hSV
   go_simp
   (try with_reducible rfl)
  try simp only [Act.put, List.setIfInBounds_toArray, List.set_cons_zero, List.set_cons_succ]
  refine wpAnyH_take (i := 3) (oi := ?p40) (v := ?v40) ?a40 (by kernel_rfl) ?b40 ?c40 ?q40 ?y40 hHeld ?z40
  case a40 => (simp only [List.getElem?_toArray, List.getElem?_cons_succ, List.getElem?_cons_zero]; exact rfl)
  case b40 => kernel_rfl
  case c40 => kernel_rfl
  case q40 => exact fun _ _ _ h => h
  case y40 =>
   refine Or.inl ⟨by rfl, ?_⟩
   intro V hSV
   obtain ⟨q, rfl⟩ := hSV
   go_simp
   (try with_reducible rfl)
  try simp only [Act.put, List.setIfInBounds_toArray, List.set_cons_zero, List.set_cons_succ]
  refine wpAnyH_take (i := 4) (oi := ?p41) (v := ?v41) ?a41 (by kernel_rfl) ?b41 ?c41 ?q41 ?y41 hHeld ?z41
  case a41 => (simp only [List.getElem?_toArray, List.getElem?_cons_succ, List.getElem?_cons_zero]; exact rfl)
  case b41 => kernel_rfl
  case c41 => kernel_rfl
  case q41 => exact fun _ _ _ h => h
  case y41 =>
   refine Or.inl ⟨by rfl, ?_⟩
   intro V hSV
   go_simp
   (try with_reducible rfl)
  try simp only [Act.put, List.setIfInBounds_toArray, List.set_cons_zero, List.set_cons_succ]
  refine wpAnyH_take (i := 5) (oi := ?p42) (v := ?v42) ?a42 (by kernel_rfl) ?b42 ?c42 ?q42 ?y42 hHeld ?z42
  case a42 => (simp only [List.getElem?_toArray, List.getElem?_cons_succ, List.getElem?_cons_zero]; exact rfl)
  case b42 => kernel_rfl
  case c42 => kernel_rfl
  case q42 => exact fun _ _ _ h => h
  case y42 =>
   refine Or.inl ⟨by rfl, ?_⟩
   intro V hSV
   obtain ⟨q, rfl⟩ := hSV
   go_simp
   (try with_reducible rfl)
  try simp only [Act.put, List.setIfInBounds_toArray, List.set_cons_zero, List.set_cons_succ]
  refine wpAnyH_ready (rs := [6]) (by kernel_rfl) (by simp) ?_
  refine AllReadyH.cons (o := ?od43) ?hod43 (fun K hK => ?kd43) ?md43
  case hod43 => (simp only [List.getElem?_toArray, List.getElem?_cons_succ, List.getElem?_cons_zero]; exact rfl)
  case kd43 =>
   obtain ⟨q, hq⟩ := hHeld
   rw [hq]
   clear hq
   go_simp
   refine (HIX.out q).mono ?_
   rintro e w' ⟨rfl, rfl⟩
   rw [HZ.out]
   (try dsimp only)
   refine hK.out _ _ ?_ (fun hHeld => ?_)
   ·
    exact ⟨q, rfl⟩
   clear hK K
   try simp only [Act.put, List.setIfInBounds_toArray, List.set_cons_zero, List.set_cons_succ]
   refine wpAnyH_take (i := 7) (oi := ?p44) (v := ?v44) ?a44 (by kernel_rfl) ?b44 ?c44 ?q44 ?y44 hHeld ?z44
   case a44 => (simp only [List.getElem?_toArray, List.getElem?_cons_succ, List.getElem?_cons_zero]; exact rfl)
   case b44 => kernel_rfl
   case c44 => kernel_rfl
   case q44 => exact fun _ _ _ h => h
   case y44 =>
    refine Or.inl ⟨by rfl, ?_⟩
    intro V hSV
    go_simp
    (try with_reducible rfl)
   try simp only [Act.put, List.setIfInBounds_toArray, List.set_cons_zero, List.set_cons_succ]
   refine wpAnyH_done (by kernel_rfl) ?_ _
   obtain ⟨q, hq⟩ := hHeld
   rw [hq]
   clear hq
   repeat (first | go_skip | go_guarded | go_step)
   go_ret
   have hi : (UInt32.ofNat i).toNat = i := ftoNat_of (by have := HI.out; have := HFW.out; omega)
   exact .inl ⟨i, s, _, F, HN.out, rfl, ⟨by unfold nv; rw [hi]; rfl, by have := HI.out; have := HFW.out; omega⟩, HS.out.later (belowDrews (Below.refl _ U) q), Mv.ofBelow (belowDrews HU.out q)⟩
  exact AllReadyH.nil
 | none =>
  have HFD := Lib.hid hfd
  have HZ := Lib.hid (show findZ s.2.2 tx = -1 by unfold findZ; rw [hfd])
  clear hfd
  refine wp_region_held_drew (S := fun V => ∃ q, V = U.drewN q) (by kernel_rfl) ?_ (fun hHeld => ?_)
  ·
   exact ⟨1, rfl⟩
  refine wpAnyH_take (i := 0) (oi := ?p45) (v := ?v45) ?a45 (by kernel_rfl) ?b45 ?c45 ?q45 ?y45 hHeld ?z45
  case a45 => (simp only [List.getElem?_toArray, List.getElem?_cons_succ, List.getElem?_cons_zero]; exact rfl)
  case b45 => kernel_rfl
  case c45 => kernel_rfl
  case q45 => exact fun _ _ _ h => h
  case y45 =>
   refine Or.inl ⟨by rfl, ?_⟩
   intro V hSV
   go_simp
   (try with_reducible rfl)
  try simp only [Act.put, List.setIfInBounds_toArray, List.set_cons_zero, List.set_cons_succ]
  refine wpAnyH_take (i := 1) (oi := ?p46) (v := ?v46) ?a46 (by kernel_rfl) ?b46 ?c46 ?q46 ?y46 hHeld ?z46
  case a46 => (simp only [List.getElem?_toArray, List.getElem?_cons_succ, List.getElem?_cons_zero]; exact rfl)
  case b46 => kernel_rfl
  case c46 => kernel_rfl
  case q46 => exact fun _ _ _ h => h
  case y46 =>
   refine Or.inl ⟨by rfl, ?_⟩
   intro V hSV
   go_simp
   (try with_reducible rfl)
  try simp only [Act.put, List.setIfInBounds_toArray, List.set_cons_zero, List.set_cons_succ]
  refine wpAnyH_take (i := 2) (oi := ?p47) (v := ?v47) ?a47 (by kernel_rfl) ?b47 ?c47 ?q47 ?y47 hHeld ?z47
  case a47 => (simp only [List.getElem?_toArray, List.getElem?_cons_succ, List.getElem?_cons_zero]; exact rfl)
  case b47 => kernel_rfl
  case c47 => kernel_rfl
  case q47 => exact fun _ _ _ h => h
  case y47 =>
   refine Or.inl ⟨by rfl, ?_⟩
   intro V hSV
   go_simp
   (try with_reducible rfl)
  try simp only [Act.put, List.setIfInBounds_toArray, List.set_cons_zero, List.set_cons_succ]
  refine wpAnyH_take (i := 3) (oi := ?p48) (v := ?v48) ?a48 (by kernel_rfl) ?b48 ?c48 ?q48 ?y48 hHeld ?z48
  case a48 => (simp only [List.getElem?_toArray, List.getElem?_cons_succ, List.getElem?_cons_zero]; exact rfl)
  case b48 => kernel_rfl
  case c48 => kernel_rfl
  case q48 => exact fun _ _ _ h => h
  case y48 =>
   refine Or.inl ⟨by rfl, ?_⟩
   intro V hSV
   obtain ⟨q, rfl⟩ := hSV
   go_simp
   (try with_reducible rfl)
  try simp only [Act.put, List.setIfInBounds_toArray, List.set_cons_zero, List.set_cons_succ]
  refine wpAnyH_take (i := 4) (oi := ?p49) (v := ?v49) ?a49 (by kernel_rfl) ?b49 ?c49 ?q49 ?y49 hHeld ?z49
  case a49 => (simp only [List.getElem?_toArray, List.getElem?_cons_succ, List.getElem?_cons_zero]; exact rfl)
  case b49 => kernel_rfl
  case c49 => kernel_rfl
  case q49 => exact fun _ _ _ h => h
  case y49 =>
   refine Or.inl ⟨by rfl, ?_⟩
   intro V hSV
   go_simp
   (try with_reducible rfl)
  try simp only [Act.put, List.setIfInBounds_toArray, List.set_cons_zero, List.set_cons_succ]
  refine wpAnyH_take (i := 5) (oi := ?p50) (v := ?v50) ?a50 (by kernel_rfl) ?b50 ?c50 ?q50 ?y50 hHeld ?z50
  case a50 => (simp only [List.getElem?_toArray, List.getElem?_cons_succ, List.getElem?_cons_zero]; exact rfl)
  case b50 => kernel_rfl
  case c50 => kernel_rfl
  case q50 => exact fun _ _ _ h => h
  case y50 =>
   refine Or.inl ⟨by rfl, ?_⟩
   intro V hSV
   obtain ⟨q, rfl⟩ := hSV
   go_simp
   (try with_reducible rfl)
  try simp only [Act.put, List.setIfInBounds_toArray, List.set_cons_zero, List.set_cons_succ]
  refine wpAnyH_ready (rs := [6]) (by kernel_rfl) (by simp) ?_
  refine AllReadyH.cons (o := ?od51) ?hod51 (fun K hK => ?kd51) ?md51
  case hod51 => (simp only [List.getElem?_toArray, List.getElem?_cons_succ, List.getElem?_cons_zero]; exact rfl)
  case kd51 =>
   obtain ⟨q, hq⟩ := hHeld
   rw [hq]
   clear hq
   go_simp
   refine (HIX.out q).mono ?_
   rintro e w' ⟨rfl, rfl⟩
   rw [HZ.out]
   (try dsimp only)
   refine hK.out _ _ ?_ (fun hHeld => ?_)
   ·
    exact ⟨q, rfl⟩
   clear hK K
   try simp only [Act.put, List.setIfInBounds_toArray, List.set_cons_zero, List.set_cons_succ]
   refine wpAnyH_take (i := 7) (oi := ?p52) (v := ?v52) ?a52 (by kernel_rfl) ?b52 ?c52 ?q52 ?y52 hHeld ?z52
   case a52 => (simp only [List.getElem?_toArray, List.getElem?_cons_succ, List.getElem?_cons_zero]; exact rfl)
   case b52 => kernel_rfl
   case c52 => kernel_rfl
   case q52 => exact fun _ _ _ h => h
   case y52 =>
    refine Or.inl ⟨by rfl, ?_⟩
    intro V hSV
    go_simp
    (try with_reducible rfl)
   try simp only [Act.put, List.setIfInBounds_toArray, List.set_cons_zero, List.set_cons_succ]
   refine wpAnyH_done (by kernel_rfl) ?_ _
   obtain ⟨q, hq⟩ := hHeld
   rw [hq]
   clear hq
   obtain ⟨U1, hU1⟩ : ∃ U1, U1 = U.drewN q := ⟨_, rfl⟩
   have HS1 := Lib.hid (show LSt gt Ft l0 sz wb U1 F g s by rw [hU1]; exact HS.out.later (belowDrews (Below.refl _ U) q))
   have HU1 := Lib.hid (show Below w.heap.size w U1 by rw [hU1]; exact belowDrews HU.out q)
   have HA1 := Lib.hid (show Bk U1 a0 LW [.int .u8 (x.1 : Int), strV x.2.1, .int .i64 (x.2.2 : Int)] by rw [hU1]; exact HA.out)
   have y1 : U1.cell? ⟨a0, 1, none⟩ = some (sv tx) := by rw [hU1]; exact x1'
   rw [← hU1]
   clear hU1 HOV HS HU HA HIX r3 f3 x1' x2
   clear HLN
   obtain ⟨AV, nV, cV, r3, f3, hov, hgn, hvf, hset⟩ := HS1.out.openV
   have HVF := Lib.hid hvf
   have HOV := Lib.hid hov
   have HGN := Lib.hid hgn
   have HSET := Lib.hid hset
   have HLN := Lib.hid (show s.2.2.length = nV by simpa using (Rd.ofOwn hov).len1)
   have HF3 := Lib.hid f3
   have HGL := Lib.hid HS1.out.at_.2
   have HBG := Lib.hid HS1.out.bk
   clear hov hgn hvf hset
   go_upto_region 4 with (fail)
   have hlit := run_litS tx U1.drew
   have HX := Lib.hid (show ∀ X1, X1 = U1.drew.alloc (.cells #[sv tx] 9) → Below U1.heap.size U1 X1 ∧ Rd X1 X1.heap.size 1 (some ⟨U1.drew.heap.size, 0, none⟩) 1 [sv tx] from fun X1 hX1 => by
    have hb0 : Below U1.heap.size U1 U1.drew := belowDrews (Below.refl _ U1) 1
    have hbX : Below U1.heap.size U1 X1 := by rw [hX1]; exact hb0.alloc (Nat.le_refl _) _
    exact ⟨hbX, by rw [hX1]; exact (Bk.new U1.drew _ [sv tx]).rd 1 (by simp)⟩)
   refine wp_region_held_drew (S := fun V => True) (by kernel_rfl) ?_ (fun hHeld => ?_)
   ·
    exact trivial
   refine wpAnyH_take (i := 0) (oi := ?p53) (v := ?v53) ?a53 (by kernel_rfl) ?b53 ?c53 ?q53 ?y53 hHeld ?z53
   case a53 => (simp only [List.getElem?_toArray, List.getElem?_cons_succ, List.getElem?_cons_zero]; exact rfl)
   case b53 => kernel_rfl
   case c53 => kernel_rfl
   case q53 => exact fun _ _ _ h => h
   case y53 =>
    refine Or.inl ⟨by rfl, ?_⟩
    intro V hSV
    go_simp
    (try with_reducible rfl)
   try simp only [Act.put, List.setIfInBounds_toArray, List.set_cons_zero, List.set_cons_succ]
   refine wpAnyH_take (i := 1) (oi := ?p54) (v := ?v54) ?a54 (by kernel_rfl) ?b54 ?c54 ?q54 ?y54 hHeld ?z54
   case a54 => (simp only [List.getElem?_toArray, List.getElem?_cons_succ, List.getElem?_cons_zero]; exact rfl)
   case b54 => kernel_rfl
   case c54 => kernel_rfl
   case q54 => exact fun _ _ _ h => h
   case y54 =>
    refine Or.inl ⟨by rfl, ?_⟩
    intro V hSV
    go_simp
    (try with_reducible rfl)
   try simp only [Act.put, List.setIfInBounds_toArray, List.set_cons_zero, List.set_cons_succ]
   refine wpAnyH_take (i := 2) (oi := ?p55) (v := ?v55) ?a55 (by kernel_rfl) ?b55 ?c55 ?q55 ?y55 hHeld ?z55
   case a55 => (simp only [List.getElem?_toArray, List.getElem?_cons_succ, List.getElem?_cons_zero]; exact rfl)
   case b55 => kernel_rfl
   case c55 => kernel_rfl
   case q55 => exact fun _ _ _ h => h
   case y55 =>
    refine Or.inl ⟨by rfl, ?_⟩
    intro V hSV
    go_simp
    (try with_reducible rfl)
   try simp only [Act.put, List.setIfInBounds_toArray, List.set_cons_zero, List.set_cons_succ]
   refine wpAnyH_take (i := 3) (oi := ?p56) (v := ?v56) ?a56 (by kernel_rfl) ?b56 ?c56 ?q56 ?y56 hHeld ?z56
   case a56 => (simp only [List.getElem?_toArray, List.getElem?_cons_succ, List.getElem?_cons_zero]; exact rfl)
   case b56 => kernel_rfl
   case c56 => kernel_rfl
   case q56 => exact fun _ _ _ h => h
   case y56 =>
    refine Or.inl ⟨by rfl, ?_⟩
    intro V hSV
    go_simp
    (try with_reducible rfl)
   try simp only [Act.put, List.setIfInBounds_toArray, List.set_cons_zero, List.set_cons_succ]
   refine wpAnyH_take (i := 5) (oi := ?p57) (v := ?v57) ?a57 (by kernel_rfl) ?b57 ?c57 ?q57 ?y57 hHeld ?z57
   case a57 => (simp only [List.getElem?_toArray, List.getElem?_cons_succ, List.getElem?_cons_zero]; exact rfl)
   case b57 => kernel_rfl
   case c57 => kernel_rfl
   case q57 => exact fun _ _ _ h => h
   case y57 =>
    refine Or.inl ⟨by rfl, ?_⟩
    intro V hSV
    go_simp
    (try with_reducible rfl)
   try simp only [Act.put, List.setIfInBounds_toArray, List.set_cons_zero, List.set_cons_succ]
   refine wpAnyH_ready (rs := [4, 6]) (by kernel_rfl) (by simp) ?_
   refine AllReadyH.cons (o := ?od58) ?hod58 (fun K hK => ?kd58) ?md58
   case hod58 => (simp only [List.getElem?_toArray, List.getElem?_cons_succ, List.getElem?_cons_zero]; exact rfl)
   case kd58 =>
    go_simp
    refine hK.out _ _ ?_ (fun hHeld => ?_)
    ·
     exact trivial
    clear hK K
    try simp only [Act.put, List.setIfInBounds_toArray, List.set_cons_zero, List.set_cons_succ]
    refine wpAnyH_ready (rs := [6]) (by kernel_rfl) (by simp) ?_
    refine AllReadyH.cons (o := ?od59) ?hod59 (fun K hK => ?kd59) ?md59
    case hod59 => (simp only [List.getElem?_toArray, List.getElem?_cons_succ, List.getElem?_cons_zero]; exact rfl)
    case kd59 =>
     go_simp
     refine hK.out _ _ ?_ (fun hHeld => ?_)
     ·
      exact trivial
     clear hK K
     try simp only [Act.put, List.setIfInBounds_toArray, List.set_cons_zero, List.set_cons_succ]
     refine wpAnyH_ready (rs := [7]) (by kernel_rfl) (by simp) ?_
     refine AllReadyH.cons (o := ?od60) ?hod60 (fun K hK => ?kd60) ?md60
     case hod60 => (simp only [List.getElem?_toArray, List.getElem?_cons_succ, List.getElem?_cons_zero]; exact rfl)
     case kd60 =>
      go_simp
      obtain ⟨X1, hX1⟩ : ∃ X1, X1 = U1.drew.alloc (.cells #[sv tx] 9) := ⟨_, rfl⟩
      rw [show (U1.alloc (.cells #[sv tx] 9)).drew = X1 from hX1.symm]
      obtain ⟨hbx, hrx⟩ := HX.out X1 hX1
      have HBX := Lib.hid hbx
      have HRX := Lib.hid hrx
      have r3' : X1.cell? ⟨g, 3, none⟩ = some (.slice AV nV cV) := (hbx.cell (p := ⟨g, 3, none⟩) HGL.out).trans r3
      have HOX := Lib.hid (ownBelow HOV.out hbx (Nat.le_refl _))
      clear hX1 hbx hrx hlit
      refine hK.out _ _ ?_ (fun hHeld => ?_)
      ·
       exact trivial
      clear hK K
      try simp only [Act.put, List.setIfInBounds_toArray, List.set_cons_zero, List.set_cons_succ]
      refine wpAnyH_ready (rs := [8]) (by kernel_rfl) (by simp) ?_
      refine AllReadyH.cons (o := ?od61) ?hod61 (fun K hK => ?kd61) ?md61
      case hod61 => (simp only [List.getElem?_toArray, List.getElem?_cons_succ, List.getElem?_cons_zero]; exact rfl)
      case kd61 =>
       refine anyd_appS (by rfl) (.tmp 24) (.tmp 27) (by rfl) 0 AV cV nV s.2.2 (by rfl) HOX.out _ _ 1 tx (by rfl) HRX.out (by have := HLN.out; have := HFW.out; omega) (Nat.zero_le _) ?_
       intro A' c' W2 ho2 hg2 hid2
       have f4 : W2.frozen? ⟨g, 3, none⟩ = false := by
        obtain ⟨cs, hb⟩ := HBG.out
        have ht : Turn (fun k => (Value.slice AV nV cV).ownBlock = some k) X1 W2 := Turn.ofGrown hg2 (fun k hk => hk)
        exact (ht.bk (hb.later HBX.out) HGN.out).frozen 3
       have r4 : W2.cell? ⟨g, 3, none⟩ ≠ none := by
        obtain ⟨cs, hb⟩ := HBG.out
        have ht : Turn (fun k => (Value.slice AV nV cV).ownBlock = some k) X1 W2 := Turn.ofGrown hg2 (fun k hk => hk)
        rw [ht.cell (p := ⟨g, 3, none⟩) (by have := HBX.out.size; have := HGL.out; show g < _; omega) HGN.out, r3']
        simp
       obtain ⟨old, r5⟩ := Option.ne_none_iff_exists'.1 r4
       have HG2 := Lib.hid hg2
       have HO2 := Lib.hid ho2
       have HI2 := Lib.hid hid2
       clear ho2 hg2 hid2 r4
       refine hK.out _ _ ?_ (fun hHeld => ?_)
       ·
        exact trivial
       clear hK K
       try simp only [Act.put, List.setIfInBounds_toArray, List.set_cons_zero, List.set_cons_succ]
       refine wpAnyH_take (i := 9) (oi := ?p62) (v := ?v62) ?a62 (by kernel_rfl) ?b62 ?c62 ?q62 ?y62 hHeld ?z62
       case a62 => (simp only [List.getElem?_toArray, List.getElem?_cons_succ, List.getElem?_cons_zero]; exact rfl)
       case b62 => kernel_rfl
       case c62 => kernel_rfl
       case q62 => exact fun _ _ _ h => h
       case y62 =>
        refine Or.inl ⟨by rfl, ?_⟩
        intro V hSV
        go_simp
        (try with_reducible rfl)
       try simp only [Act.put, List.setIfInBounds_toArray, List.set_cons_zero, List.set_cons_succ]
       refine wpAnyH_take (i := 10) (oi := ?p63) (v := ?v63) ?a63 (by kernel_rfl) ?b63 ?c63 ?q63 ?y63 hHeld ?z63
       case a63 => (simp only [List.getElem?_toArray, List.getElem?_cons_succ, List.getElem?_cons_zero]; exact rfl)
       case b63 => kernel_rfl
       case c63 => kernel_rfl
       case q63 => exact fun _ _ _ h => h
       case y63 =>
        refine Or.inl ⟨by rfl, ?_⟩
        intro V hSV
        go_simp
        (try with_reducible rfl)
       try simp only [Act.put, List.setIfInBounds_toArray, List.set_cons_zero, List.set_cons_succ]
       refine wpAnyH_ready (rs := [11]) (by kernel_rfl) (by simp) ?_
       refine AllReadyH.cons (o := ?od64) ?hod64 (fun K hK => ?kd64) ?md64
       case hod64 => (simp only [List.getElem?_toArray, List.getElem?_cons_succ, List.getElem?_cons_zero]; exact rfl)
       case kd64 =>
        go_simp
        obtain ⟨Z, hZ⟩ : ∃ Z, Z = W2.setCell ⟨g, 3, none⟩ (.slice A' (nV + 1) c') := ⟨_, rfl⟩
        rw [← hZ]
        have HZW := Lib.hid hZ
        clear hZ f4 r5
        refine hK.out _ _ ?_ (fun hHeld => ?_)
        ·
         exact trivial
        clear hK K
        try simp only [Act.put, List.setIfInBounds_toArray, List.set_cons_zero, List.set_cons_succ]
        refine wpAnyH_done (by kernel_rfl) ?_ _
        clear hHeld HX
        try clear hlit
        have HTT := Lib.hid (show Turn (fun k => (Value.slice AV nV cV).ownBlock = some k) U1 W2 from (Turn.ofBelow (G := fun k => (Value.slice AV nV cV).ownBlock = some k) HBX.out).trans (Turn.ofGrown HG2.out (fun k hk => hk)))
        have HTZ := Lib.hid (show Turn (fun k => k = g ∨ (Value.slice AV nV cV).ownBlock = some k) U1 Z by
         rw [HZW.out]
         exact (HTT.out.mono (fun k _ hk => .inr hk)).setCell (p := ⟨g, 3, none⟩) (fun _ => .inl rfl) _)
        have HAN := Lib.hid (show ¬ (a0 = g ∨ (Value.slice AV nV cV).ownBlock = some a0) by
         rintro (e | e)
         ·
          obtain ⟨cs, hb⟩ := HBG.out
          have hh := HA1.out
          rw [e] at hh
          have := hh.symm.trans hb
          simp only [Option.some.injEq, Obj.cells.injEq] at this
          exact absurd this.2.1 (by decide)
         ·
          exact own_far HOV.out HA1.out (by decide) e)
        have z2 := (HTZ.out.bk HA1.out HAN.out).readT (Below.refl _ _) 2 rfl
        have hw1 : IntKind.u32.wrap (nV : Int) = (nV : Int) := by rw [IntKind.wrap_u32] <;> (have := HLN.out; have := HFW.out; omega)
        by_cases hfull : 16 ≤ nV
        ·
         have h16 : decide ((16 : Int) ≤ (nV : Int)) = true := by simp; omega
         have HN := Lib.hid (show varE x s = .error (6, x.2.2) by unfold varE; rw [← HTX.out, HFD.out]; dsimp only; rw [if_pos (by have := HLN.out; omega)])
         have HTF := Lib.hid (show Turn F U1 Z by
          exact HTZ.out.mono (fun k hk e => HVF.out k e))
         clear hfull
         repeat (first | go_skip | go_guarded | go_step)
         exact ⟨rfl, .inr ⟨_, HN.out, rfl, (Mv.ofBelow (F := F) HU1.out).endT HTF.out⟩⟩
        ·
         have h16 : decide ((16 : Int) ≤ (nV : Int)) = false := by simp; omega
         have HN := Lib.hid (show varE x s = .ok (nV, (s.1, s.2.1, s.2.2 ++ [tx])) by unfold varE; rw [← HTX.out, HFD.out]; dsimp only; rw [if_neg (by have := HLN.out; omega), HLN.out])
         have hgs := (gs_var HGS.out HN.out).1
         obtain ⟨F2, hs2, hm2⟩ := HSET.out W2 A' (nV + 1) c' (s.2.2 ++ [tx]) HTT.out HO2.out (fun k hk => by
          rcases HI2.out with e | e
          ·
           exact .inl (e ▸ hk)
          ·
           right
           rw [e] at hk
           simp only [Option.some.injEq] at hk
           have := HBX.out.size
           omega) hgs
         rw [← HZW.out] at hs2 hm2
         have HS2 := Lib.hid hs2
         have HM2 := Lib.hid ((Mv.ofBelow (F := F) HU1.out).trans hm2)
         have HJ := Lib.hid (show nV < 16 by omega)
         clear hfull hgs hs2 hm2
         repeat (first | go_skip | go_guarded | go_step)
         go_ret
         have hi : (UInt32.ofNat nV).toNat = nV := ftoNat_of (by have := HJ.out; omega)
         exact .inl ⟨nV, _, _, F2, HN.out, rfl, ⟨by unfold nv; rw [hi]; rfl, HJ.out⟩, HS2.out, HM2.out⟩
       exact AllReadyH.nil
      exact AllReadyH.nil
     exact AllReadyH.nil
    exact AllReadyH.nil
   refine AllReadyH.cons (o := ?od65) ?hod65 (fun K hK => ?kd65) ?md65
   case hod65 => (simp only [List.getElem?_toArray, List.getElem?_cons_succ, List.getElem?_cons_zero]; exact rfl)
   case kd65 =>
    go_simp
    refine hK.out _ _ ?_ (fun hHeld => ?_)
    ·
     exact trivial
    clear hK K
    try simp only [Act.put, List.setIfInBounds_toArray, List.set_cons_zero, List.set_cons_succ]
    refine wpAnyH_ready (rs := [4, 7]) (by kernel_rfl) (by simp) ?_
    refine AllReadyH.cons (o := ?od66) ?hod66 (fun K hK => ?kd66) ?md66
    case hod66 => (simp only [List.getElem?_toArray, List.getElem?_cons_succ, List.getElem?_cons_zero]; exact rfl)
    case kd66 =>
     go_simp
     refine hK.out _ _ ?_ (fun hHeld => ?_)
     ·
      exact trivial
     clear hK K
     try simp only [Act.put, List.setIfInBounds_toArray, List.set_cons_zero, List.set_cons_succ]
     refine wpAnyH_ready (rs := [7]) (by kernel_rfl) (by simp) ?_
     refine AllReadyH.cons (o := ?od67) ?hod67 (fun K hK => ?kd67) ?md67
     case hod67 => (simp only [List.getElem?_toArray, List.getElem?_cons_succ, List.getElem?_cons_zero]; exact rfl)
     case kd67 =>
      go_simp
      obtain ⟨X1, hX1⟩ : ∃ X1, X1 = U1.drew.alloc (.cells #[sv tx] 9) := ⟨_, rfl⟩
      rw [show (U1.alloc (.cells #[sv tx] 9)).drew = X1 from hX1.symm]
      obtain ⟨hbx, hrx⟩ := HX.out X1 hX1
      have HBX := Lib.hid hbx
      have HRX := Lib.hid hrx
      have r3' : X1.cell? ⟨g, 3, none⟩ = some (.slice AV nV cV) := (hbx.cell (p := ⟨g, 3, none⟩) HGL.out).trans r3
      have HOX := Lib.hid (ownBelow HOV.out hbx (Nat.le_refl _))
      clear hX1 hbx hrx hlit
      refine hK.out _ _ ?_ (fun hHeld => ?_)
      ·
       exact trivial
      clear hK K
      try simp only [Act.put, List.setIfInBounds_toArray, List.set_cons_zero, List.set_cons_succ]
      refine wpAnyH_ready (rs := [8]) (by kernel_rfl) (by simp) ?_
      refine AllReadyH.cons (o := ?od68) ?hod68 (fun K hK => ?kd68) ?md68
      case hod68 => (simp only [List.getElem?_toArray, List.getElem?_cons_succ, List.getElem?_cons_zero]; exact rfl)
      case kd68 =>
       refine anyd_appS (by rfl) (.tmp 24) (.tmp 27) (by rfl) 0 AV cV nV s.2.2 (by rfl) HOX.out _ _ 1 tx (by rfl) HRX.out (by have := HLN.out; have := HFW.out; omega) (Nat.zero_le _) ?_
       intro A' c' W2 ho2 hg2 hid2
       have f4 : W2.frozen? ⟨g, 3, none⟩ = false := by
        obtain ⟨cs, hb⟩ := HBG.out
        have ht : Turn (fun k => (Value.slice AV nV cV).ownBlock = some k) X1 W2 := Turn.ofGrown hg2 (fun k hk => hk)
        exact (ht.bk (hb.later HBX.out) HGN.out).frozen 3
       have r4 : W2.cell? ⟨g, 3, none⟩ ≠ none := by
        obtain ⟨cs, hb⟩ := HBG.out
        have ht : Turn (fun k => (Value.slice AV nV cV).ownBlock = some k) X1 W2 := Turn.ofGrown hg2 (fun k hk => hk)
        rw [ht.cell (p := ⟨g, 3, none⟩) (by have := HBX.out.size; have := HGL.out; show g < _; omega) HGN.out, r3']
        simp
       obtain ⟨old, r5⟩ := Option.ne_none_iff_exists'.1 r4
       have HG2 := Lib.hid hg2
       have HO2 := Lib.hid ho2
       have HI2 := Lib.hid hid2
       clear ho2 hg2 hid2 r4
       refine hK.out _ _ ?_ (fun hHeld => ?_)
       ·
        exact trivial
       clear hK K
       try simp only [Act.put, List.setIfInBounds_toArray, List.set_cons_zero, List.set_cons_succ]
       refine wpAnyH_take (i := 9) (oi := ?p69) (v := ?v69) ?a69 (by kernel_rfl) ?b69 ?c69 ?q69 ?y69 hHeld ?z69
       case a69 => (simp only [List.getElem?_toArray, List.getElem?_cons_succ, List.getElem?_cons_zero]; exact rfl)
       case b69 => kernel_rfl
       case c69 => kernel_rfl
       case q69 => exact fun _ _ _ h => h
       case y69 =>
        refine Or.inl ⟨by rfl, ?_⟩
        intro V hSV
        go_simp
        (try with_reducible rfl)
       try simp only [Act.put, List.setIfInBounds_toArray, List.set_cons_zero, List.set_cons_succ]
       refine wpAnyH_take (i := 10) (oi := ?p70) (v := ?v70) ?a70 (by kernel_rfl) ?b70 ?c70 ?q70 ?y70 hHeld ?z70
       case a70 => (simp only [List.getElem?_toArray, List.getElem?_cons_succ, List.getElem?_cons_zero]; exact rfl)
       case b70 => kernel_rfl
       case c70 => kernel_rfl
       case q70 => exact fun _ _ _ h => h
       case y70 =>
        refine Or.inl ⟨by rfl, ?_⟩
        intro V hSV
        go_simp
        (try with_reducible rfl)
       try simp only [Act.put, List.setIfInBounds_toArray, List.set_cons_zero, List.set_cons_succ]
       refine wpAnyH_ready (rs := [11]) (by kernel_rfl) (by simp) ?_
       refine AllReadyH.cons (o := ?od71) ?hod71 (fun K hK => ?kd71) ?md71
       case hod71 => (simp only [List.getElem?_toArray, List.getElem?_cons_succ, List.getElem?_cons_zero]; exact rfl)
       case kd71 =>
        go_simp
        obtain ⟨Z, hZ⟩ : ∃ Z, Z = W2.setCell ⟨g, 3, none⟩ (.slice A' (nV + 1) c') := ⟨_, rfl⟩
        rw [← hZ]
        have HZW := Lib.hid hZ
        clear hZ f4 r5
        refine hK.out _ _ ?_ (fun hHeld => ?_)
        ·
         exact trivial
        clear hK K
        try simp only [Act.put, List.setIfInBounds_toArray, List.set_cons_zero, List.set_cons_succ]
        refine wpAnyH_done (by kernel_rfl) ?_ _
        clear hHeld HX
        try clear hlit
        have HTT := Lib.hid (show Turn (fun k => (Value.slice AV nV cV).ownBlock = some k) U1 W2 from (Turn.ofBelow (G := fun k => (Value.slice AV nV cV).ownBlock = some k) HBX.out).trans (Turn.ofGrown HG2.out (fun k hk => hk)))
        have HTZ := Lib.hid (show Turn (fun k => k = g ∨ (Value.slice AV nV cV).ownBlock = some k) U1 Z by
         rw [HZW.out]
         exact (HTT.out.mono (fun k _ hk => .inr hk)).setCell (p := ⟨g, 3, none⟩) (fun _ => .inl rfl) _)
        have HAN := Lib.hid (show ¬ (a0 = g ∨ (Value.slice AV nV cV).ownBlock = some a0) by
         rintro (e | e)
         ·
          obtain ⟨cs, hb⟩ := HBG.out
          have hh := HA1.out
          rw [e] at hh
          have := hh.symm.trans hb
          simp only [Option.some.injEq, Obj.cells.injEq] at this
          exact absurd this.2.1 (by decide)
         ·
          exact own_far HOV.out HA1.out (by decide) e)
        have z2 := (HTZ.out.bk HA1.out HAN.out).readT (Below.refl _ _) 2 rfl
        have hw1 : IntKind.u32.wrap (nV : Int) = (nV : Int) := by rw [IntKind.wrap_u32] <;> (have := HLN.out; have := HFW.out; omega)
        by_cases hfull : 16 ≤ nV
        ·
         have h16 : decide ((16 : Int) ≤ (nV : Int)) = true := by simp; omega
         have HN := Lib.hid (show varE x s = .error (6, x.2.2) by unfold varE; rw [← HTX.out, HFD.out]; dsimp only; rw [if_pos (by have := HLN.out; omega)])
         have HTF := Lib.hid (show Turn F U1 Z by
          exact HTZ.out.mono (fun k hk e => HVF.out k e))
         clear hfull
         repeat (first | go_skip | go_guarded | go_step)
         exact ⟨rfl, .inr ⟨_, HN.out, rfl, (Mv.ofBelow (F := F) HU1.out).endT HTF.out⟩⟩
        ·
         have h16 : decide ((16 : Int) ≤ (nV : Int)) = false := by simp; omega
         have HN := Lib.hid (show varE x s = .ok (nV, (s.1, s.2.1, s.2.2 ++ [tx])) by unfold varE; rw [← HTX.out, HFD.out]; dsimp only; rw [if_neg (by have := HLN.out; omega), HLN.out])
         have hgs := (gs_var HGS.out HN.out).1
         obtain ⟨F2, hs2, hm2⟩ := HSET.out W2 A' (nV + 1) c' (s.2.2 ++ [tx]) HTT.out HO2.out (fun k hk => by
          rcases HI2.out with e | e
          ·
           exact .inl (e ▸ hk)
          ·
           right
           rw [e] at hk
           simp only [Option.some.injEq] at hk
           have := HBX.out.size
           omega) hgs
         rw [← HZW.out] at hs2 hm2
         have HS2 := Lib.hid hs2
         have HM2 := Lib.hid ((Mv.ofBelow (F := F) HU1.out).trans hm2)
         have HJ := Lib.hid (show nV < 16 by omega)
         clear hfull hgs hs2 hm2
         repeat (first | go_skip | go_guarded | go_step)
         go_ret
         have hi : (UInt32.ofNat nV).toNat = nV := ftoNat_of (by have := HJ.out; omega)
         exact .inl ⟨nV, _, _, F2, HN.out, rfl, ⟨by unfold nv; rw [hi]; rfl, HJ.out⟩, HS2.out, HM2.out⟩
       exact AllReadyH.nil
      exact AllReadyH.nil
     exact AllReadyH.nil
    refine AllReadyH.cons (o := ?od72) ?hod72 (fun K hK => ?kd72) ?md72
    case hod72 => (simp only [List.getElem?_toArray, List.getElem?_cons_succ, List.getElem?_cons_zero]; exact rfl)
    case kd72 =>
     go_simp
     obtain ⟨X1, hX1⟩ : ∃ X1, X1 = U1.drew.alloc (.cells #[sv tx] 9) := ⟨_, rfl⟩
     rw [show (U1.alloc (.cells #[sv tx] 9)).drew = X1 from hX1.symm]
     obtain ⟨hbx, hrx⟩ := HX.out X1 hX1
     have HBX := Lib.hid hbx
     have HRX := Lib.hid hrx
     have r3' : X1.cell? ⟨g, 3, none⟩ = some (.slice AV nV cV) := (hbx.cell (p := ⟨g, 3, none⟩) HGL.out).trans r3
     have HOX := Lib.hid (ownBelow HOV.out hbx (Nat.le_refl _))
     clear hX1 hbx hrx hlit
     refine hK.out _ _ ?_ (fun hHeld => ?_)
     ·
      exact trivial
     clear hK K
     try simp only [Act.put, List.setIfInBounds_toArray, List.set_cons_zero, List.set_cons_succ]
     refine wpAnyH_ready (rs := [4]) (by kernel_rfl) (by simp) ?_
     refine AllReadyH.cons (o := ?od73) ?hod73 (fun K hK => ?kd73) ?md73
     case hod73 => (simp only [List.getElem?_toArray, List.getElem?_cons_succ, List.getElem?_cons_zero]; exact rfl)
     case kd73 =>
      go_simp
      refine hK.out _ _ ?_ (fun hHeld => ?_)
      ·
       exact trivial
      clear hK K
      try simp only [Act.put, List.setIfInBounds_toArray, List.set_cons_zero, List.set_cons_succ]
      refine wpAnyH_ready (rs := [8]) (by kernel_rfl) (by simp) ?_
      refine AllReadyH.cons (o := ?od74) ?hod74 (fun K hK => ?kd74) ?md74
      case hod74 => (simp only [List.getElem?_toArray, List.getElem?_cons_succ, List.getElem?_cons_zero]; exact rfl)
      case kd74 =>
       refine anyd_appS (by rfl) (.tmp 24) (.tmp 27) (by rfl) 0 AV cV nV s.2.2 (by rfl) HOX.out _ _ 1 tx (by rfl) HRX.out (by have := HLN.out; have := HFW.out; omega) (Nat.zero_le _) ?_
       intro A' c' W2 ho2 hg2 hid2
       have f4 : W2.frozen? ⟨g, 3, none⟩ = false := by
        obtain ⟨cs, hb⟩ := HBG.out
        have ht : Turn (fun k => (Value.slice AV nV cV).ownBlock = some k) X1 W2 := Turn.ofGrown hg2 (fun k hk => hk)
        exact (ht.bk (hb.later HBX.out) HGN.out).frozen 3
       have r4 : W2.cell? ⟨g, 3, none⟩ ≠ none := by
        obtain ⟨cs, hb⟩ := HBG.out
        have ht : Turn (fun k => (Value.slice AV nV cV).ownBlock = some k) X1 W2 := Turn.ofGrown hg2 (fun k hk => hk)
        rw [ht.cell (p := ⟨g, 3, none⟩) (by have := HBX.out.size; have := HGL.out; show g < _; omega) HGN.out, r3']
        simp
       obtain ⟨old, r5⟩ := Option.ne_none_iff_exists'.1 r4
       have HG2 := Lib.hid hg2
       have HO2 := Lib.hid ho2
       have HI2 := Lib.hid hid2
       clear ho2 hg2 hid2 r4
       refine hK.out _ _ ?_ (fun hHeld => ?_)
       ·
        exact trivial
       clear hK K
       try simp only [Act.put, List.setIfInBounds_toArray, List.set_cons_zero, List.set_cons_succ]
       refine wpAnyH_take (i := 9) (oi := ?p75) (v := ?v75) ?a75 (by kernel_rfl) ?b75 ?c75 ?q75 ?y75 hHeld ?z75
       case a75 => (simp only [List.getElem?_toArray, List.getElem?_cons_succ, List.getElem?_cons_zero]; exact rfl)
       case b75 => kernel_rfl
       case c75 => kernel_rfl
       case q75 => exact fun _ _ _ h => h
       case y75 =>
        refine Or.inl ⟨by rfl, ?_⟩
        intro V hSV
        go_simp
        (try with_reducible rfl)
       try simp only [Act.put, List.setIfInBounds_toArray, List.set_cons_zero, List.set_cons_succ]
       refine wpAnyH_take (i := 10) (oi := ?p76) (v := ?v76) ?a76 (by kernel_rfl) ?b76 ?c76 ?q76 ?y76 hHeld ?z76
       case a76 => (simp only [List.getElem?_toArray, List.getElem?_cons_succ, List.getElem?_cons_zero]; exact rfl)
       case b76 => kernel_rfl
       case c76 => kernel_rfl
       case q76 => exact fun _ _ _ h => h
       case y76 =>
        refine Or.inl ⟨by rfl, ?_⟩
        intro V hSV
        go_simp
        (try with_reducible rfl)
       try simp only [Act.put, List.setIfInBounds_toArray, List.set_cons_zero, List.set_cons_succ]
       refine wpAnyH_ready (rs := [11]) (by kernel_rfl) (by simp) ?_
       refine AllReadyH.cons (o := ?od77) ?hod77 (fun K hK => ?kd77) ?md77
       case hod77 => (simp only [List.getElem?_toArray, List.getElem?_cons_succ, List.getElem?_cons_zero]; exact rfl)
       case kd77 =>
        go_simp
        obtain ⟨Z, hZ⟩ : ∃ Z, Z = W2.setCell ⟨g, 3, none⟩ (.slice A' (nV + 1) c') := ⟨_, rfl⟩
        rw [← hZ]
        have HZW := Lib.hid hZ
        clear hZ f4 r5
        refine hK.out _ _ ?_ (fun hHeld => ?_)
        ·
         exact trivial
        clear hK K
        try simp only [Act.put, List.setIfInBounds_toArray, List.set_cons_zero, List.set_cons_succ]
        refine wpAnyH_done (by kernel_rfl) ?_ _
        clear hHeld HX
        try clear hlit
        have HTT := Lib.hid (show Turn (fun k => (Value.slice AV nV cV).ownBlock = some k) U1 W2 from (Turn.ofBelow (G := fun k => (Value.slice AV nV cV).ownBlock = some k) HBX.out).trans (Turn.ofGrown HG2.out (fun k hk => hk)))
        have HTZ := Lib.hid (show Turn (fun k => k = g ∨ (Value.slice AV nV cV).ownBlock = some k) U1 Z by
         rw [HZW.out]
         exact (HTT.out.mono (fun k _ hk => .inr hk)).setCell (p := ⟨g, 3, none⟩) (fun _ => .inl rfl) _)
        have HAN := Lib.hid (show ¬ (a0 = g ∨ (Value.slice AV nV cV).ownBlock = some a0) by
         rintro (e | e)
         ·
          obtain ⟨cs, hb⟩ := HBG.out
          have hh := HA1.out
          rw [e] at hh
          have := hh.symm.trans hb
          simp only [Option.some.injEq, Obj.cells.injEq] at this
          exact absurd this.2.1 (by decide)
         ·
          exact own_far HOV.out HA1.out (by decide) e)
        have z2 := (HTZ.out.bk HA1.out HAN.out).readT (Below.refl _ _) 2 rfl
        have hw1 : IntKind.u32.wrap (nV : Int) = (nV : Int) := by rw [IntKind.wrap_u32] <;> (have := HLN.out; have := HFW.out; omega)
        by_cases hfull : 16 ≤ nV
        ·
         have h16 : decide ((16 : Int) ≤ (nV : Int)) = true := by simp; omega
         have HN := Lib.hid (show varE x s = .error (6, x.2.2) by unfold varE; rw [← HTX.out, HFD.out]; dsimp only; rw [if_pos (by have := HLN.out; omega)])
         have HTF := Lib.hid (show Turn F U1 Z by
          exact HTZ.out.mono (fun k hk e => HVF.out k e))
         clear hfull
         repeat (first | go_skip | go_guarded | go_step)
         exact ⟨rfl, .inr ⟨_, HN.out, rfl, (Mv.ofBelow (F := F) HU1.out).endT HTF.out⟩⟩
        ·
         have h16 : decide ((16 : Int) ≤ (nV : Int)) = false := by simp; omega
         have HN := Lib.hid (show varE x s = .ok (nV, (s.1, s.2.1, s.2.2 ++ [tx])) by unfold varE; rw [← HTX.out, HFD.out]; dsimp only; rw [if_neg (by have := HLN.out; omega), HLN.out])
         have hgs := (gs_var HGS.out HN.out).1
         obtain ⟨F2, hs2, hm2⟩ := HSET.out W2 A' (nV + 1) c' (s.2.2 ++ [tx]) HTT.out HO2.out (fun k hk => by
          rcases HI2.out with e | e
          ·
           exact .inl (e ▸ hk)
          ·
           right
           rw [e] at hk
           simp only [Option.some.injEq] at hk
           have := HBX.out.size
           omega) hgs
         rw [← HZW.out] at hs2 hm2
         have HS2 := Lib.hid hs2
         have HM2 := Lib.hid ((Mv.ofBelow (F := F) HU1.out).trans hm2)
         have HJ := Lib.hid (show nV < 16 by omega)
         clear hfull hgs hs2 hm2
         repeat (first | go_skip | go_guarded | go_step)
         go_ret
         have hi : (UInt32.ofNat nV).toNat = nV := ftoNat_of (by have := HJ.out; omega)
         exact .inl ⟨nV, _, _, F2, HN.out, rfl, ⟨by unfold nv; rw [hi]; rfl, HJ.out⟩, HS2.out, HM2.out⟩
       exact AllReadyH.nil
      exact AllReadyH.nil
     exact AllReadyH.nil
    exact AllReadyH.nil
   exact AllReadyH.nil
  exact AllReadyH.nil
end
end Go.Proofs.YtoigpbajefkpoaaGreatDoor

