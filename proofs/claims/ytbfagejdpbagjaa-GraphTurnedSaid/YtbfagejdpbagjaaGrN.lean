/- Layer 9 (graph): parts in the document's order. -/
import Derived.Test.YtbfagejdpbagjaaGrL
set_option linter.unusedVariables false
set_option linter.unusedSimpArgs false
namespace Go.Proofs.Ytbfagejdpbagjaa
open Go Go.RowKit

theorem wpList_slice1 {ops : Array Oper} {rest : List Oper} {o : Oper} {a : Act} {Q : Exit → Act → World → Prop} (w : World) (hgd : o.guard = none) (x : Operand)
    (ho : o.op = .slice 33 x (some (.const (.int .i64 1))) none none) (g of n c : Nat) (hx : a.eval x = .slice (some ⟨g, of, none⟩) (n + 1) c) (hle : n + 1 ≤ c)
    (h : wpList Try.prog ops Q rest (a.put o.dst (.slice (some ⟨g, if c = 1 then of else of + 1, none⟩) n (c - 1))) w) : wpList Try.prog ops Q (o :: rest) a w := by
  refine wpList_plain hgd fun K hK => ?_
  unfold Oper.wp execOp
  simp only [ho, hx]
  have h1 : (1 : Int) ≤ (c : Int) := by omega
  have h2 : (1 : Int) ≤ (n : Int) + 1 := by omega
  by_cases hc : c = 1
  · subst hc
    have hn : n = 0 := by omega
    subst hn
    rw [if_pos rfl] at h
    go_simp
    exact hK _ _ h
  · rw [if_neg hc] at h
    have h3 : ¬ (c : Int) = 1 := by omega
    go_simp
    exact hK _ _ h
def slv (P : List (List Nat)) (R : List (Nat × Nat)) (d : Nat) : Value := .slice (some ⟨(R.getD d (0, 0)).1, 0, none⟩) (P.getD d []).length (R.getD d (0, 0)).2
theorem slv_one (P : List (List Nat)) (R : List (Nat × Nat)) (d : Nat) : (slv P R d).oneCell' = true := rfl
/-- What is turned while parts are told. -/
structure Kw (w2 : World) (gW k : Nat) (P : List (List Nat)) (R : List (Nat × Nat)) (wf : Nat → Nat) (D free : List Nat) (lA : Option Addr) (lc : Nat) (fA : Option Addr) (fc : Nat) (wr : World) : Prop where
  T : Turn (fun x => x = gW) w2 wr
  gl : gW < w2.heap.size
  waits : Bk wr gW 3 (fnC k wf)
  lown : wr.ownsRow w2.heap.size 33 1 (.slice lA D.length lc) D.length (D.map (slv P R))
  fown : OwF wr w2.heap.size fA fc free.length free
  ap : ∀ x, blockOf lA = some x → blockOf fA ≠ some x
section
variable {w2 wr wr' : World} {gW k : Nat} {P : List (List Nat)} {R : List (Nat × Nat)} {wf : Nat → Nat} {D free : List Nat} {lA fA : Option Addr} {lc fc : Nat}
theorem Kw.later (h : Kw w2 gW k P R wf D free lA lc fA fc wr) (hb : Below wr.heap.size wr wr') : Kw w2 gW k P R wf D free lA lc fA fc wr' :=
  ⟨h.T.then_ (Turn.ofBelow (G := fun x => x = gW) hb) fun _ _ e => e, h.gl, h.waits.later hb, ownBelow h.lown hb (Nat.le_refl _), h.fown.keep (G := fun _ => False) (Turn.ofBelow hb) (fun _ _ e => e), h.ap⟩
theorem Kw.setW (h : Kw w2 gW k P R wf D free lA lc fA fc wr) (i x : Nat) : Kw w2 gW k P R (upd wf i x) D free lA lc fA fc (wr.setCell ⟨gW, i, none⟩ (ni x)) := by
  have hT : Turn (fun x => x = gW) wr (wr.setCell ⟨gW, i, none⟩ (ni x)) := (Turn.refl (fun x => x = gW) wr).setCell (p := ⟨gW, i, none⟩) (fun _ => rfl) _
  have hg := h.gl
  refine ⟨h.T.then_ hT fun _ _ e => e, hg, ?_, turn_own hT h.lown fun y hy e => ?_, h.fown.keep hT fun y hy e => ?_, h.ap⟩
  · rw [← fnC_set]; exact h.waits.set_ _ _
  · have := (own_low h.lown hy).1; omega
  · have := (h.fown.low hy).1; omega
/-- The list of those that are free was taken another way. -/
theorem Kw.free_ {free' : List Nat} {fA' : Option Addr} {fc' : Nat} (h : Kw w2 gW k P R wf D free lA lc fA fc wr) (T : Turn (fun x => blockOf fA = some x) wr wr') (hf : OwF wr' w2.heap.size fA' fc' free'.length free') (hb : blockOf fA' = blockOf fA ∨ ∃ x, blockOf fA' = some x ∧ wr.heap.size ≤ x) :
    Kw w2 gW k P R wf D free' lA lc fA' fc' wr' := by
  have hg := h.gl
  have hl : ∀ x, blockOf fA = some x → w2.heap.size ≤ x := fun x hx => (h.fown.low hx).1
  refine ⟨h.T.then_ T fun x hx e => by have := hl x e; omega, hg, T.bk h.waits fun e => by have := hl _ e; omega, turn_own T h.lown fun x hx e => h.ap x hx e, hf, fun x hx e => ?_⟩
  rcases hb with q | ⟨y, q, hy⟩
  · exact h.ap x hx (q ▸ e)
  · rw [q] at e
    have := Option.some.inj e
    have := (own_low h.lown hx).2
    omega
/-- One more is told. -/
theorem Kw.told_ {lA' : Option Addr} {lc' d : Nat} (h : Kw w2 gW k P R wf D free lA lc fA fc wr) (T : Turn (fun x => blockOf lA = some x) wr wr') (hl : wr'.ownsRow w2.heap.size 33 1 (.slice lA' (D.length + 1) lc') (D.length + 1) (D.map (slv P R) ++ [slv P R d])) (hb : blockOf lA' = blockOf lA ∨ ∃ x, blockOf lA' = some x ∧ wr.heap.size ≤ x) :
    Kw w2 gW k P R wf (D ++ [d]) free lA' lc' fA fc wr' := by
  have hg := h.gl
  have hlo : ∀ x, blockOf lA = some x → w2.heap.size ≤ x := fun x hx => (own_low h.lown hx).1
  refine ⟨h.T.then_ T fun x hx e => by have := hlo x e; omega, hg, T.bk h.waits fun e => by have := hlo _ e; omega, ?_, h.fown.keep T fun x hx e => h.ap x e hx, fun x hx e => ?_⟩
  · rw [List.length_append, List.map_append]; exact hl
  · rcases hb with q | ⟨y, q, hy⟩
    · exact h.ap x (q ▸ hx) e
    · rw [q] at hx
      have := Option.some.inj hx
      have := (h.fown.low e).2
      omega
end
theorem Ki.free_len {n : Nat} {E : List (Nat × Nat)} {Q : List (List Nat)} {D free rest : List Nat} {w : Nat → Nat} (h : Ki n E Q D w free rest) : free.length ≤ Q.length :=
  nodup_below _ _ (h.sorted.imp fun {a b} k e => by subst e; omega) fun x hx => ((h.free x).1 hx).1
theorem Ki.told_len {n : Nat} {E : List (Nat × Nat)} {Q : List (List Nat)} {D free rest : List Nat} {w : Nat → Nat} (h : Ki n E Q D w free rest) : D.length ≤ Q.length := nodup_below _ _ h.nodup h.lt
theorem told_snoc (Q : List (List Nat)) (D : List Nat) (j : Nat) : told Q (D ++ [j]) = told Q D ++ [Q.getD j []] := by unfold told; rw [List.map_append]; rfl
set_option maxRecDepth 100000 in
set_option maxHeartbeats 8000000 in
theorem inOrder_any (w : World) (n base : Nat) (E : List (Nat × Nat)) (Ae : Option Addr) (ne ce : Nat) (hr : RdE w base Ae ne (ei E)) (hE : In n E) (hn : n ≤ 4096) (hne : ne ≤ 16384) (hbase : base ≤ w.heap.size)
    (A : Option Addr) (c : Nat) (P0 : List (List Nat)) (R0 : List (Nat × Nat)) (hp : PR w base A c P0 R0) (hI : IsParts n E P0) :
    Calls Try.prog 18 #[ni n, .slice Ae ne ce, .slice A P0.length c] w fun e w' => ∃ A' c' L R', e = .returned (.slice A' L.length c') ∧ RdP w' w'.heap.size A' L R' ∧ Order n E [] L ∧ L.length ≤ 4096 ∧ Turn (fun x => blockOf A = some x) w w' := by
  have hsort := sortParts_any w base c n E A P0 R0 hp hI hn
  have HLO := Lib.hid (show ∀ x, blockOf A = some x → base ≤ x from fun x hx => (own_low hp.own hx).1)
  obtain ⟨k, hk⟩ : ∃ k, k = P0.length := ⟨_, rfl⟩
  rw [← hk] at hsort ⊢
  have hkn : k ≤ n := by rw [hk]; exact hI.len_le
  have HK0 := Lib.hid hk
  have HR := Lib.hid hr
  have HE := Lib.hid hE
  have HI0 := Lib.hid hI
  have HLEN := Lib.hid (show E.length = ne by rw [← ei_len]; exact hr.len)
  clear hr hE hp hI hk
  go_enter Try.func18, Try.ntmps18
  repeat (first | go_skip | go_guarded | go_step)
  refine hsort.mono ?_
  rintro e w1 ⟨rfl, P, R, hperm, hhd, hrp, hT1⟩
  have HI := Lib.hid (HI0.out.perm hperm)
  have HK := Lib.hid (show k = P.length by rw [HK0.out, hperm.length_eq])
  have HHD := Lib.hid hhd
  have HRP := Lib.hid hrp
  have HT1 := Lib.hid hT1
  have hs1 := hT1.size
  have HR1 := Lib.hid ((HR.out.below (hT1.below (B := base) (fun x _ e => HLO.out x e) hbase)).more (show base ≤ w1.heap.size by omega))
  clear hperm hhd hrp hT1 hsort HI0 HK0
  dsimp only
  repeat (first | go_skip | go_guarded | go_step)
  refine (between_any w1 n E Ae ne ce HR1.out HE.out hn hne A k c P R HRP.out HI.out HK.out).mono ?_
  rintro e w2 ⟨gW, gF, gA, gc, glv, rfl, hbW, hgW, hgF, hWF, ⟨bs, hbs, hRR⟩, hb2⟩
  have HBW := Lib.hid hbW
  have HGW := Lib.hid hgW
  have HGF := Lib.hid hgF
  have HWF := Lib.hid hWF
  have HBS := Lib.hid hbs
  have HRR := Lib.hid hRR
  have HB2 := Lib.hid hb2
  clear hbW hgW hgF hWF hbs hRR hb2 hs1
  dsimp only
  repeat (first | go_skip | go_guarded | go_step)
  go_loopw [28, 9] (fun q f wr => ∃ (j : Nat) (fA : Option Addr) (fc : Nat), j ≤ k ∧ q = .int .i64 (j : Int) ∧ f = .slice fA ((List.range j).filter fun i => decide (out P E [] i = 0)).length fc ∧ OwI wr w2.heap.size fA fc ((List.range j).filter fun i => decide (out P E [] i = 0)).length ((List.range j).filter fun i => decide (out P E [] i = 0)) ∧ Below w2.heap.size w2 wr) (fun q _ _ => k - (intOf q).toNat)
  case atStart => exact ⟨0, none, 0, by omega, rfl, rfl, OwI.nil _ _, Below.refl _ _⟩
  case round =>
    rename World => wr
    obtain ⟨j, fA, fc, hj, rfl, rfl, hof, hbw⟩ := hrel
    obtain ⟨fl, hfl⟩ : ∃ fl, fl = ((List.range j).filter fun i => decide (out P E [] i = 0)).length := ⟨_, rfl⟩
    rw [← hfl] at hof ⊢
    have hflk : fl ≤ j := by
      rw [hfl]
      have := List.length_filter_le (fun i => decide (out P E [] i = 0)) (List.range j)
      rwa [List.length_range] at this
    have HFL := Lib.hid hfl
    have HOF := Lib.hid hof
    have HBR := Lib.hid hbw
    clear hof hbw hfl
    by_cases hlt : j < k
    · have hji : (j : Int) < (k : Int) := by omega
      have cw : wr.cell? ⟨gW, j, none⟩ = some (ni (out P E [] j)) := ((HBW.out.later HBR.out).cell j).trans (fnC_at _ hlt)
      obtain ⟨ov, hov⟩ : ∃ ov, ov = out P E [] j := ⟨_, rfl⟩
      rw [← hov] at cw
      have HOV := Lib.hid hov
      clear hov
      by_cases h0 : ov = 0
      · subst h0
        have cw0 : wr.cell? ⟨gW, j, none⟩ = some (.int .i64 0) := cw
        clear cw
        have hlit := run_litI (j : Int) wr
        have hZ0 : Below wr.heap.size wr (wr.alloc (.cells #[.int .i64 (j : Int)] 3)) := (Below.refl _ _).alloc (Nat.le_refl _) _
        have HOZ := Lib.hid (show OwI (wr.alloc (.cells #[.int .i64 (j : Int)] 3)) w2.heap.size fA fc fl _ from ownBelow HOF.out hZ0 (Nat.le_refl _))
        have HZ0 := Lib.hid (HBR.out.trans (hZ0.mono HBR.out.size))
        have hbz : w2.heap.size ≤ (wr.alloc (.cells #[.int .i64 (j : Int)] 3)).heap.size := HZ0.out.size
        clear hZ0
        repeat (first
          | (at_builtin; refine appI _ rfl (.tmp 35) (.tmp 37) rfl w2.heap.size fA fc fl _ rfl HOZ.out _ _ 1 1 [j] rfl (litI_rd j wr) (by omega) hbz ?_
             intro A3 c3 Z hoZ htZ hfZ
             have HO3 := Lib.hid hoZ
             have HB3 := Lib.hid (HZ0.out.trans (htZ.below (B := w2.heap.size) (fun x _ e => (own_low HOZ.out e).1) hbz))
             clear hoZ htZ hfZ hlit cw0)
          | go_skip | go_guarded | go_step)
        have hsn : (List.range (j + 1)).filter (fun i => decide (out P E [] i = 0)) = (List.range j).filter (fun i => decide (out P E [] i = 0)) ++ [j] := by
          rw [List.range_succ, List.filter_append]
          congr 1
          simp [← HOV.out]
        go_roundw
        case rel => exact ⟨j + 1, A3, c3, by omega, by go_num, by rw [hsn, List.length_append, ← HFL.out]; rfl, by rw [hsn, List.length_append, ← HFL.out]; exact HO3.out, HB3.out⟩
        case measure => simp [intOf]; omega
      · have hne0 : ((ov : Int) == 0) = false := by simp; omega
        have hne1 : ¬ (ov : Int) = 0 := by omega
        repeat (first | go_skip | go_guarded | go_step)
        have hsn : (List.range (j + 1)).filter (fun i => decide (out P E [] i = 0)) = (List.range j).filter (fun i => decide (out P E [] i = 0)) := by
          rw [List.range_succ, List.filter_append]
          have : ([j] : List Nat).filter (fun i => decide (out P E [] i = 0)) = [] := by simp [← HOV.out, h0]
          rw [this, List.append_nil]
        go_roundw
        case rel => exact ⟨j + 1, fA, fc, by omega, by go_num, by rw [hsn, ← HFL.out], by rw [hsn, ← HFL.out]; exact HOF.out, HBR.out⟩
        case measure => simp [intOf]; omega
    · obtain rfl : j = k := by omega
      have hji : ¬ (j : Int) < (j : Int) := by omega
      have HKI := Lib.hid (show Ki n E P [] (out P E []) ((List.range j).filter fun i => decide (out P E [] i = 0)) [] by
        have := Ki.start n E P
        rw [← HK.out] at this
        exact this)
      have hgl := HBW.out.lt
      have HKW := Lib.hid (show Kw w2 gW j P R (out P E []) [] ((List.range j).filter fun i => decide (out P E [] i = 0)) none 0 fA fc wr from
        ⟨Turn.ofBelow HBR.out, hgl, HBW.out.later HBR.out, World.ownsRow_nil _ _ _ _, by rw [← HFL.out]; exact HOF.out.owF, fun x hx => absurd hx (by simp [blockOf])⟩)
      clear HOF hgl
      repeat (first | go_skip | go_guarded | go_step)
      go_loopg [6, 9] j (fun g lv fv w3 => ∃ (D free : List Nat) (wf : Nat → Nat) (lA fA : Option Addr) (lc fc : Nat), D.length + g = j ∧ lv = .slice lA D.length lc ∧ fv = .slice fA free.length fc ∧ Ki n E P D wf free [] ∧ Kw w2 gW j P R wf D free lA lc fA fc w3 ∧ ∀ L', Order n E (told P D).flatten L' → Order n E [] (told P D ++ L'))
      case atStart => exact ⟨[], _, _, none, fA, 0, fc, by simp, rfl, by rw [HFL.out], HKI.out, HKW.out, fun L' h => by simpa [told] using h⟩
      case round =>
        obtain ⟨G, rfl⟩ : ∃ G, G = gk := ⟨_, rfl⟩
        rename World => w3
        obtain ⟨D, free, wf, lA, fA, lc, fc, hDg, rfl, rfl, hki, hkw, hord⟩ := hrel
        have HDG := Lib.hid hDg
        have HKI := Lib.hid hki
        have HKW := Lib.hid hkw
        have HORD := Lib.hid hord
        have hDl : D.length ≤ j := by rw [HK.out]; exact hki.told_len
        obtain ⟨dl, hdl⟩ : ∃ dl, dl = D.length := ⟨_, rfl⟩
        rw [← hdl] at hDl ⊢
        have HDL := Lib.hid hdl
        clear hDg hki hkw hord hdl
        cases free with
        | nil =>
          repeat (first | go_skip | go_guarded | go_step)
          go_ret
          have hlown := HKW.out.lown
          have hlt := HKI.out.lt
          have hfin := HORD.out [] (.done (HKI.out.none_left HI.out HE.out))
          rw [List.append_nil] at hfin
          have hlen : (told P D).length = D.length := by unfold told; rw [List.length_map]
          have T3 : Turn (fun x => blockOf A = some x) w w3 := by
            refine HT1.out.then_ ((Turn.ofBelow (G := fun x => x = gW) HB2.out).trans HKW.out.T) (fun x hx e => ?_)
            have := HGW.out
            have := HT1.out.size
            omega
          refine ⟨lA, lc, told P D, D.map fun d => R.getD d (0, 0), by rw [hlen, HDL.out]; rfl, ⟨by rw [List.length_map, hlen], ?_, ?_⟩, hfin, by rw [hlen, ← HDL.out]; omega, T3⟩
          · have e : ((D.map fun d => R.getD d (0, 0)).zip (told P D)).map (fun x => Value.slice (some ⟨x.1.1, 0, none⟩) x.2.length x.1.2) = D.map (slv P R) := by
              unfold told
              refine List.ext_getElem (by simp) fun i h1 h2 => ?_
              simp [slv]
            rw [e, hlen]
            exact Rd.ofOwn hlown
          · intro i r p hr hp
            unfold told at hp
            rw [List.getElem?_map] at hr hp
            cases hd : D[i]? with
            | none => rw [hd] at hr; cases hr
            | some d =>
              rw [hd] at hr hp
              obtain rfl := Option.some.inj hr
              obtain rfl := Option.some.inj hp
              have hdlt := hlt d (List.mem_of_getElem? hd)
              have hpd : P[d]? = some (P.getD d []) := by rw [List.getD_eq_getElem?_getD, List.getElem?_eq_getElem hdlt]; rfl
              have hrd : R[d]? = some (R.getD d (0, 0)) := by rw [List.getD_eq_getElem?_getD, List.getElem?_eq_getElem (by rw [HRP.out.rlen]; exact hdlt)]; rfl
              obtain ⟨q1, q2, q3⟩ := HRP.out.row d _ _ hrd hpd
              have hws := HB2.out.size
              have hw3 := HKW.out.T.size
              have hgw := HGW.out
              refine ⟨by show (R.getD d (0, 0)).1 < _; omega, q2, fun m v hv => ?_⟩
              have h2 := (HB2.out.cell (p := ⟨(R.getD d (0, 0)).1, m, none⟩) q1).trans (q3 m v hv)
              exact (HKW.out.T.cell (p := ⟨(R.getD d (0, 0)).1, m, none⟩) (by show (R.getD d (0, 0)).1 < _; omega) (by show ¬ (R.getD d (0, 0)).1 = gW; omega)).trans h2
        | cons x fr =>
          have hxf := (HKI.out.free x).1 (by simp)
          obtain ⟨hxk, hxD, hxw⟩ := hxf
          have hxj : x < j := by rw [HK.out]; exact hxk
          have hfl := HKI.out.free_len
          rw [← HK.out] at hfl
          obtain ⟨gf, of, hfA, cf, HTL⟩ := HKW.out.fown.tail
          subst hfA
          have HTL := Lib.hid HTL
          have hfle := HKW.out.fown.le
          obtain ⟨n1, hn1⟩ : ∃ n1, n1 = fr.length := ⟨_, rfl⟩
          have hfle2 : n1 + 1 ≤ fc := by rw [hn1]; exact hfle
          have HN1 := Lib.hid hn1
          have hfl2 : n1 + 1 ≤ j := by rw [hn1]; exact hfl
          rw [List.length_cons, ← hn1]
          obtain ⟨o2, ho2⟩ : ∃ o2, o2 = (if fc = 1 then of else of + 1) := ⟨_, rfl⟩
          have HO2 := Lib.hid ho2
          have HXD := Lib.hid hxD
          clear hfle hn1 hfl ho2 hxD hxk hxw
          -- the part that is told, and who waited for it
          have hRP3 := (HRP.out.below HB2.out)
          have hgwl := HGW.out
          have HRP3 := Lib.hid (hRP3.below (HKW.out.T.below (B := w1.heap.size) (fun y _ e => by omega) HB2.out.size))
          obtain ⟨bp, op, r, p, hA, hbp, hri, hpi, hcp, _, _, _⟩ := HRP3.out.at_ (by rw [← HK.out]; exact hxj)
          have HPI := Lib.hid hpi
          have HRI := Lib.hid hri
          have hslv : slv P R x = .slice (some ⟨r.1, 0, none⟩) p.length r.2 := by
            unfold slv
            rw [List.getD_eq_getElem?_getD, List.getD_eq_getElem?_getD, hri, hpi]; rfl
          have HSLV := Lib.hid hslv
          obtain ⟨r1, hr1⟩ : ∃ r1, r1 = r.1 := ⟨_, rfl⟩
          obtain ⟨r2, hr2⟩ : ∃ r2, r2 = r.2 := ⟨_, rfl⟩
          obtain ⟨pl, hpl⟩ : ∃ pl, pl = p.length := ⟨_, rfl⟩
          rw [← hr1, ← hr2, ← hpl] at hcp
          have HSL2 := Lib.hid (show slv P R x = .slice (some ⟨r1, 0, none⟩) pl r2 by rw [hslv, hr1, hr2, hpl])
          clear hri hpi hslv hr1 hr2 hpl hRP3
          have HRR3 := Lib.hid (HRR.out.keep HKW.out.T (fun y e => by
            have h1 := HWF.out
            have h2 := HBS.out
            exact .inl ⟨by omega, by omega⟩))
          have hlit := run_litS (some ⟨r1, 0, none⟩) pl r2 w3
          have hZ0 : Below w3.heap.size w3 (w3.alloc (.cells #[.slice (some ⟨r1, 0, none⟩) pl r2] 33)) := (Below.refl _ _).alloc (Nat.le_refl _) _
          have HKZ := Lib.hid (HKW.out.later hZ0)
          have HZ0 := Lib.hid hZ0
          have hbz : w2.heap.size ≤ (w3.alloc (.cells #[.slice (some ⟨r1, 0, none⟩) pl r2] 33)).heap.size := HKZ.out.T.size
          have hxi : (x : Int) < (j : Int) := by omega
          have hx0 : (0 : Int) ≤ (x : Int) := by omega
          subst hA
          clear hZ0 hbp hgwl
          go_upto_region 14 with (first
            | (refine wpList_slice1 _ rfl (.tmp 46) rfl gf of n1 fc rfl hfle2 ?_
               rw [← HO2.out])
            | (at_builtin; refine appS _ rfl (.tmp 48) (.tmp 53) rfl w2.heap.size lA lc dl (D.map (slv P R)) rfl (by rw [HDL.out]; exact HKZ.out.lown) _ _ 1 1 [.slice (some ⟨r1, 0, none⟩) pl r2] rfl (litS_rd _ _ _ w3) (by simp [Value.oneCell']) (by omega) hbz ?_
               intro A5 c5 w5 ho5 ht5 hf5
               have HO5 := Lib.hid ho5
               have HT5 := Lib.hid ht5
               have HF5 := Lib.hid hf5
               clear ho5 ht5 hf5 hlit))
          have HKW5 := Lib.hid (HKZ.out.told_ (d := x) HT5.out (by rw [HSL2.out, ← HDL.out]; exact HO5.out) (HF5.out.imp id fun h => ⟨_, h, Nat.le_refl _⟩))
          have HB35 := Lib.hid ((Turn.ofBelow (G := fun y => blockOf lA = some y) HZ0.out).trans HT5.out)
          have HFT := Lib.hid (show OwF w5 w2.heap.size (some ⟨gf, o2, none⟩) (fc - 1) fr.length fr by
            have h := HTL.out.keep HB35.out (fun y hy e => HKW.out.ap y e (show blockOf (some ⟨gf, of, none⟩) = some y from hy))
            rw [← HO2.out] at h
            exact h)
          have HKW6 := Lib.hid (show Kw w2 gW j P R wf (D ++ [x]) fr A5 c5 (some ⟨gf, o2, none⟩) (fc - 1) w5 from
            ⟨HKW5.out.T, HKW5.out.gl, HKW5.out.waits, HKW5.out.lown, HFT.out, fun y hy e => HKW5.out.ap y hy (show blockOf (some ⟨gf, of, none⟩) = some y from e)⟩)
          have HKI6 := Lib.hid (HKI.out.next HI.out HE.out)
          have HNX := Lib.hid (HKI.out.nxt HI.out HE.out HHD.out)
          have HRR5 := Lib.hid (HRR.out.keep HKW6.out.T (fun y e => by
            have h1 := HWF.out
            have h2 := HBS.out
            exact .inl ⟨by omega, by omega⟩))
          obtain ⟨hl1, hl2⟩ := HRR5.out.lead x hxj
          have cfr : w5.cell? ⟨gF, x, none⟩ = some (.slice (gA x) (into P E x).length (gc x)) := (HRR5.out.blk.cell x).trans hl1
          obtain ⟨il, hil⟩ : ∃ il, il = (into P E x).length := ⟨_, rfl⟩
          rw [← hil] at cfr
          have hilb : il ≤ 16384 := by
            have := into_len P E x
            have := HLEN.out
            omega
          have HIL := Lib.hid hil
          have HL0 := Lib.hid (HRR.out.lead x hxj).2
          have hn1fr := HN1.out
          clear hl1 hl2 hil HTL HKW HKZ HZ0 HKW5 HFT hbz
          repeat (first | go_skip | go_guarded | go_step)
          go_loopw [60, 9] (fun q fv w6 => ∃ (m : Nat) (free2 : List Nat) (wf2 : Nat → Nat) (fA2 : Option Addr) (fc2 : Nat), m ≤ il ∧ q = .int .i64 (m : Int) ∧ fv = .slice fA2 free2.length fc2 ∧ Ki n E P (D ++ [x]) wf2 free2 ((into P E x).drop m) ∧ Kw w2 gW j P R wf2 (D ++ [x]) free2 A5 c5 fA2 fc2 w6) (fun q _ _ => il - (intOf q).toNat)
          case atStart => exact ⟨0, fr, wf, _, _, by omega, rfl, by rw [← hn1fr], by rw [List.drop_zero]; exact HKI6.out, HKW6.out⟩
          case round =>
            rename World => w6
            obtain ⟨m, free2, wf2, fA2, fc2, hm, rfl, rfl, hki2, hkw2⟩ := hrel
            have HKI2 := Lib.hid hki2
            have HKW2 := Lib.hid hkw2
            have hf2l := hki2.free_len
            rw [← HK.out] at hf2l
            obtain ⟨f2, hf2⟩ : ∃ f2, f2 = free2.length := ⟨_, rfl⟩
            rw [← hf2] at hf2l ⊢
            have HF2 := Lib.hid hf2
            clear hki2 hkw2 hf2
            by_cases hltm : m < il
            · have hmi : (m : Int) < (il : Int) := by omega
              obtain ⟨gr, hgr, hgr1, hgr2, hgrc, hgrl, _⟩ := ownSome HL0.out (by rw [← HIL.out]; omega)
              obtain ⟨y, hy⟩ : ∃ y, (into P E x)[m]? = some y := ⟨_, List.getElem?_eq_getElem (by rw [← HIL.out]; exact hltm)⟩
              have cy : w6.cell? ⟨gr, m, none⟩ = some (ni y) := by
                refine (HKW2.out.T.cell (p := ⟨gr, m, none⟩) hgr2 (by have := HBS.out; show ¬ gr = gW; omega)).trans (hgrl m (ni y) (by rw [List.getElem?_map, hy]; rfl))
              have hdrop : (into P E x).drop m = y :: (into P E x).drop (m + 1) := by
                obtain ⟨h1, h2⟩ := List.getElem?_eq_some_iff.1 hy
                rw [List.drop_eq_getElem_cons h1, h2]
              have hki3 := HKI2.out
              rw [hdrop] at hki3
              have HKI3 := Lib.hid hki3
              obtain ⟨hyk, hyp, hyD, hyf⟩ := hki3.head_pos
              have hyj : y < j := by rw [HK.out]; exact hyk
              have hwb : wf2 y ≤ 40000 := by
                have h1 := hki3.waits y hyk
                have h2 := out_len P E (D ++ [x]) y
                have h3 : (y :: (into P E x).drop (m + 1)).count y ≤ (y :: (into P E x).drop (m + 1)).length := List.count_le_length
                rw [← hdrop, List.length_drop, ← HIL.out] at h3
                have h4 := HLEN.out
                rw [← hdrop] at h1
                omega
              obtain ⟨wv, hwv⟩ : ∃ wv, wf2 y = wv + 1 := ⟨wf2 y - 1, by omega⟩
              have cw : w6.cell? ⟨gW, y, none⟩ = some (.int .i64 ((wv : Int) + 1)) := by
                rw [HKW2.out.waits.cell y, fnC_at _ hyj, hwv]; rfl
              have fw := HKW2.out.waits.frozen y
              have hwv2 : wv ≤ 40000 := by omega
              have HYF := Lib.hid hyf
              have HWV := Lib.hid hwv
              have hyi : (y : Int) < (j : Int) := by omega
              have hy0 : (0 : Int) ≤ (y : Int) := by omega
              have hwr : IntKind.i64.wrap (wv : Int) = (wv : Int) := by rw [IntKind.wrap_i64]; omega
              have hgAx : gA x = some ⟨gr, 0, none⟩ := hgr
              rw [hgAx]
              clear hgr hgr1 hgr2 hgrc hgrl hy hdrop hki3 hyk hyp hyD hyf hwb hwv hgAx
              go_upto_region 18 with (fail)
              obtain ⟨w7, hw7, hkw7⟩ : ∃ w7, w7 = w6.setCell ⟨gW, y, none⟩ (.int .i64 (wv : Int)) ∧ Kw w2 gW j P R (upd wf2 y wv) (D ++ [x]) free2 A5 c5 fA2 fc2 w7 := ⟨_, rfl, HKW2.out.setW y wv⟩
              rw [← hw7]
              have HKW7 := Lib.hid hkw7
              have cw7 : w7.cell? ⟨gW, y, none⟩ = some (.int .i64 (wv : Int)) := by
                rw [hkw7.waits.cell y, fnC_at _ hyj, upd_same]
              clear hw7 hkw7 cw fw cy hwr
              have HWP := Lib.hid (show upd wf2 y (wf2 y - 1) = upd wf2 y wv by rw [HWV.out]; rfl)
              by_cases h0 : wv = 0
              · subst h0
                have cw8 : w7.cell? ⟨gW, y, none⟩ = some (.int .i64 0) := cw7
                clear cw7
                repeat (first | go_skip | go_guarded | go_step)
                refine (search_any w7 w2.heap.size fA2 fc2 f2 free2 (by rw [HF2.out]; exact HKW7.out.fown) HKI3.out.sorted (by omega) y HYF.out).mono ?_
                rintro e w8 ⟨kk, bb, rfl, hkk, hlo, hhi, q, rfl⟩
                have HLO2 := Lib.hid hlo
                have HHI2 := Lib.hid hhi
                have HKW8 := Lib.hid (HKW7.out.later (belowDrews (Below.refl _ w7) q))
                obtain ⟨w8, hw8⟩ : ∃ w8, w8 = w7.drewN q := ⟨_, rfl⟩
                rw [← hw8] at HKW8 ⊢
                clear hw8 hlo hhi cw8
                dsimp only
                have hlit := run_litI (y : Int) w8
                have hZ0 : Below w8.heap.size w8 (w8.alloc (.cells #[.int .i64 (y : Int)] 3)) := (Below.refl _ _).alloc (Nat.le_refl _) _
                have HKW9 := Lib.hid (HKW8.out.later hZ0)
                have hvb := Bk.new w8 3 [ni y]
                have HVB := Lib.hid hvb
                have HVA := Lib.hid (show blockOf fA2 ≠ some w8.heap.size from fun e => by have := (HKW8.out.fown.low e).2; omega)
                have hbz : w2.heap.size ≤ (w8.alloc (.cells #[.int .i64 (y : Int)] 3)).heap.size := HKW9.out.T.size
                clear hZ0 hvb
                repeat (first | go_skip | go_guarded | go_step)
                refine (insert_any _ w2.heap.size fA2 fc2 f2 free2 (by rw [HF2.out]; exact HKW9.out.fown) kk hkk (by omega) w8.heap.size y HVB.out HVA.out hbz).mono ?_
                rintro e w10 ⟨fA3, fc3, rfl, hof, htf, hbf⟩
                have hilen : (ins free2 kk y).length = f2 + 1 := by rw [ins_len (by rw [← HF2.out]; exact hkk), HF2.out]
                have HKW10 := Lib.hid (HKW9.out.free_ (free' := ins free2 kk y) htf (by rw [hilen]; exact hof) hbf)
                have HILN := Lib.hid hilen
                clear hof htf hbf hilen hlit
                dsimp only
                repeat (first | go_skip | go_guarded | go_step)
                have hfr := HKI3.out.freed (k := kk) (by rw [HWV.out]) (by rw [← HF2.out]; exact hkk) HLO2.out HHI2.out
                rw [HWP.out] at hfr
                go_roundw
                case rel => exact ⟨m + 1, ins free2 kk y, upd wf2 y 0, fA3, fc3, by omega, by go_num, by rw [HILN.out], hfr, HKW10.out⟩
                case measure => simp [intOf]; omega
              · have hb0 : ((wv : Int) == 0) = false := by simp; omega
                have hb1 : ¬ (wv : Int) = 0 := by omega
                repeat (first | go_skip | go_guarded | go_step)
                have hdn := HKI3.out.down (by rw [HWV.out]; omega)
                rw [HWP.out] at hdn
                go_roundw
                case rel => exact ⟨m + 1, free2, upd wf2 y wv, fA2, fc2, by omega, by go_num, by rw [HF2.out], hdn, HKW7.out⟩
                case measure => simp [intOf]; omega
            · obtain rfl : m = il := by omega
              have hmi : ¬ (m : Int) < (m : Int) := by omega
              have HKI3 := Lib.hid (show Ki n E P (D ++ [x]) wf2 free2 [] by
                have h := HKI2.out
                rw [List.drop_of_length_le (by rw [← HIL.out]; exact Nat.le_refl _)] at h
                exact h)
              repeat (first | go_skip | go_guarded | go_step)
              have hG : D.length + 1 ≤ j := by
                have := HKI3.out.told_len
                rw [← HK.out, List.length_append] at this
                exact this
              have hDG := HDG.out
              obtain ⟨v, hv1, hv2⟩ := HNX.out
              go_roundg (G - 1)
              case measure => omega
              case rel => exact ⟨D ++ [x], free2, wf2, A5, fA2, c5, fc2, by rw [List.length_append, List.length_singleton]; omega, by rw [List.length_append, HDL.out]; rfl, by rw [HF2.out], HKI3.out, HKW2.out, fun L' hL' => by
                rw [told_snoc] at hL' ⊢
                rw [List.flatten_append] at hL'
                have e : [P.getD x []].flatten = part n E v := by rw [hv2]; simp
                rw [e] at hL'
                have := HORD.out (part n E v :: L') (.next hv1 hL')
                rw [hv2, List.append_assoc]
                exact this⟩
end Go.Proofs.Ytbfagejdpbagjaa
