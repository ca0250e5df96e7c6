/- Texts, packed: GrF2 SaR SaS -/
import Derived.Test.YtfmghkplafploaaPwO
import Derived.Test.YtfmghkplafploaaPwB
import Derived.Test.YtfmghkplafploaaPwG
import Derived.Test.YtfmghkplafploaaRows
set_option linter.unusedVariables false
set_option linter.unusedSimpArgs false
namespace Go.Proofs.Ytfmghkplafploaa
open Go Go.RowKit Go.Sort Go.Lib Go.Shelf

theorem PR.lows {w : World} {base c : Nat} {A : Option Addr} {P : List (List Nat)} {R : List (Nat × Nat)} (h : PR w base A c P R) : ∀ r ∈ R, base ≤ r.1 := fun r hr => by
  obtain ⟨i, hi, e⟩ := List.getElem_of_mem hr
  have h1 : R[i]? = some r := by rw [List.getElem?_eq_getElem hi, e]
  have h2 : P[i]? = some (P[i]'(by rw [← h.rlen]; exact hi)) := List.getElem?_eq_getElem _
  exact (h.row i r _ h1 h2).1
set_option maxRecDepth 100000 in
set_option maxHeartbeats 1000000 in
theorem sortParts_fresh (w : World) (base c n : Nat) (E : List (Nat × Nat)) (A : Option Addr) (P : List (List Nat)) (R : List (Nat × Nat)) (h : PR w base A c P R) (hI : IsParts n E P) (hn : n ≤ 4096) :
    Calls Try.prog 33 #[.slice A P.length c, .func (.func 34) #[] #[]] w fun e w' => e = .returned (.tuple #[]) ∧ ∃ P' R', P'.Perm P ∧ P'.Pairwise (fun p q => p.headD 0 < q.headD 0) ∧ RdP w' w'.heap.size A P' R' ∧ Turn (fun k => blockOf A = some k) w w' ∧ ∀ r ∈ R', r ∈ R := by
  have hPl := hI.len_le
  by_cases h0 : P.length = 0
  · have hP : P = [] := List.eq_nil_of_length_eq_zero h0
    subst hP
    have hR : R = [] := List.eq_nil_of_length_eq_zero (by rw [h.rlen]; rfl)
    subst hR
    refine (slices_SortFunc_none (α := Nat) A c _ w).mono ?_
    rintro e w' ⟨rfl, rfl⟩
    exact ⟨rfl, [], [], List.Perm.refl _, List.Pairwise.nil, h.rd, Turn.refl _ _, fun r hr => hr⟩
  · obtain ⟨k, hk⟩ : ∃ k, k = P.length := ⟨_, rfl⟩
    have hRl : R.length = k := by rw [hk]; exact h.rlen
    have : Inhabited (Fin k) := ⟨⟨0, by omega⟩⟩
    obtain ⟨blk, hA, hblk1, hblk2, hkc, hcell, hfz⟩ := ownSome h.own (by omega)
    -- the part of a place, and its slice
    have pt : ∀ i : Fin k, ∃ p, P[i.1]? = some p := fun i => ⟨_, List.getElem?_eq_getElem (by rw [← hk]; exact i.2)⟩
    let pf : Fin k → List Nat := fun i => P[i.1]'(by rw [← hk]; exact i.2)
    let rf : Fin k → Nat × Nat := fun i => R[i.1]'(by rw [hRl]; exact i.2)
    let enc : Fin k → Value := fun i => .slice (some ⟨(rf i).1, 0, none⟩) (pf i).length (rf i).2
    let cf : Fin k → Fin k → Int := fun i j => compareInt ((pf i).headD 0 : Nat) ((pf j).headD 0 : Nat)
    have hpf : ∀ i : Fin k, P[i.1]? = some (pf i) := fun i => List.getElem?_eq_getElem _
    have hrf : ∀ i : Fin k, R[i.1]? = some (rf i) := fun i => List.getElem?_eq_getElem _
    have hne : ∀ i : Fin k, pf i ≠ [] := fun i => hI.ne (List.mem_of_getElem? (hpf i))
    have hhd : ∀ i j : Fin k, (pf i).headD 0 = (pf j).headD 0 → i = j := by
      intro i j e
      obtain ⟨a, p', ha⟩ := List.exists_cons_of_ne_nil (hne i)
      obtain ⟨b, q', hb⟩ := List.exists_cons_of_ne_nil (hne j)
      rw [ha, hb] at e
      simp only [List.headD_cons] at e
      subst e
      exact Fin.ext (hI.uniq (hpf i) (hpf j) (v := a) (by rw [ha]; simp) (by rw [hb]; simp))
    have hlt : ∀ i j : Fin k, ltOf cf i j = decide ((pf i).headD 0 < (pf j).headD 0) := by
      intro i j
      show decide (compareInt _ _ < 0) = _
      rw [compareInt_lt]
      by_cases hq : (pf i).headD 0 < (pf j).headD 0
      · simp only [hq, decide_true, decide_eq_true_eq]; omega
      · simp only [hq, decide_false, decide_eq_false_iff_not]; omega
    have hO : SWO (ltOf cf) := ⟨fun x => by rw [hlt]; simp, fun x y z h1 h2 => by rw [hlt] at *; simp only [decide_eq_true_eq] at *; omega, fun x y z h1 h2 => by rw [hlt] at *; simp only [decide_eq_false_iff_not] at *; omega⟩
    have hT : ∀ x y, ltOf cf x y = false → ltOf cf y x = false → x = y := fun x y h1 h2 => by
      rw [hlt] at h1 h2
      simp only [decide_eq_false_iff_not] at h1 h2
      exact hhd x y (by omega)
    let d : Array (Fin k) := (List.finRange k).toArray
    have hdk : d.size = k := by simp [d]
    have hdg : ∀ (j : Nat) (hj : j < k), d[j]! = ⟨j, hj⟩ := fun j hj => by
      rw [getElem!_pos d j (by rw [hdk]; exact hj)]
      simp [d]
    have hz : ∀ i : Fin k, ((R.zip P).map fun x => Value.slice (some ⟨x.1.1, 0, none⟩) x.2.length x.1.2)[i.1]? = some (enc i) := fun i => by
      rw [List.getElem?_map, (List.getElem?_zip_eq_some (z := (rf i, pf i))).2 ⟨hrf i, hpf i⟩]; rfl
    have hH : Holds enc w blk 0 d := fun j hj => by
      rw [hdk] at hj
      rw [Nat.zero_add, hdg j hj]
      exact ⟨hcell j _ (hz ⟨j, hj⟩), hfz j⟩
    have hrow : ∀ i : Fin k, (rf i).1 ≠ blk ∧ (rf i).1 < w.heap.size ∧ (pf i).length ≤ (rf i).2 ∧ ∀ j v, (pf i)[j]? = some v → w.cell? ⟨(rf i).1, j, none⟩ = some (ni v) := fun i => by
      obtain ⟨q1, q2, q3, q4⟩ := h.row i.1 _ _ (hrf i) (hpf i)
      refine ⟨fun e => h.ap _ (List.mem_of_getElem? (hrf i)) (by rw [hA]; exact congrArg some e.symm), q2, q3, q4⟩
    have hcw : ∀ (m : Nat) (os : Array Obj) (dk : Array (Fin k)) (i : Fin k) (j v : Nat), (pf i)[j]? = some v → (sortWorld enc w blk 0 m dk os).cell? ⟨(rf i).1, j, none⟩ = some (ni v) := fun m os dk i j v hv => by
      obtain ⟨q1, q2, _, q4⟩ := hrow i
      unfold sortWorld
      rw [cell?_grow _ _ _ (by simpa using q2), cell?_putRow_other _ _ _ _ _ _ (.inl q1), cell?_ahead]
      exact q4 j v hv
    have hsz : ∀ i : Fin k, (pf i).length ≤ 4096 := fun i => by
      obtain ⟨v, hv, e⟩ := hI.cls _ (List.mem_of_getElem? (hpf i))
      rw [e]
      unfold part
      have := List.length_filter_le (fun u => @decide (Both E v u) (Classical.propDecidable _)) (List.range n)
      rw [List.length_range] at this
      exact Nat.le_trans this hn
    have hcmp : CmpLays1 Try.prog 34 #[] enc cf blk 0 d.size w := by
      refine CmpReads.lays fun m os dk _ x y => ?_
      obtain ⟨a, p', ha⟩ := List.exists_cons_of_ne_nil (hne x)
      obtain ⟨b, q', hb⟩ := List.exists_cons_of_ne_nil (hne y)
      by_cases hxy : x = y
      · subst hxy
        have hcf : cf x x = 0 := by show compareInt _ _ = 0; unfold compareInt; simp
        rw [hcf]
        refine (cmp_same (rf x).1 (pf x).length (rf x).2 (pf x) _ rfl (by have := hsz x; omega) (fun j v hv => hcw m os dk x j v hv)).mono ?_
        rintro e w' ⟨rfl, rfl⟩
        exact ⟨rfl, 0, rfl⟩
      · have hab : (pf x).headD 0 ≠ (pf y).headD 0 := fun e => hxy (hhd x y e)
        refine (cmp_ne (rf x).1 (pf x).length (rf x).2 (rf y).1 (pf y).length (rf y).2 ((pf x).headD 0) ((pf y).headD 0) _ (by rw [ha]; simp) (by rw [hb]; simp) (hcw m os dk x 0 _ (by rw [ha]; rfl)) (hcw m os dk y 0 _ (by rw [hb]; rfl)) hab).mono ?_
        rintro e w' ⟨rfl, rfl⟩
        exact ⟨rfl, 0, rfl⟩
    have eg : ∀ args w, (callFunc 34 args).run Try.prog w = .ok (.enter 34 args) w := enters_of Try.func34 (by kernel_rfl) rfl
    have hs := slices_SortFunc_total enc (fun _ => rfl) cf hO 34 #[] blk 0 c d w eg hcmp hH hblk2 (by rw [hdk]; omega) hT
    rw [hdk] at hs
    rw [hA, ← hk]
    refine hs.mono ?_
    rintro e w' ⟨rfl, m, os, rfl⟩
    obtain ⟨D, hD⟩ : ∃ D, D = d.toList.mergeSort fun x y => !(ltOf cf) y x := ⟨_, rfl⟩
    rw [← hD]
    have hperm : D.Perm (List.finRange k) := by rw [hD]; exact (List.mergeSort_perm _ _).trans (by simp [d])
    have hsorted : D.Pairwise fun x y => (!(ltOf cf) y x) = true := by
      rw [hD]
      refine List.pairwise_mergeSort (fun a b c h1 h2 => ?_) (fun a b => ?_) _
      · simp only [Bool.not_eq_true', hlt, decide_eq_false_iff_not] at *; omega
      · simp only [Bool.or_eq_true, Bool.not_eq_true', hlt, decide_eq_false_iff_not]; omega
    have hDl : D.length = k := by rw [hperm.length_eq]; simp
    have hnd : D.Nodup := hperm.nodup_iff.2 (List.nodup_finRange k)
    have eP : (List.finRange k).map pf = P := by
      refine List.ext_getElem (by simp [hk]) fun i h1 h2 => ?_
      simp [pf]
    refine ⟨rfl, D.map pf, D.map rf, ?_, ?_, ?_, ?_, fun r hr => by
      obtain ⟨i, _, rfl⟩ := List.mem_map.1 hr
      exact List.mem_of_getElem? (hrf i)⟩
    · have := perm_get k pf D hperm
      rwa [eP] at this
    · refine List.pairwise_map.2 ((hsorted.and hnd).imp fun {x y} h => ?_)
      have h1 := h.1
      simp only [Bool.not_eq_true', hlt, decide_eq_false_iff_not] at h1
      have : (pf x).headD 0 ≠ (pf y).headD 0 := fun e => h.2 (hhd x y e)
      omega
    · have hDg : ∀ (j : Nat) (i : Fin k), D[j]? = some i → D.toArray[j]! = i := fun j i hj => by
        obtain ⟨h1, h2⟩ := List.getElem?_eq_some_iff.1 hj
        rw [getElem!_pos D.toArray j (by simpa using h1)]
        simpa using h2
      refine ⟨by simp, ⟨by simp, fun _ => ⟨blk, 0, rfl, ?_, ?_⟩⟩, ?_⟩
      · unfold sortWorld; simp; omega
      · intro j u hu
        rw [List.getElem?_map] at hu
        have hjl : j < D.length := by
          rcases Nat.lt_or_ge j D.length with g | g
          · exact g
          · rw [List.getElem?_eq_none (by simp; omega)] at hu; cases hu
        have hji : D[j]? = some D[j] := List.getElem?_eq_getElem hjl
        rw [List.getElem?_zip_eq_some (z := (rf D[j], pf D[j])) |>.2 ⟨by rw [List.getElem?_map, hji]; rfl, by rw [List.getElem?_map, hji]; rfl⟩] at hu
        obtain rfl := Option.some.inj hu
        unfold sortWorld
        rw [cell?_grow _ _ _ (by simpa using hblk2), cell?_putRow enc (Sort.ahead w m) blk 0 d D.toArray (holds_ahead enc w m blk 0 d hH) (by simp [hdk, hDl]) j (by simpa using hjl), hDg j _ hji]
      · intro i r p hr hp
        rw [List.getElem?_map] at hr hp
        cases hi : D[i]? with
        | none => rw [hi] at hr; cases hr
        | some x =>
          rw [hi] at hr hp
          obtain rfl := Option.some.inj hr
          obtain rfl := Option.some.inj hp
          obtain ⟨q1, q2, q3, q4⟩ := hrow x
          refine ⟨?_, q3, fun j v hv => hcw m os D.toArray x j v hv⟩
          unfold sortWorld; simp; omega
    · refine ⟨rfl, rfl, rfl, by unfold sortWorld; simp, fun q hq hnq => ?_⟩
      unfold sortWorld
      rw [heap_grow_old _ _ (by simpa using hq)]
      have hqb : blk ≠ q := fun e => hnq (congrArg some e)
      simp [putRow, mapBlock, Sort.ahead, Array.getElem?_modify, hqb]
set_option maxRecDepth 100000 in
set_option maxHeartbeats 8000000 in
theorem inOrder_fresh (w : World) (n base : Nat) (E : List (Nat × Nat)) (Ae : Option Addr) (ne ce : Nat) (hr : RdE w base Ae ne (ei E)) (hE : In n E) (hn : n ≤ 4096) (hne : ne ≤ 16384) (hbase : base ≤ w.heap.size)
    (A : Option Addr) (c : Nat) (P0 : List (List Nat)) (R0 : List (Nat × Nat)) (hp : PR w base A c P0 R0) (hI : IsParts n E P0) :
    Calls Try.prog 23 #[ni n, .slice Ae ne ce, .slice A P0.length c] w fun e w' => ∃ A' c' L R', e = .returned (.slice A' L.length c') ∧ RdP w' w'.heap.size A' L R' ∧ Order n E [] L ∧ L.length ≤ 4096 ∧ Turn (fun x => blockOf A = some x) w w' ∧ (∀ r ∈ R', base ≤ r.1) ∧ (∀ x, blockOf A' = some x → base ≤ x) := by
  have HLOW := Lib.hid hp.lows
  have hsort := sortParts_fresh w base c n E A P0 R0 hp hI hn
  have HLO := Lib.hid (show ∀ x, blockOf A = some x → base ≤ x from fun x hx => (own_low hp.own hx).1)
  obtain ⟨k, hk⟩ : ∃ k, k = P0.length := ⟨_, rfl⟩
  rw [← hk] at hsort ⊢
  have hkn : k ≤ n := by rw [hk]; exact hI.len_le
  have HK0 := Lib.hid hk
  have HR := Lib.hid hr
  have HE := Lib.hid hE
  have HI0 := Lib.hid hI
  have HLEN := Lib.hid (show E.length = ne by rw [← ei_len]; exact hr.len)
  clear hr hE hp hI hk
  go_enter Try.func23, Try.ntmps23
  repeat (first | go_skip | go_guarded | go_step)
  refine hsort.mono ?_
  rintro e w1 ⟨rfl, P, R, hperm, hhd, hrp, hT1, hsub⟩
  have HSUB := Lib.hid (fun r (hr : r ∈ R) => HLOW.out r (hsub r hr))
  have HBS1 := Lib.hid hbase
  clear hsub
  have HI := Lib.hid (HI0.out.perm hperm)
  have HK := Lib.hid (show k = P.length by rw [HK0.out, hperm.length_eq])
  have HHD := Lib.hid hhd
  have HRP := Lib.hid hrp
  have HT1 := Lib.hid hT1
  have hs1 := hT1.size
  have HR1 := Lib.hid ((HR.out.below (hT1.below (B := base) (fun x _ e => HLO.out x e) hbase)).more (show base ≤ w1.heap.size by omega))
  clear hperm hhd hrp hT1 hsort HI0 HK0
  dsimp only
  repeat (first | go_skip | go_guarded | go_step)
  refine (between_any w1 n E Ae ne ce HR1.out HE.out hn hne A k c P R HRP.out HI.out HK.out).mono ?_
  rintro e w2 ⟨gW, gF, gA, gc, glv, rfl, hbW, hgW, hgF, hWF, ⟨bs, hbs, hRR⟩, hb2⟩
  have HBW := Lib.hid hbW
  have HGW := Lib.hid hgW
  have HGF := Lib.hid hgF
  have HWF := Lib.hid hWF
  have HBS := Lib.hid hbs
  have HRR := Lib.hid hRR
  have HB2 := Lib.hid hb2
  clear hbW hgW hgF hWF hbs hRR hb2 hs1
  dsimp only
  repeat (first | go_skip | go_guarded | go_step)
  go_loopw [28, 9] (fun q f wr => ∃ (j : Nat) (fA : Option Addr) (fc : Nat), j ≤ k ∧ q = .int .i64 (j : Int) ∧ f = .slice fA ((List.range j).filter fun i => decide (out P E [] i = 0)).length fc ∧ OwI wr w2.heap.size fA fc ((List.range j).filter fun i => decide (out P E [] i = 0)).length ((List.range j).filter fun i => decide (out P E [] i = 0)) ∧ Below w2.heap.size w2 wr) (fun q _ _ => k - (intOf q).toNat)
  case atStart => exact ⟨0, none, 0, by omega, rfl, rfl, OwI.nil _ _, Below.refl _ _⟩
  case round =>
    rename World => wr
    obtain ⟨j, fA, fc, hj, rfl, rfl, hof, hbw⟩ := hrel
    obtain ⟨fl, hfl⟩ : ∃ fl, fl = ((List.range j).filter fun i => decide (out P E [] i = 0)).length := ⟨_, rfl⟩
    rw [← hfl] at hof ⊢
    have hflk : fl ≤ j := by
      rw [hfl]
      have := List.length_filter_le (fun i => decide (out P E [] i = 0)) (List.range j)
      rwa [List.length_range] at this
    have HFL := Lib.hid hfl
    have HOF := Lib.hid hof
    have HBR := Lib.hid hbw
    clear hof hbw hfl
    by_cases hlt : j < k
    · have hji : (j : Int) < (k : Int) := by omega
      have cw : wr.cell? ⟨gW, j, none⟩ = some (ni (out P E [] j)) := ((HBW.out.later HBR.out).cell j).trans (fnC_at _ hlt)
      obtain ⟨ov, hov⟩ : ∃ ov, ov = out P E [] j := ⟨_, rfl⟩
      rw [← hov] at cw
      have HOV := Lib.hid hov
      clear hov
      by_cases h0 : ov = 0
      · subst h0
        have cw0 : wr.cell? ⟨gW, j, none⟩ = some (.int .i64 0) := cw
        clear cw
        have hlit := run_litI (j : Int) wr
        have hZ0 : Below wr.heap.size wr (wr.alloc (.cells #[.int .i64 (j : Int)] 3)) := (Below.refl _ _).alloc (Nat.le_refl _) _
        have HOZ := Lib.hid (show OwI (wr.alloc (.cells #[.int .i64 (j : Int)] 3)) w2.heap.size fA fc fl _ from ownBelow HOF.out hZ0 (Nat.le_refl _))
        have HZ0 := Lib.hid (HBR.out.trans (hZ0.mono HBR.out.size))
        have hbz : w2.heap.size ≤ (wr.alloc (.cells #[.int .i64 (j : Int)] 3)).heap.size := HZ0.out.size
        clear hZ0
        repeat (first
          | (at_builtin; refine appI _ rfl (.tmp 35) (.tmp 37) rfl w2.heap.size fA fc fl _ rfl HOZ.out _ _ 1 1 [j] rfl (litI_rd j wr) (by omega) hbz ?_
             intro A3 c3 Z hoZ htZ hfZ
             have HO3 := Lib.hid hoZ
             have HB3 := Lib.hid (HZ0.out.trans (htZ.below (B := w2.heap.size) (fun x _ e => (own_low HOZ.out e).1) hbz))
             clear hoZ htZ hfZ hlit cw0)
          | go_skip | go_guarded | go_step)
        have hsn : (List.range (j + 1)).filter (fun i => decide (out P E [] i = 0)) = (List.range j).filter (fun i => decide (out P E [] i = 0)) ++ [j] := by
          rw [List.range_succ, List.filter_append]
          congr 1
          simp [← HOV.out]
        go_roundw
        case rel => exact ⟨j + 1, A3, c3, by omega, by go_num, by rw [hsn, List.length_append, ← HFL.out]; rfl, by rw [hsn, List.length_append, ← HFL.out]; exact HO3.out, HB3.out⟩
        case measure => simp [intOf]; omega
      · have hne0 : ((ov : Int) == 0) = false := by simp; omega
        have hne1 : ¬ (ov : Int) = 0 := by omega
        repeat (first | go_skip | go_guarded | go_step)
        have hsn : (List.range (j + 1)).filter (fun i => decide (out P E [] i = 0)) = (List.range j).filter (fun i => decide (out P E [] i = 0)) := by
          rw [List.range_succ, List.filter_append]
          have : ([j] : List Nat).filter (fun i => decide (out P E [] i = 0)) = [] := by simp [← HOV.out, h0]
          rw [this, List.append_nil]
        go_roundw
        case rel => exact ⟨j + 1, fA, fc, by omega, by go_num, by rw [hsn, ← HFL.out], by rw [hsn, ← HFL.out]; exact HOF.out, HBR.out⟩
        case measure => simp [intOf]; omega
    · obtain rfl : j = k := by omega
      have hji : ¬ (j : Int) < (j : Int) := by omega
      have HKI := Lib.hid (show Ki n E P [] (out P E []) ((List.range j).filter fun i => decide (out P E [] i = 0)) [] by
        have := Ki.start n E P
        rw [← HK.out] at this
        exact this)
      have hgl := HBW.out.lt
      have HKW := Lib.hid (show Kw w2 gW j P R (out P E []) [] ((List.range j).filter fun i => decide (out P E [] i = 0)) none 0 fA fc wr from
        ⟨Turn.ofBelow HBR.out, hgl, HBW.out.later HBR.out, World.ownsRow_nil _ _ _ _, by rw [← HFL.out]; exact HOF.out.owF, fun x hx => absurd hx (by simp [blockOf])⟩)
      clear HOF hgl
      repeat (first | go_skip | go_guarded | go_step)
      go_loopg [6, 9] j (fun g lv fv w3 => ∃ (D free : List Nat) (wf : Nat → Nat) (lA fA : Option Addr) (lc fc : Nat), D.length + g = j ∧ lv = .slice lA D.length lc ∧ fv = .slice fA free.length fc ∧ Ki n E P D wf free [] ∧ Kw w2 gW j P R wf D free lA lc fA fc w3 ∧ ∀ L', Order n E (told P D).flatten L' → Order n E [] (told P D ++ L'))
      case atStart => exact ⟨[], _, _, none, fA, 0, fc, by simp, rfl, by rw [HFL.out], HKI.out, HKW.out, fun L' h => by simpa [told] using h⟩
      case round =>
        obtain ⟨G, rfl⟩ : ∃ G, G = gk := ⟨_, rfl⟩
        rename World => w3
        obtain ⟨D, free, wf, lA, fA, lc, fc, hDg, rfl, rfl, hki, hkw, hord⟩ := hrel
        have HDG := Lib.hid hDg
        have HKI := Lib.hid hki
        have HKW := Lib.hid hkw
        have HORD := Lib.hid hord
        have hDl : D.length ≤ j := by rw [HK.out]; exact hki.told_len
        obtain ⟨dl, hdl⟩ : ∃ dl, dl = D.length := ⟨_, rfl⟩
        rw [← hdl] at hDl ⊢
        have HDL := Lib.hid hdl
        clear hDg hki hkw hord hdl
        cases free with
        | nil =>
          repeat (first | go_skip | go_guarded | go_step)
          go_ret
          have hlown := HKW.out.lown
          have hlt := HKI.out.lt
          have hfin := HORD.out [] (.done (HKI.out.none_left HI.out HE.out))
          rw [List.append_nil] at hfin
          have hlen : (told P D).length = D.length := by unfold told; rw [List.length_map]
          have T3 : Turn (fun x => blockOf A = some x) w w3 := by
            refine HT1.out.then_ ((Turn.ofBelow (G := fun x => x = gW) HB2.out).trans HKW.out.T) (fun x hx e => ?_)
            have := HGW.out
            have := HT1.out.size
            omega
          refine ⟨lA, lc, told P D, D.map fun d => R.getD d (0, 0), by rw [hlen, HDL.out]; rfl, ⟨by rw [List.length_map, hlen], ?_, ?_⟩, hfin, by rw [hlen, ← HDL.out]; omega, T3, ?_, ?_⟩
          · have e : ((D.map fun d => R.getD d (0, 0)).zip (told P D)).map (fun x => Value.slice (some ⟨x.1.1, 0, none⟩) x.2.length x.1.2) = D.map (slv P R) := by
              unfold told
              refine List.ext_getElem (by simp) fun i h1 h2 => ?_
              simp [slv]
            rw [e, hlen]
            exact Rd.ofOwn hlown
          · intro i r p hr hp
            unfold told at hp
            rw [List.getElem?_map] at hr hp
            cases hd : D[i]? with
            | none => rw [hd] at hr; cases hr
            | some d =>
              rw [hd] at hr hp
              obtain rfl := Option.some.inj hr
              obtain rfl := Option.some.inj hp
              have hdlt := hlt d (List.mem_of_getElem? hd)
              have hpd : P[d]? = some (P.getD d []) := by rw [List.getD_eq_getElem?_getD, List.getElem?_eq_getElem hdlt]; rfl
              have hrd : R[d]? = some (R.getD d (0, 0)) := by rw [List.getD_eq_getElem?_getD, List.getElem?_eq_getElem (by rw [HRP.out.rlen]; exact hdlt)]; rfl
              obtain ⟨q1, q2, q3⟩ := HRP.out.row d _ _ hrd hpd
              have hws := HB2.out.size
              have hw3 := HKW.out.T.size
              have hgw := HGW.out
              refine ⟨by show (R.getD d (0, 0)).1 < _; omega, q2, fun m v hv => ?_⟩
              have h2 := (HB2.out.cell (p := ⟨(R.getD d (0, 0)).1, m, none⟩) q1).trans (q3 m v hv)
              exact (HKW.out.T.cell (p := ⟨(R.getD d (0, 0)).1, m, none⟩) (by show (R.getD d (0, 0)).1 < _; omega) (by show ¬ (R.getD d (0, 0)).1 = gW; omega)).trans h2
          · intro r hr
            obtain ⟨d, hd, rfl⟩ := List.mem_map.1 hr
            have hdlt := hlt d hd
            refine HSUB.out _ (List.mem_of_getElem? (i := d) ?_)
            rw [List.getD_eq_getElem?_getD, List.getElem?_eq_getElem (by rw [HRP.out.rlen]; exact hdlt)]; rfl
          · intro x hx
            have h1 := (own_low hlown hx).1
            have h2 := HB2.out.size
            have h3 := HT1.out.size
            have h4 := HBS1.out
            omega
        | cons x fr =>
          have hxf := (HKI.out.free x).1 (by simp)
          obtain ⟨hxk, hxD, hxw⟩ := hxf
          have hxj : x < j := by rw [HK.out]; exact hxk
          have hfl := HKI.out.free_len
          rw [← HK.out] at hfl
          obtain ⟨gf, of, hfA, cf, HTL⟩ := HKW.out.fown.tail
          subst hfA
          have HTL := Lib.hid HTL
          have hfle := HKW.out.fown.le
          obtain ⟨n1, hn1⟩ : ∃ n1, n1 = fr.length := ⟨_, rfl⟩
          have hfle2 : n1 + 1 ≤ fc := by rw [hn1]; exact hfle
          have HN1 := Lib.hid hn1
          have hfl2 : n1 + 1 ≤ j := by rw [hn1]; exact hfl
          rw [List.length_cons, ← hn1]
          obtain ⟨o2, ho2⟩ : ∃ o2, o2 = (if fc = 1 then of else of + 1) := ⟨_, rfl⟩
          have HO2 := Lib.hid ho2
          have HXD := Lib.hid hxD
          clear hfle hn1 hfl ho2 hxD hxk hxw
          -- the part that is told, and who waited for it
          have hRP3 := (HRP.out.below HB2.out)
          have hgwl := HGW.out
          have HRP3 := Lib.hid (hRP3.below (HKW.out.T.below (B := w1.heap.size) (fun y _ e => by omega) HB2.out.size))
          obtain ⟨bp, op, r, p, hA, hbp, hri, hpi, hcp, _, _, _⟩ := HRP3.out.at_ (by rw [← HK.out]; exact hxj)
          have HPI := Lib.hid hpi
          have HRI := Lib.hid hri
          have hslv : slv P R x = .slice (some ⟨r.1, 0, none⟩) p.length r.2 := by
            unfold slv
            rw [List.getD_eq_getElem?_getD, List.getD_eq_getElem?_getD, hri, hpi]; rfl
          have HSLV := Lib.hid hslv
          obtain ⟨r1, hr1⟩ : ∃ r1, r1 = r.1 := ⟨_, rfl⟩
          obtain ⟨r2, hr2⟩ : ∃ r2, r2 = r.2 := ⟨_, rfl⟩
          obtain ⟨pl, hpl⟩ : ∃ pl, pl = p.length := ⟨_, rfl⟩
          rw [← hr1, ← hr2, ← hpl] at hcp
          have HSL2 := Lib.hid (show slv P R x = .slice (some ⟨r1, 0, none⟩) pl r2 by rw [hslv, hr1, hr2, hpl])
          clear hri hpi hslv hr1 hr2 hpl hRP3
          have HRR3 := Lib.hid (HRR.out.keep HKW.out.T (fun y e => by
            have h1 := HWF.out
            have h2 := HBS.out
            exact .inl ⟨by omega, by omega⟩))
          have hlit := run_litS (some ⟨r1, 0, none⟩) pl r2 w3
          have hZ0 : Below w3.heap.size w3 (w3.alloc (.cells #[.slice (some ⟨r1, 0, none⟩) pl r2] 43)) := (Below.refl _ _).alloc (Nat.le_refl _) _
          have HKZ := Lib.hid (HKW.out.later hZ0)
          have HZ0 := Lib.hid hZ0
          have hbz : w2.heap.size ≤ (w3.alloc (.cells #[.slice (some ⟨r1, 0, none⟩) pl r2] 43)).heap.size := HKZ.out.T.size
          have hxi : (x : Int) < (j : Int) := by omega
          have hx0 : (0 : Int) ≤ (x : Int) := by omega
          subst hA
          clear hZ0 hbp hgwl
          go_upto_region 14 with (first
            | (refine wpList_slice1 _ rfl (.tmp 46) rfl gf of n1 fc rfl hfle2 ?_
               rw [← HO2.out])
            | (at_builtin; refine appS _ rfl (.tmp 48) (.tmp 53) rfl w2.heap.size lA lc dl (D.map (slv P R)) rfl (by rw [HDL.out]; exact HKZ.out.lown) _ _ 1 1 [.slice (some ⟨r1, 0, none⟩) pl r2] rfl (litS_rd _ _ _ w3) (by simp [Value.oneCell']) (by omega) hbz ?_
               intro A5 c5 w5 ho5 ht5 hf5
               have HO5 := Lib.hid ho5
               have HT5 := Lib.hid ht5
               have HF5 := Lib.hid hf5
               clear ho5 ht5 hf5 hlit))
          have HKW5 := Lib.hid (HKZ.out.told_ (d := x) HT5.out (by rw [HSL2.out, ← HDL.out]; exact HO5.out) (HF5.out.imp id fun h => ⟨_, h, Nat.le_refl _⟩))
          have HB35 := Lib.hid ((Turn.ofBelow (G := fun y => blockOf lA = some y) HZ0.out).trans HT5.out)
          have HFT := Lib.hid (show OwF w5 w2.heap.size (some ⟨gf, o2, none⟩) (fc - 1) fr.length fr by
            have h := HTL.out.keep HB35.out (fun y hy e => HKW.out.ap y e (show blockOf (some ⟨gf, of, none⟩) = some y from hy))
            rw [← HO2.out] at h
            exact h)
          have HKW6 := Lib.hid (show Kw w2 gW j P R wf (D ++ [x]) fr A5 c5 (some ⟨gf, o2, none⟩) (fc - 1) w5 from
            ⟨HKW5.out.T, HKW5.out.gl, HKW5.out.waits, HKW5.out.lown, HFT.out, fun y hy e => HKW5.out.ap y hy (show blockOf (some ⟨gf, of, none⟩) = some y from e)⟩)
          have HKI6 := Lib.hid (HKI.out.next HI.out HE.out)
          have HNX := Lib.hid (HKI.out.nxt HI.out HE.out HHD.out)
          have HRR5 := Lib.hid (HRR.out.keep HKW6.out.T (fun y e => by
            have h1 := HWF.out
            have h2 := HBS.out
            exact .inl ⟨by omega, by omega⟩))
          obtain ⟨hl1, hl2⟩ := HRR5.out.lead x hxj
          have cfr : w5.cell? ⟨gF, x, none⟩ = some (.slice (gA x) (into P E x).length (gc x)) := (HRR5.out.blk.cell x).trans hl1
          obtain ⟨il, hil⟩ : ∃ il, il = (into P E x).length := ⟨_, rfl⟩
          rw [← hil] at cfr
          have hilb : il ≤ 16384 := by
            have := into_len P E x
            have := HLEN.out
            omega
          have HIL := Lib.hid hil
          have HL0 := Lib.hid (HRR.out.lead x hxj).2
          have hn1fr := HN1.out
          clear hl1 hl2 hil HTL HKW HKZ HZ0 HKW5 HFT hbz
          repeat (first | go_skip | go_guarded | go_step)
          go_loopw [60, 9] (fun q fv w6 => ∃ (m : Nat) (free2 : List Nat) (wf2 : Nat → Nat) (fA2 : Option Addr) (fc2 : Nat), m ≤ il ∧ q = .int .i64 (m : Int) ∧ fv = .slice fA2 free2.length fc2 ∧ Ki n E P (D ++ [x]) wf2 free2 ((into P E x).drop m) ∧ Kw w2 gW j P R wf2 (D ++ [x]) free2 A5 c5 fA2 fc2 w6) (fun q _ _ => il - (intOf q).toNat)
          case atStart => exact ⟨0, fr, wf, _, _, by omega, rfl, by rw [← hn1fr], by rw [List.drop_zero]; exact HKI6.out, HKW6.out⟩
          case round =>
            rename World => w6
            obtain ⟨m, free2, wf2, fA2, fc2, hm, rfl, rfl, hki2, hkw2⟩ := hrel
            have HKI2 := Lib.hid hki2
            have HKW2 := Lib.hid hkw2
            have hf2l := hki2.free_len
            rw [← HK.out] at hf2l
            obtain ⟨f2, hf2⟩ : ∃ f2, f2 = free2.length := ⟨_, rfl⟩
            rw [← hf2] at hf2l ⊢
            have HF2 := Lib.hid hf2
            clear hki2 hkw2 hf2
            by_cases hltm : m < il
            · have hmi : (m : Int) < (il : Int) := by omega
              obtain ⟨gr, hgr, hgr1, hgr2, hgrc, hgrl, _⟩ := ownSome HL0.out (by rw [← HIL.out]; omega)
              obtain ⟨y, hy⟩ : ∃ y, (into P E x)[m]? = some y := ⟨_, List.getElem?_eq_getElem (by rw [← HIL.out]; exact hltm)⟩
              have cy : w6.cell? ⟨gr, m, none⟩ = some (ni y) := by
                refine (HKW2.out.T.cell (p := ⟨gr, m, none⟩) hgr2 (by have := HBS.out; show ¬ gr = gW; omega)).trans (hgrl m (ni y) (by rw [List.getElem?_map, hy]; rfl))
              have hdrop : (into P E x).drop m = y :: (into P E x).drop (m + 1) := by
                obtain ⟨h1, h2⟩ := List.getElem?_eq_some_iff.1 hy
                rw [List.drop_eq_getElem_cons h1, h2]
              have hki3 := HKI2.out
              rw [hdrop] at hki3
              have HKI3 := Lib.hid hki3
              obtain ⟨hyk, hyp, hyD, hyf⟩ := hki3.head_pos
              have hyj : y < j := by rw [HK.out]; exact hyk
              have hwb : wf2 y ≤ 40000 := by
                have h1 := hki3.waits y hyk
                have h2 := out_len P E (D ++ [x]) y
                have h3 : (y :: (into P E x).drop (m + 1)).count y ≤ (y :: (into P E x).drop (m + 1)).length := List.count_le_length
                rw [← hdrop, List.length_drop, ← HIL.out] at h3
                have h4 := HLEN.out
                rw [← hdrop] at h1
                omega
              obtain ⟨wv, hwv⟩ : ∃ wv, wf2 y = wv + 1 := ⟨wf2 y - 1, by omega⟩
              have cw : w6.cell? ⟨gW, y, none⟩ = some (.int .i64 ((wv : Int) + 1)) := by
                rw [HKW2.out.waits.cell y, fnC_at _ hyj, hwv]; rfl
              have fw := HKW2.out.waits.frozen y
              have hwv2 : wv ≤ 40000 := by omega
              have HYF := Lib.hid hyf
              have HWV := Lib.hid hwv
              have hyi : (y : Int) < (j : Int) := by omega
              have hy0 : (0 : Int) ≤ (y : Int) := by omega
              have hwr : IntKind.i64.wrap (wv : Int) = (wv : Int) := by rw [IntKind.wrap_i64]; omega
              have hgAx : gA x = some ⟨gr, 0, none⟩ := hgr
              rw [hgAx]
              clear hgr hgr1 hgr2 hgrc hgrl hy hdrop hki3 hyk hyp hyD hyf hwb hwv hgAx
              go_upto_region 18 with (fail)
              obtain ⟨w7, hw7, hkw7⟩ : ∃ w7, w7 = w6.setCell ⟨gW, y, none⟩ (.int .i64 (wv : Int)) ∧ Kw w2 gW j P R (upd wf2 y wv) (D ++ [x]) free2 A5 c5 fA2 fc2 w7 := ⟨_, rfl, HKW2.out.setW y wv⟩
              rw [← hw7]
              have HKW7 := Lib.hid hkw7
              have cw7 : w7.cell? ⟨gW, y, none⟩ = some (.int .i64 (wv : Int)) := by
                rw [hkw7.waits.cell y, fnC_at _ hyj, upd_same]
              clear hw7 hkw7 cw fw cy hwr
              have HWP := Lib.hid (show upd wf2 y (wf2 y - 1) = upd wf2 y wv by rw [HWV.out]; rfl)
              by_cases h0 : wv = 0
              · subst h0
                have cw8 : w7.cell? ⟨gW, y, none⟩ = some (.int .i64 0) := cw7
                clear cw7
                repeat (first | go_skip | go_guarded | go_step)
                refine (search_any w7 w2.heap.size fA2 fc2 f2 free2 (by rw [HF2.out]; exact HKW7.out.fown) HKI3.out.sorted (by omega) y HYF.out).mono ?_
                rintro e w8 ⟨kk, bb, rfl, hkk, hlo, hhi, q, rfl⟩
                have HLO2 := Lib.hid hlo
                have HHI2 := Lib.hid hhi
                have HKW8 := Lib.hid (HKW7.out.later (belowDrews (Below.refl _ w7) q))
                obtain ⟨w8, hw8⟩ : ∃ w8, w8 = w7.drewN q := ⟨_, rfl⟩
                rw [← hw8] at HKW8 ⊢
                clear hw8 hlo hhi cw8
                dsimp only
                have hlit := run_litI (y : Int) w8
                have hZ0 : Below w8.heap.size w8 (w8.alloc (.cells #[.int .i64 (y : Int)] 3)) := (Below.refl _ _).alloc (Nat.le_refl _) _
                have HKW9 := Lib.hid (HKW8.out.later hZ0)
                have hvb := Bk.new w8 3 [ni y]
                have HVB := Lib.hid hvb
                have HVA := Lib.hid (show blockOf fA2 ≠ some w8.heap.size from fun e => by have := (HKW8.out.fown.low e).2; omega)
                have hbz : w2.heap.size ≤ (w8.alloc (.cells #[.int .i64 (y : Int)] 3)).heap.size := HKW9.out.T.size
                clear hZ0 hvb
                repeat (first | go_skip | go_guarded | go_step)
                refine (insert_any _ w2.heap.size fA2 fc2 f2 free2 (by rw [HF2.out]; exact HKW9.out.fown) kk hkk (by omega) w8.heap.size y HVB.out HVA.out hbz).mono ?_
                rintro e w10 ⟨fA3, fc3, rfl, hof, htf, hbf⟩
                have hilen : (ins free2 kk y).length = f2 + 1 := by rw [ins_len (by rw [← HF2.out]; exact hkk), HF2.out]
                have HKW10 := Lib.hid (HKW9.out.free_ (free' := ins free2 kk y) htf (by rw [hilen]; exact hof) hbf)
                have HILN := Lib.hid hilen
                clear hof htf hbf hilen hlit
                dsimp only
                repeat (first | go_skip | go_guarded | go_step)
                have hfr := HKI3.out.freed (k := kk) (by rw [HWV.out]) (by rw [← HF2.out]; exact hkk) HLO2.out HHI2.out
                rw [HWP.out] at hfr
                go_roundw
                case rel => exact ⟨m + 1, ins free2 kk y, upd wf2 y 0, fA3, fc3, by omega, by go_num, by rw [HILN.out], hfr, HKW10.out⟩
                case measure => simp [intOf]; omega
              · have hb0 : ((wv : Int) == 0) = false := by simp; omega
                have hb1 : ¬ (wv : Int) = 0 := by omega
                repeat (first | go_skip | go_guarded | go_step)
                have hdn := HKI3.out.down (by rw [HWV.out]; omega)
                rw [HWP.out] at hdn
                go_roundw
                case rel => exact ⟨m + 1, free2, upd wf2 y wv, fA2, fc2, by omega, by go_num, by rw [HF2.out], hdn, HKW7.out⟩
                case measure => simp [intOf]; omega
            · obtain rfl : m = il := by omega
              have hmi : ¬ (m : Int) < (m : Int) := by omega
              have HKI3 := Lib.hid (show Ki n E P (D ++ [x]) wf2 free2 [] by
                have h := HKI2.out
                rw [List.drop_of_length_le (by rw [← HIL.out]; exact Nat.le_refl _)] at h
                exact h)
              repeat (first | go_skip | go_guarded | go_step)
              have hG : D.length + 1 ≤ j := by
                have := HKI3.out.told_len
                rw [← HK.out, List.length_append] at this
                exact this
              have hDG := HDG.out
              obtain ⟨v, hv1, hv2⟩ := HNX.out
              go_roundg (G - 1)
              case measure => omega
              case rel => exact ⟨D ++ [x], free2, wf2, A5, fA2, c5, fc2, by rw [List.length_append, List.length_singleton]; omega, by rw [List.length_append, HDL.out]; rfl, by rw [HF2.out], HKI3.out, HKW2.out, fun L' hL' => by
                rw [told_snoc] at hL' ⊢
                rw [List.flatten_append] at hL'
                have e : [P.getD x []].flatten = part n E v := by rw [hv2]; simp
                rw [e] at hL'
                have := HORD.out (part n E v :: L') (.next hv1 hL')
                rw [hv2, List.append_assoc]
                exact this⟩
set_option maxRecDepth 100000 in
set_option maxHeartbeats 1000000 in
theorem parts_fresh (k : Nat) (E : List (Nat × Nat)) (A : Option Addr) (ne c : Nat) (w : World) (hr : RdE w w.heap.size A ne (ei E)) (hk : k ≤ 4096) (hE : In k E) (hne : ne ≤ 16384) :
    Calls Try.prog 15 #[ni k, .slice A ne c] w fun e w' => ∃ A' c' L R, e = .returned (.tuple #[.slice A' L.length c', .int .i64 0]) ∧ RdP w' w'.heap.size A' L R ∧ Order k E [] L ∧ L.length ≤ 4096 ∧ Below w.heap.size w w' ∧ (∀ r ∈ R, w.heap.size ≤ r.1) ∧ (∀ x, blockOf A' = some x → w.heap.size ≤ x) := by
  have hall : (ei E).all (okE k) = true := by
    rw [List.all_eq_true]
    intro x hx
    unfold ei at hx
    obtain ⟨y, hy, rfl⟩ := List.mem_map.1 hx
    have := hE y hy
    unfold okE
    simp
    omega
  have hH := haveEnds_any (k : Int) A ne c (ei E) w hr hne
  rw [hall] at hH
  have HR := Lib.hid hr
  have HE := Lib.hid hE
  have h1' : ¬ (4096 : Int) < (k : Int) := by omega
  have h2' : ¬ (16384 : Int) < (ne : Int) := by omega
  have h3' : ¬ (k : Int) < 0 := by omega
  clear hall hE hr
  go_enter Try.func15, Try.ntmps15
  repeat (first | go_skip | go_guarded | go_step)
  refine hH.mono ?_
  rintro e w1 ⟨rfl, hb1⟩
  have HB1 := Lib.hid hb1
  have HR1 := Lib.hid ((HR.out.below hb1).more hb1.size)
  clear hb1 hH
  dsimp only
  repeat (first | go_skip | go_guarded | go_step)
  refine (found_any w1 k E A ne c HR1.out HE.out hk hne).mono ?_
  rintro e w2 ⟨A2, c2, P, R, rfl, hp, hI, hb2⟩
  have HP := Lib.hid hp
  have HI := Lib.hid hI
  have HB2 := Lib.hid hb2
  have hs2 := hb2.size
  clear hp hI hb2
  dsimp only
  repeat (first | go_skip | go_guarded | go_step)
  refine (inOrder_fresh w2 k w1.heap.size E A ne c (HR1.out.below HB2.out) HE.out hk hne hs2 A2 c2 P R HP.out HI.out).mono ?_
  rintro e w3 ⟨A3, c3, L, R3, rfl, hrp, hord, hll, hT, hf1, hf2⟩
  have HRP := Lib.hid hrp
  have HO := Lib.hid hord
  have HF1 := Lib.hid (show ∀ r ∈ R3, w.heap.size ≤ r.1 from fun r hr => Nat.le_trans HB1.out.size (hf1 r hr))
  have HF2 := Lib.hid (show ∀ x, blockOf A3 = some x → w.heap.size ≤ x from fun x hx => Nat.le_trans HB1.out.size (hf2 x hx))
  have HB3 := Lib.hid (show Below w.heap.size w w3 from by
    have hw1 := HB1.out.size
    have h23 : Below w.heap.size w2 w3 := hT.below (B := w.heap.size) (fun x _ e => by have := (own_low HP.out.own e).1; omega) (by omega)
    exact (HB1.out.trans (HB2.out.mono hw1)).trans h23)
  clear hrp hord hT hs2 hf1 hf2
  dsimp only
  repeat (first | go_skip | go_guarded | go_step)
  go_ret2
  exact ⟨A3, c3, L, R3, rfl, HRP.out, HO.out, hll, HB3.out, HF1.out, HF2.out⟩
end Go.Proofs.Ytfmghkplafploaa

set_option linter.unusedVariables false
set_option linter.unusedSimpArgs false
namespace Go.Proofs.Ytfmghkplafploaa
open Go Go.RowKit

set_option maxRecDepth 100000 in
set_option maxHeartbeats 1000000 in
theorem lA_any (p : Int) (A : Option Addr) (n c : Nat) (w : World) : Calls Try.prog 9 #[.int .u32 p, .slice A n c] w fun e w' => e = .returned (.agg #[.int .u32 p, .slice A n c]) ∧ Below w.heap.size w w' := by
  have hbw : Below w.heap.size w (w.alloc (.cells #[.int .u32 p, .slice A n c] 28)) := (Below.refl _ _).alloc (Nat.le_refl _) _
  go_enter Try.func9, Try.ntmps9
  repeat (first | go_skip | go_guarded | go_step)
  refine bodyPost_ret (v := .agg #[.int .u32 p, .slice A n c]) (results_cell_row rfl _ _ w.heap.size _ _ _ _ rfl (heap_alloc_new w _) Try.underlying28 rfl (by kernel_rfl)) rfl ⟨rfl, hbw⟩
set_option maxRecDepth 100000 in
set_option maxHeartbeats 1000000 in
theorem lIf_any (p : Int) (A : Option Addr) (n c : Nat) (A1 : Option Addr) (n1 c1 : Nat) (w : World) : Calls Try.prog 8 #[.agg #[.int .u32 p, .slice A n c], .slice A1 n1 c1] w fun e w' => e = .returned (.agg #[.int .u32 p, .slice A n c, .slice A1 n1 c1]) ∧ Below w.heap.size w w' := by
  have hbw : Below w.heap.size w ((w.alloc (.cells #[.int .u32 p, .slice A n c] 28)).alloc (.cells #[.int .u32 p, .slice A n c, .slice A1 n1 c1] 31)) := below2 _ _ _
  have hk := Bk.second w (.cells #[.int .u32 p, .slice A n c] 28) 31 [.int .u32 p, .slice A n c, .slice A1 n1 c1]
  have HK := Lib.hid hk
  clear hk
  go_enter Try.func8, Try.ntmps8
  repeat (first | go_skip | go_guarded | go_step)
  refine bodyPost_ret (v := .agg #[.int .u32 p, .slice A n c, .slice A1 n1 c1]) (results_cell_row rfl _ _ (w.heap.size + 1) _ _ _ _ rfl HK.out Try.underlying31 rfl (by kernel_rfl)) rfl ⟨rfl, hbw⟩
set_option maxRecDepth 100000 in
set_option maxHeartbeats 1000000 in
theorem lYes_any (p : Int) (A : Option Addr) (n c : Nat) (w : World) : Calls Try.prog 11 #[.int .u32 p, .slice A n c] w fun e w' => e = .returned (.agg #[.bool false, .int .u32 p, .slice A n c]) ∧ Below w.heap.size w w' := by
  have hb0 : Below w.heap.size w (w.alloc (.cells #[.bool false, .int .u32 0, .slice none 0 0] 33)) := (Below.refl _ _).alloc (Nat.le_refl _) _
  have hk0 := Bk.new w 33 [.bool false, .int .u32 0, .slice none 0 0]
  have HB0 := Lib.hid hb0
  have HK0 := Lib.hid hk0
  clear hb0 hk0
  go_enter Try.func11, Try.ntmps11
  repeat (first | go_skip | go_guarded | go_step)
  refine (lA_any p A n c _).mono ?_
  rintro e w2 ⟨rfl, hb2⟩
  have hbk := HK0.out.later hb2
  have HBK := Lib.hid hbk
  have HB2 := Lib.hid (HB0.out.trans (hb2.mono HB0.out.size))
  have q0 := hbk.read (Below.refl _ _) 0 rfl
  have q1 := hbk.read (Below.refl _ _) 1 rfl
  have q2 := hbk.read (Below.refl _ _) 2 rfl
  have f0 := hbk.frozen 0
  have f1 := hbk.frozen 1
  have f2 := hbk.frozen 2
  clear hb2 hbk
  dsimp only
  repeat (first | go_skip | go_guarded | go_step)
  have hz : Bk (((w2.setCell ⟨w.heap.size, 0, none⟩ (.bool false)).setCell ⟨w.heap.size, 1, none⟩ (.int .u32 p)).setCell ⟨w.heap.size, 2, none⟩ (.slice A n c)) w.heap.size 33 [.bool false, .int .u32 p, .slice A n c] := ((HBK.out.set_ 0 (.bool false)).set_ 1 (.int .u32 p)).set_ 2 (.slice A n c)
  have hb : Below w.heap.size w (((w2.setCell ⟨w.heap.size, 0, none⟩ (.bool false)).setCell ⟨w.heap.size, 1, none⟩ (.int .u32 p)).setCell ⟨w.heap.size, 2, none⟩ (.slice A n c)) := ((HB2.out.setCell (p := ⟨w.heap.size, 0, none⟩) (Nat.le_refl _) _).setCell (p := ⟨w.heap.size, 1, none⟩) (Nat.le_refl _) _).setCell (p := ⟨w.heap.size, 2, none⟩) (Nat.le_refl _) _
  refine bodyPost_ret (v := .agg #[.bool false, .int .u32 p, .slice A n c]) (results_cell_row rfl _ _ w.heap.size _ _ _ _ rfl hz Try.underlying33 rfl (by kernel_rfl)) rfl ⟨rfl, hb⟩
set_option maxRecDepth 100000 in
set_option maxHeartbeats 1000000 in
theorem lNo_any (p : Int) (A : Option Addr) (n c : Nat) (w : World) : Calls Try.prog 10 #[.int .u32 p, .slice A n c] w fun e w' => e = .returned (.agg #[.bool true, .int .u32 p, .slice A n c]) ∧ Below w.heap.size w w' := by
  have hb0 : Below w.heap.size w (w.alloc (.cells #[.bool false, .int .u32 0, .slice none 0 0] 33)) := (Below.refl _ _).alloc (Nat.le_refl _) _
  have hk0 := Bk.new w 33 [.bool false, .int .u32 0, .slice none 0 0]
  have HB0 := Lib.hid hb0
  have HK0 := Lib.hid hk0
  clear hb0 hk0
  go_enter Try.func10, Try.ntmps10
  repeat (first | go_skip | go_guarded | go_step)
  refine (lA_any p A n c _).mono ?_
  rintro e w2 ⟨rfl, hb2⟩
  have hbk := HK0.out.later hb2
  have HBK := Lib.hid hbk
  have HB2 := Lib.hid (HB0.out.trans (hb2.mono HB0.out.size))
  have q0 := hbk.read (Below.refl _ _) 0 rfl
  have q1 := hbk.read (Below.refl _ _) 1 rfl
  have q2 := hbk.read (Below.refl _ _) 2 rfl
  have f0 := hbk.frozen 0
  have f1 := hbk.frozen 1
  have f2 := hbk.frozen 2
  clear hb2 hbk
  dsimp only
  repeat (first | go_skip | go_guarded | go_step)
  have hz : Bk (((w2.setCell ⟨w.heap.size, 0, none⟩ (.bool true)).setCell ⟨w.heap.size, 1, none⟩ (.int .u32 p)).setCell ⟨w.heap.size, 2, none⟩ (.slice A n c)) w.heap.size 33 [.bool true, .int .u32 p, .slice A n c] := ((HBK.out.set_ 0 (.bool true)).set_ 1 (.int .u32 p)).set_ 2 (.slice A n c)
  have hb : Below w.heap.size w (((w2.setCell ⟨w.heap.size, 0, none⟩ (.bool true)).setCell ⟨w.heap.size, 1, none⟩ (.int .u32 p)).setCell ⟨w.heap.size, 2, none⟩ (.slice A n c)) := ((HB2.out.setCell (p := ⟨w.heap.size, 0, none⟩) (Nat.le_refl _) _).setCell (p := ⟨w.heap.size, 1, none⟩) (Nat.le_refl _) _).setCell (p := ⟨w.heap.size, 2, none⟩) (Nat.le_refl _) _
  refine bodyPost_ret (v := .agg #[.bool true, .int .u32 p, .slice A n c]) (results_cell_row rfl _ _ w.heap.size _ _ _ _ rfl hz Try.underlying33 rfl (by kernel_rfl)) rfl ⟨rfl, hb⟩
end Go.Proofs.Ytfmghkplafploaa

set_option linter.unusedVariables false
set_option linter.unusedSimpArgs false
namespace Go.Proofs.Ytfmghkplafploaa
open Go Go.RowKit

theorem liftT {w w' : World} {A : Option Addr} {n : Nat} {l : List Tm} (h : RdT w w.heap.size A n l) (hb : Below w.heap.size w w') : RdT w' w'.heap.size A n l := Rd.more (Rd.below h hb) hb.size
theorem liftL {w w' : World} {A : Option Addr} {n : Nat} {R : List SlA} {L : List Li} (h : RdL w w.heap.size A n R L) (hb : Below w.heap.size w w') : RdL w' w'.heap.size A n R L := (h.below hb).more hb.size
theorem lit_rd {α : Type} (f : α → List Value) (k : Nat) (hf : ∀ x, (f x).length = k) (X : List α) (w : World) (t : TypeId) : Rd (w.alloc (.cells (X.flatMap f).toArray t)) (w.alloc (.cells (X.flatMap f).toArray t)).heap.size k (some ⟨w.heap.size, 0, none⟩) X.length (X.flatMap f) := by
  have hlen : ∀ l : List α, (l.flatMap f).length = l.length * k := by
    intro l
    induction l with
    | nil => simp
    | cons z l ih => rw [List.flatMap_cons, List.length_append, ih, hf, List.length_cons, Nat.add_mul]; omega
  exact ⟨hlen X, fun _ => ⟨w.heap.size, 0, rfl, (Bk.new w t (X.flatMap f)).lt, fun j u hu => by
    rw [Nat.zero_add, (Bk.new w t (X.flatMap f)).cell]
    exact hu⟩⟩
theorem lit_l (z : List (Li × SlA)) (w : World) (h : ∀ x ∈ z, RdT w w.heap.size x.2.1 x.2.2.1 x.1.2.2) : RdL (w.alloc (.cells (z.flatMap liC).toArray 33)) (w.alloc (.cells (z.flatMap liC).toArray 33)).heap.size (some ⟨w.heap.size, 0, none⟩) z.length (z.map (·.2)) (z.map (·.1)) := by
  have hb : Below w.heap.size w (w.alloc (.cells (z.flatMap liC).toArray 33)) := (Below.refl _ _).alloc (Nat.le_refl _) _
  refine ⟨by simp, by simp, ?_, fun i r x h1 h2 => ?_⟩
  · rw [List.zip_map', List.map_id'' (fun _ => rfl)]
    exact lit_rd liC 3 (fun _ => rfl) z w _
  · rw [List.getElem?_map] at h1 h2
    obtain ⟨y, hy, rfl⟩ := Option.map_eq_some_iff.1 h1
    rw [hy] at h2
    cases h2
    exact liftT (h y (List.mem_of_getElem? hy)) hb
theorem lit_c (z : List (Cl × ClA)) (w : World) (h : ∀ x ∈ z, RdT w w.heap.size x.2.1.1 x.2.1.2.1 x.1.1.2 ∧ RdL w w.heap.size x.2.2.1.1 x.2.2.1.2.1 x.2.2.2 x.1.2) : RdCs (w.alloc (.cells (z.flatMap clC).toArray 31)) (w.alloc (.cells (z.flatMap clC).toArray 31)).heap.size (some ⟨w.heap.size, 0, none⟩) z.length (z.map (·.2)) (z.map (·.1)) := by
  have hb : Below w.heap.size w (w.alloc (.cells (z.flatMap clC).toArray 31)) := (Below.refl _ _).alloc (Nat.le_refl _) _
  refine ⟨by simp, by simp, ?_, fun i r x h1 h2 => ?_⟩
  · rw [List.zip_map', List.map_id'' (fun _ => rfl)]
    exact lit_rd clC 3 (fun _ => rfl) z w _
  · rw [List.getElem?_map] at h1 h2
    obtain ⟨y, hy, rfl⟩ := Option.map_eq_some_iff.1 h1
    rw [hy] at h2
    cases h2
    exact ⟨liftT (h y (List.mem_of_getElem? hy)).1 hb, liftL (h y (List.mem_of_getElem? hy)).2 hb⟩
end Go.Proofs.Ytfmghkplafploaa

