/- Layer 9 (graph): parts sorted by their first nodes. -/
import Derived.Test.YtbfagejdpbagjaaGrH
set_option linter.unusedVariables false
set_option linter.unusedSimpArgs false
namespace Go.Proofs.Ytbfagejdpbagjaa
open Go Go.RowKit Go.Sort Go.Lib

set_option maxRecDepth 100000 in
set_option maxHeartbeats 1000000 in
/-- Two slices whose first elements are unlike. -/
theorem cmp_ne (b1 n1 c1 b2 n2 c2 : Nat) (x y : Nat) (w : World) (h1 : 0 < n1) (h2 : 0 < n2) (hx : w.cell? ⟨b1, 0, none⟩ = some (ni x)) (hy : w.cell? ⟨b2, 0, none⟩ = some (ni y)) (hne : x ≠ y) :
    Calls Try.prog 25 #[.slice (some ⟨b1, 0, none⟩) n1 c1, .slice (some ⟨b2, 0, none⟩) n2 c2] w fun e w' => e = .returned (.int .i64 (compareInt x y)) ∧ w' = w := by
  have hcon := cmp_Compare_int (x : Int) (y : Int) w
  have hz : compareInt (x : Int) (y : Int) ≠ 0 := by
    unfold compareInt
    rcases Nat.lt_or_gt_of_ne hne with h | h
    · rw [if_pos (by omega)]; decide
    · rw [if_neg (by omega), if_pos (by omega)]; decide
  generalize compareInt (x : Int) (y : Int) = r at hcon hz ⊢
  have hz1 : (r != 0) = true := by simpa using hz
  have hz2 : (r == 0) = false := by simpa using hz
  clear hz hne
  have i1 : (0 : Int) < (n1 : Int) := by omega
  have i2 : ¬ (n2 : Int) ≤ 0 := by omega
  have i3 : (0 : Int) < (n2 : Int) := by omega
  go_enter Try.func25, Try.ntmps25
  repeat (first | go_skip | go_guarded | go_step)
  go_loop [11] (fun q => q = .int .i64 0) (fun _ => 0)
  case atStart => rfl
  case round =>
    subst hrel
    repeat (first | go_skip | go_guarded | go_step)
    refine hcon.mono ?_
    rintro e w' ⟨rfl, rfl⟩
    dsimp only
    repeat (first | go_skip | go_guarded | go_step)
    go_ret
    exact ⟨rfl, rfl⟩
set_option maxRecDepth 100000 in
set_option maxHeartbeats 1000000 in
/-- A slice and itself. -/
theorem cmp_same (b n c : Nat) (l : List Nat) (w : World) (hl : l.length = n) (hb : n ≤ 1000000000000) (hc : ∀ j v, l[j]? = some v → w.cell? ⟨b, j, none⟩ = some (ni v)) :
    Calls Try.prog 25 #[.slice (some ⟨b, 0, none⟩) n c, .slice (some ⟨b, 0, none⟩) n c] w fun e w' => e = .returned (.int .i64 0) ∧ w' = w := by
  have HC := Lib.hid hc
  have HL := Lib.hid hl
  clear hc hl
  go_enter Try.func25, Try.ntmps25
  repeat (first | go_skip | go_guarded | go_step)
  go_loop [11] (fun q => ∃ i : Nat, i ≤ n ∧ q = .int .i64 (i : Int)) (fun q => n - (intOf q).toNat)
  case atStart => exact ⟨0, by omega, rfl⟩
  case round =>
    obtain ⟨i, hi, rfl⟩ := hrel
    by_cases hlt : i < n
    · have hci : (i : Int) < (n : Int) := by omega
      have hcj : ¬ (n : Int) ≤ (i : Int) := by omega
      obtain ⟨x, hx⟩ : ∃ x, l[i]? = some x := ⟨_, List.getElem?_eq_getElem (by rw [HL.out]; exact hlt)⟩
      have cx := HC.out i x hx
      clear hx
      have hcon := cmp_Compare_int (x : Int) (x : Int) w
      rw [show compareInt (x : Int) (x : Int) = 0 by unfold compareInt; simp] at hcon
      repeat (first | go_skip | go_guarded | go_step)
      refine hcon.mono ?_
      rintro e w' ⟨rfl, rfl⟩
      clear hcon
      dsimp only
      repeat (first | go_skip | go_guarded | go_step)
      go_round
      case rel => exact ⟨i + 1, by omega, by go_num⟩
      case measure => simp [intOf]; omega
    · obtain rfl : i = n := by omega
      have hci : ¬ (i : Int) < (i : Int) := by omega
      repeat (first | go_skip | go_guarded | go_step)
      go_ret
      exact ⟨rfl, rfl⟩
/-- Parts that are read: slices of numbers. -/
structure RdP (w : World) (B : Nat) (A : Option Addr) (P : List (List Nat)) (R : List (Nat × Nat)) : Prop where
  rlen : R.length = P.length
  top : Rd w B 1 A P.length ((R.zip P).map fun x => .slice (some ⟨x.1.1, 0, none⟩) x.2.length x.1.2)
  row : ∀ (i : Nat) (r : Nat × Nat) (p : List Nat), R[i]? = some r → P[i]? = some p → r.1 < B ∧ p.length ≤ r.2 ∧ ∀ j v, p[j]? = some v → w.cell? ⟨r.1, j, none⟩ = some (ni v)
theorem RdP.below {w w' : World} {B : Nat} {A : Option Addr} {P : List (List Nat)} {R : List (Nat × Nat)} (h : RdP w B A P R) (hb : Below B w w') : RdP w' B A P R :=
  ⟨h.rlen, h.top.below hb, fun i r p hr hp => by
    obtain ⟨q1, q2, q3⟩ := h.row i r p hr hp
    exact ⟨q1, q2, fun j v hv => (hb.cell (p := ⟨r.1, j, none⟩) q1).trans (q3 j v hv)⟩⟩
theorem RdP.more {w : World} {B B' : Nat} {A : Option Addr} {P : List (List Nat)} {R : List (Nat × Nat)} (h : RdP w B A P R) (hb : B ≤ B') : RdP w B' A P R :=
  ⟨h.rlen, h.top.more hb, fun i r p hr hp => by
    obtain ⟨q1, q2, q3⟩ := h.row i r p hr hp
    exact ⟨by omega, q2, q3⟩⟩
theorem RdP.at_ {w : World} {B : Nat} {A : Option Addr} {P : List (List Nat)} {R : List (Nat × Nat)} (h : RdP w B A P R) {i : Nat} (hi : i < P.length) :
    ∃ b o r p, A = some ⟨b, o, none⟩ ∧ b < B ∧ R[i]? = some r ∧ P[i]? = some p ∧ w.cell? ⟨b, o + i, none⟩ = some (.slice (some ⟨r.1, 0, none⟩) p.length r.2) ∧ r.1 < B ∧ p.length ≤ r.2 ∧ ∀ j v, p[j]? = some v → w.cell? ⟨r.1, j, none⟩ = some (ni v) := by
  obtain ⟨b, o, u, hA, hb, hu, hc⟩ := h.top.at1 hi
  have hr : R[i]? = some (R[i]'(by rw [h.rlen]; exact hi)) := List.getElem?_eq_getElem _
  have hp : P[i]? = some P[i] := List.getElem?_eq_getElem _
  rw [List.getElem?_map, (List.getElem?_zip_eq_some (z := (R[i]'(by rw [h.rlen]; exact hi), P[i]))).2 ⟨hr, hp⟩] at hu
  obtain rfl := Option.some.inj hu
  obtain ⟨q1, q2, q3⟩ := h.row i _ _ hr hp
  exact ⟨b, o, _, _, hA, hb, hr, hp, hc, q1, q2, q3⟩
theorem PR.rd {w : World} {base c : Nat} {A : Option Addr} {P : List (List Nat)} {R : List (Nat × Nat)} (h : PR w base A c P R) : RdP w w.heap.size A P R :=
  ⟨h.rlen, Rd.ofOwn h.own, fun i r p hr hp => by
    obtain ⟨_, q2, q3, q4⟩ := h.row i r p hr hp
    exact ⟨q2, q3, q4⟩⟩
theorem compareInt_lt (x y : Int) : decide (compareInt x y < 0) = decide (x < y) := by
  unfold compareInt
  by_cases h1 : x < y
  · simp [h1]
  · by_cases h2 : y < x <;> simp [h1, h2]
theorem perm_get {α : Type} (k : Nat) (f : Fin k → α) (D : List (Fin k)) (hD : D.Perm (List.finRange k)) : (D.map f).Perm ((List.finRange k).map f) := hD.map f
/-- 'slices.SortFunc(parts, slices.Compare)'. -/
theorem sortParts_any (w : World) (base c n : Nat) (E : List (Nat × Nat)) (A : Option Addr) (P : List (List Nat)) (R : List (Nat × Nat)) (h : PR w base A c P R) (hI : IsParts n E P) (hn : n ≤ 4096) :
    Calls Try.prog 24 #[.slice A P.length c, .func (.func 25) #[] #[]] w fun e w' => e = .returned (.tuple #[]) ∧ ∃ P' R', P'.Perm P ∧ P'.Pairwise (fun p q => p.headD 0 < q.headD 0) ∧ RdP w' w'.heap.size A P' R' ∧ Turn (fun k => blockOf A = some k) w w' := by
  have hPl := hI.len_le
  by_cases h0 : P.length = 0
  · have hP : P = [] := List.eq_nil_of_length_eq_zero h0
    subst hP
    have hR : R = [] := List.eq_nil_of_length_eq_zero (by rw [h.rlen]; rfl)
    subst hR
    refine (slices_SortFunc_none (α := Nat) A c _ w).mono ?_
    rintro e w' ⟨rfl, rfl⟩
    exact ⟨rfl, [], [], List.Perm.refl _, List.Pairwise.nil, h.rd, Turn.refl _ _⟩
  · obtain ⟨k, hk⟩ : ∃ k, k = P.length := ⟨_, rfl⟩
    have hRl : R.length = k := by rw [hk]; exact h.rlen
    have : Inhabited (Fin k) := ⟨⟨0, by omega⟩⟩
    obtain ⟨blk, hA, hblk1, hblk2, hkc, hcell, hfz⟩ := ownSome h.own (by omega)
    -- the part of a place, and its slice
    have pt : ∀ i : Fin k, ∃ p, P[i.1]? = some p := fun i => ⟨_, List.getElem?_eq_getElem (by rw [← hk]; exact i.2)⟩
    let pf : Fin k → List Nat := fun i => P[i.1]'(by rw [← hk]; exact i.2)
    let rf : Fin k → Nat × Nat := fun i => R[i.1]'(by rw [hRl]; exact i.2)
    let enc : Fin k → Value := fun i => .slice (some ⟨(rf i).1, 0, none⟩) (pf i).length (rf i).2
    let cf : Fin k → Fin k → Int := fun i j => compareInt ((pf i).headD 0 : Nat) ((pf j).headD 0 : Nat)
    have hpf : ∀ i : Fin k, P[i.1]? = some (pf i) := fun i => List.getElem?_eq_getElem _
    have hrf : ∀ i : Fin k, R[i.1]? = some (rf i) := fun i => List.getElem?_eq_getElem _
    have hne : ∀ i : Fin k, pf i ≠ [] := fun i => hI.ne (List.mem_of_getElem? (hpf i))
    have hhd : ∀ i j : Fin k, (pf i).headD 0 = (pf j).headD 0 → i = j := by
      intro i j e
      obtain ⟨a, p', ha⟩ := List.exists_cons_of_ne_nil (hne i)
      obtain ⟨b, q', hb⟩ := List.exists_cons_of_ne_nil (hne j)
      rw [ha, hb] at e
      simp only [List.headD_cons] at e
      subst e
      exact Fin.ext (hI.uniq (hpf i) (hpf j) (v := a) (by rw [ha]; simp) (by rw [hb]; simp))
    have hlt : ∀ i j : Fin k, ltOf cf i j = decide ((pf i).headD 0 < (pf j).headD 0) := by
      intro i j
      show decide (compareInt _ _ < 0) = _
      rw [compareInt_lt]
      by_cases hq : (pf i).headD 0 < (pf j).headD 0
      · simp only [hq, decide_true, decide_eq_true_eq]; omega
      · simp only [hq, decide_false, decide_eq_false_iff_not]; omega
    have hO : SWO (ltOf cf) := ⟨fun x => by rw [hlt]; simp, fun x y z h1 h2 => by rw [hlt] at *; simp only [decide_eq_true_eq] at *; omega, fun x y z h1 h2 => by rw [hlt] at *; simp only [decide_eq_false_iff_not] at *; omega⟩
    have hT : ∀ x y, ltOf cf x y = false → ltOf cf y x = false → x = y := fun x y h1 h2 => by
      rw [hlt] at h1 h2
      simp only [decide_eq_false_iff_not] at h1 h2
      exact hhd x y (by omega)
    let d : Array (Fin k) := (List.finRange k).toArray
    have hdk : d.size = k := by simp [d]
    have hdg : ∀ (j : Nat) (hj : j < k), d[j]! = ⟨j, hj⟩ := fun j hj => by
      rw [getElem!_pos d j (by rw [hdk]; exact hj)]
      simp [d]
    have hz : ∀ i : Fin k, ((R.zip P).map fun x => Value.slice (some ⟨x.1.1, 0, none⟩) x.2.length x.1.2)[i.1]? = some (enc i) := fun i => by
      rw [List.getElem?_map, (List.getElem?_zip_eq_some (z := (rf i, pf i))).2 ⟨hrf i, hpf i⟩]; rfl
    have hH : Holds enc w blk 0 d := fun j hj => by
      rw [hdk] at hj
      rw [Nat.zero_add, hdg j hj]
      exact ⟨hcell j _ (hz ⟨j, hj⟩), hfz j⟩
    have hrow : ∀ i : Fin k, (rf i).1 ≠ blk ∧ (rf i).1 < w.heap.size ∧ (pf i).length ≤ (rf i).2 ∧ ∀ j v, (pf i)[j]? = some v → w.cell? ⟨(rf i).1, j, none⟩ = some (ni v) := fun i => by
      obtain ⟨q1, q2, q3, q4⟩ := h.row i.1 _ _ (hrf i) (hpf i)
      refine ⟨fun e => h.ap _ (List.mem_of_getElem? (hrf i)) (by rw [hA]; exact congrArg some e.symm), q2, q3, q4⟩
    have hcw : ∀ (m : Nat) (os : Array Obj) (dk : Array (Fin k)) (i : Fin k) (j v : Nat), (pf i)[j]? = some v → (sortWorld enc w blk 0 m dk os).cell? ⟨(rf i).1, j, none⟩ = some (ni v) := fun m os dk i j v hv => by
      obtain ⟨q1, q2, _, q4⟩ := hrow i
      unfold sortWorld
      rw [cell?_grow _ _ _ (by simpa using q2), cell?_putRow_other _ _ _ _ _ _ (.inl q1), cell?_ahead]
      exact q4 j v hv
    have hsz : ∀ i : Fin k, (pf i).length ≤ 4096 := fun i => by
      obtain ⟨v, hv, e⟩ := hI.cls _ (List.mem_of_getElem? (hpf i))
      rw [e]
      unfold part
      have := List.length_filter_le (fun u => @decide (Both E v u) (Classical.propDecidable _)) (List.range n)
      rw [List.length_range] at this
      exact Nat.le_trans this hn
    have hcmp : CmpLays1 Try.prog 25 #[] enc cf blk 0 d.size w := by
      refine CmpReads.lays fun m os dk _ x y => ?_
      obtain ⟨a, p', ha⟩ := List.exists_cons_of_ne_nil (hne x)
      obtain ⟨b, q', hb⟩ := List.exists_cons_of_ne_nil (hne y)
      by_cases hxy : x = y
      · subst hxy
        have hcf : cf x x = 0 := by show compareInt _ _ = 0; unfold compareInt; simp
        rw [hcf]
        refine (cmp_same (rf x).1 (pf x).length (rf x).2 (pf x) _ rfl (by have := hsz x; omega) (fun j v hv => hcw m os dk x j v hv)).mono ?_
        rintro e w' ⟨rfl, rfl⟩
        exact ⟨rfl, 0, rfl⟩
      · have hab : (pf x).headD 0 ≠ (pf y).headD 0 := fun e => hxy (hhd x y e)
        refine (cmp_ne (rf x).1 (pf x).length (rf x).2 (rf y).1 (pf y).length (rf y).2 ((pf x).headD 0) ((pf y).headD 0) _ (by rw [ha]; simp) (by rw [hb]; simp) (hcw m os dk x 0 _ (by rw [ha]; rfl)) (hcw m os dk y 0 _ (by rw [hb]; rfl)) hab).mono ?_
        rintro e w' ⟨rfl, rfl⟩
        exact ⟨rfl, 0, rfl⟩
    have eg : ∀ args w, (callFunc 25 args).run Try.prog w = .ok (.enter 25 args) w := enters_of Try.func25 (by kernel_rfl) rfl
    have hs := slices_SortFunc_total enc (fun _ => rfl) cf hO 25 #[] blk 0 c d w eg hcmp hH hblk2 (by rw [hdk]; omega) hT
    rw [hdk] at hs
    rw [hA, ← hk]
    refine hs.mono ?_
    rintro e w' ⟨rfl, m, os, rfl⟩
    obtain ⟨D, hD⟩ : ∃ D, D = d.toList.mergeSort fun x y => !(ltOf cf) y x := ⟨_, rfl⟩
    rw [← hD]
    have hperm : D.Perm (List.finRange k) := by rw [hD]; exact (List.mergeSort_perm _ _).trans (by simp [d])
    have hsorted : D.Pairwise fun x y => (!(ltOf cf) y x) = true := by
      rw [hD]
      refine List.pairwise_mergeSort (fun a b c h1 h2 => ?_) (fun a b => ?_) _
      · simp only [Bool.not_eq_true', hlt, decide_eq_false_iff_not] at *; omega
      · simp only [Bool.or_eq_true, Bool.not_eq_true', hlt, decide_eq_false_iff_not]; omega
    have hDl : D.length = k := by rw [hperm.length_eq]; simp
    have hnd : D.Nodup := hperm.nodup_iff.2 (List.nodup_finRange k)
    have eP : (List.finRange k).map pf = P := by
      refine List.ext_getElem (by simp [hk]) fun i h1 h2 => ?_
      simp [pf]
    refine ⟨rfl, D.map pf, D.map rf, ?_, ?_, ?_, ?_⟩
    · have := perm_get k pf D hperm
      rwa [eP] at this
    · refine List.pairwise_map.2 ((hsorted.and hnd).imp fun {x y} h => ?_)
      have h1 := h.1
      simp only [Bool.not_eq_true', hlt, decide_eq_false_iff_not] at h1
      have : (pf x).headD 0 ≠ (pf y).headD 0 := fun e => h.2 (hhd x y e)
      omega
    · have hDg : ∀ (j : Nat) (i : Fin k), D[j]? = some i → D.toArray[j]! = i := fun j i hj => by
        obtain ⟨h1, h2⟩ := List.getElem?_eq_some_iff.1 hj
        rw [getElem!_pos D.toArray j (by simpa using h1)]
        simpa using h2
      refine ⟨by simp, ⟨by simp, fun _ => ⟨blk, 0, rfl, ?_, ?_⟩⟩, ?_⟩
      · unfold sortWorld; simp; omega
      · intro j u hu
        rw [List.getElem?_map] at hu
        have hjl : j < D.length := by
          rcases Nat.lt_or_ge j D.length with g | g
          · exact g
          · rw [List.getElem?_eq_none (by simp; omega)] at hu; cases hu
        have hji : D[j]? = some D[j] := List.getElem?_eq_getElem hjl
        rw [List.getElem?_zip_eq_some (z := (rf D[j], pf D[j])) |>.2 ⟨by rw [List.getElem?_map, hji]; rfl, by rw [List.getElem?_map, hji]; rfl⟩] at hu
        obtain rfl := Option.some.inj hu
        unfold sortWorld
        rw [cell?_grow _ _ _ (by simpa using hblk2), cell?_putRow enc (Sort.ahead w m) blk 0 d D.toArray (holds_ahead enc w m blk 0 d hH) (by simp [hdk, hDl]) j (by simpa using hjl), hDg j _ hji]
      · intro i r p hr hp
        rw [List.getElem?_map] at hr hp
        cases hi : D[i]? with
        | none => rw [hi] at hr; cases hr
        | some x =>
          rw [hi] at hr hp
          obtain rfl := Option.some.inj hr
          obtain rfl := Option.some.inj hp
          obtain ⟨q1, q2, q3, q4⟩ := hrow x
          refine ⟨?_, q3, fun j v hv => hcw m os D.toArray x j v hv⟩
          unfold sortWorld; simp; omega
    · refine ⟨rfl, rfl, rfl, by unfold sortWorld; simp, fun q hq hnq => ?_⟩
      unfold sortWorld
      rw [heap_grow_old _ _ (by simpa using hq)]
      have hqb : blk ≠ q := fun e => hnq (congrArg some e)
      simp [putRow, mapBlock, Sort.ahead, Array.getElem?_modify, hqb]
end Go.Proofs.Ytbfagejdpbagjaa
