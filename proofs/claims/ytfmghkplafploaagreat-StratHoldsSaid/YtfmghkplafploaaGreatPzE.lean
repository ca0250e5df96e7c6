/- Texts, packed: StC StD StE -/
import Derived.Test.YtfmghkplafploaaGreatPzD
set_option linter.unusedVariables false
set_option linter.unusedSimpArgs false
namespace Go.Proofs.YtfmghkplafploaaGreat
open Go Go.RowKit

/-- The predicates of P, rising, each with the level 0. -/
structure Prd (X : List Lv) (P : List UInt32) : Prop where
  sorted : (X.map (·.1)).Pairwise (· < ·)
  mem : ∀ p, p ∈ X.map (·.1) ↔ p ∈ P
  zero : ∀ x ∈ X, x.2 = 0
theorem Prd.congr {X : List Lv} {P P' : List UInt32} (h : Prd X P) (e : ∀ p, p ∈ P ↔ p ∈ P') : Prd X P' := ⟨h.sorted, fun p => (h.mem p).trans (e p), h.zero⟩
/-- .. one more, in its place. -/
theorem Prd.ins {X : List Lv} {P : List UInt32} (h : Prd X P) {p : UInt32} {t : Nat} (hn : p ∉ P) (h1 : ∀ x ∈ X.take t, x.1 < p) (h2 : ∀ x ∈ X.drop t, p < x.1) : Prd (X.take t ++ (p, 0) :: X.drop t) (P ++ [p]) := by
  have hX : X = X.take t ++ X.drop t := (List.take_append_drop t X).symm
  have hs := h.sorted
  rw [hX, List.map_append, List.pairwise_append] at hs
  refine ⟨?_, fun q => ?_, fun x hx => ?_⟩
  · rw [List.map_append, List.map_cons, List.pairwise_append, List.pairwise_cons]
    refine ⟨hs.1, ⟨fun q hq => ?_, hs.2.1⟩, fun a ha b hb => ?_⟩
    · obtain ⟨x, hx, rfl⟩ := List.mem_map.1 hq
      exact h2 x hx
    · obtain ⟨x, hx, rfl⟩ := List.mem_map.1 ha
      rcases List.mem_cons.1 hb with rfl | hb
      · exact h1 x hx
      · exact hs.2.2 _ (List.mem_map.2 ⟨x, hx, rfl⟩) b hb
  · have hm := h.mem q
    rw [hX, List.map_append, List.mem_append] at hm
    rw [List.map_append, List.map_cons, List.mem_append, List.mem_cons, List.mem_append, List.mem_singleton]
    constructor
    · rintro (e | e | e)
      · exact .inl (hm.1 (.inl e))
      · exact .inr e
      · exact .inl (hm.1 (.inr e))
    · rintro (e | e)
      · rcases hm.2 e with e | e
        · exact .inl e
        · exact .inr (.inr e)
      · exact .inr (.inl e)
  · rcases List.mem_append.1 hx with hx | hx
    · exact h.zero x (List.mem_of_mem_take hx)
    · rcases List.mem_cons.1 hx with rfl | hx
      · rfl
      · exact h.zero x (List.mem_of_mem_drop hx)
theorem shift_at {X : List Lv} {t : Nat} {g : Lv} (ht : t ≤ X.length) {i : Nat} (hi : i < t) : (X.take t ++ g :: X.drop t)[i]? = X[i]? := by
  rw [List.getElem?_append_left (by rw [List.length_take]; omega), List.getElem?_take, if_pos hi]
theorem shift_set {X : List Lv} {t : Nat} {g y : Lv} (ht : t ≤ X.length) : (X.take t ++ g :: X.drop t).set t y = X.take t ++ y :: X.drop t := by
  rw [List.set_append_right _ _ (by rw [List.length_take]; omega), List.length_take, Nat.min_eq_left ht, Nat.sub_self, List.set_cons_zero]
theorem shift_step {X : List Lv} {t : Nat} {x : Lv} (hx : X[t]? = some x) : X.take (t + 1) ++ x :: X.drop (t + 1) = X.take t ++ x :: X.drop t := by
  obtain ⟨ht, e⟩ := List.getElem?_eq_some_iff.1 hx
  rw [List.take_add_one, hx, List.drop_eq_getElem_cons ht, e]
  simp
theorem prC_keys (x : Cl) : prC x = (keysC x).map (·.1) := by
  unfold prC keysC
  simp
theorem atoms_pr {w : World} {B n1 : Nat} {A1 : Option Addr} {R : List SlA} {L : List Li} (h : RdL w B A1 n1 R L) (p : UInt32) (A : Option Addr) (n c : Nat) (l : List Tm) (hl : l.length = n) :
    (atomsR p (A, n, c) R L).map (·.1) = prC ((p, l), L) := by
  have := keys_atoms h p A n c l hl
  rw [prC_keys, ← this, List.map_map]
  rfl
theorem prL_step {C : List Cl} {i : Nat} {x : Cl} (h : C[i]? = some x) : prL (C.take (i + 1)) = prL (C.take i) ++ prC x := by
  unfold prL
  rw [List.take_add_one, h, List.flatMap_append]
  simp
theorem not_lt_of {a b : UInt32} (h : ¬ (b.toNat : Int) < (a.toNat : Int)) (hn : a ≠ b) : a < b := by
  have h1 : a.toNat ≠ b.toNat := fun e => hn (UInt32.toNat_inj.1 e)
  exact UInt32.lt_iff_toNat_lt.2 (by omega)
set_option maxRecDepth 100000 in
set_option maxHeartbeats 8000000 in
theorem rPreds_any (A : Option Addr) (n c : Nat) (Q : List ClA) (C : List Cl) (w : World) (h : RdCs w w.heap.size A n Q C) (hn : n ≤ 100000) (hk : ∀ x ∈ C, x.2.length ≤ 1000000) :
    Calls Tryz.prog 26 #[.slice A n c] w fun e w' => ∃ Al cl X, e = .returned (.slice Al X.length cl) ∧ OwV w' w.heap.size Al cl X.length X ∧ Prd X (prL C) ∧ X.length ≤ n * 1000001 ∧ Below w.heap.size w w' := by
  have HC := Lib.hid h
  have HK := Lib.hid hk
  clear h hk
  go_enter Tryz.func26, Tryz.ntmps26
  repeat (first | go_skip | go_guarded | go_step)
  go_loopw [3, 4] (fun ov q wr => ∃ (i m : Nat) (Al : Option Addr) (cl : Nat) (X : List Lv), i ≤ n ∧ ov = .slice Al m cl ∧ q = .int .i64 (i : Int) ∧ OwV wr w.heap.size Al cl m X ∧ Prd X (prL (C.take i)) ∧ m ≤ i * 1000001 ∧ Below w.heap.size w wr) (fun _ q _ => n - (intOf q).toNat)
  case atStart => exact ⟨0, 0, none, 0, [], by omega, rfl, rfl, World.ownsRow_nil _ _ _ _, ⟨by simp, by simp [prL], by simp⟩, by simp, Below.refl _ _⟩
  case round =>
    rename World => wr
    obtain ⟨i, m, Al, cl, X, hi, rfl, rfl, how, hpd, hxl, hbr⟩ := hrel
    have HOW := Lib.hid how
    have HPD := Lib.hid hpd
    have HBR := Lib.hid hbr
    clear how hpd hbr
    by_cases hlt : i < n
    · have hci : (i : Int) < (n : Int) := by omega
      obtain ⟨b, o, p, l, L, A0, n0, c0, A1, n1, c1, R, hA, hb, hx, hq, hd0, hd1, hd2, hrt, hrl⟩ := (HC.out.below HBR.out).at_ hlt
      subst hA
      have hn1 : n1 ≤ 1000000 := by have := HK.out _ (List.mem_of_getElem? hx); have := hrl.lenL; dsimp only at *; omega
      have HPS := Lib.hid (prL_step hx)
      have HPA := Lib.hid (atoms_pr hrl p A0 n0 c0 l (rdT_len hrt))
      have hcall := rAtoms_any p A0 n0 c0 A1 n1 c1 R L wr (hrl.more HBR.out.size) hn1
      clear hx hq hrt hrl hb
      repeat (first | go_skip | go_guarded | go_step)
      refine hcall.mono ?_
      rintro e w2 ⟨A', c', rfl, ho2, hb2⟩
      obtain ⟨AT, hAT⟩ : ∃ AT, AT = atomsR p (A0, n0, c0) R L := ⟨_, rfl⟩
      rw [← hAT] at ho2 HPA
      have HO2 := Lib.hid ho2
      have HOW2 := Lib.hid (HOW.out.later hb2)
      have HB2 := Lib.hid (HBR.out.trans (hb2.mono HBR.out.size))
      have hwr2 : wr.heap.size ≤ w2.heap.size := hb2.size
      clear hcall ho2 hb2 hd0 hd1 hd2 hAT
      dsimp only
      have hbd : i * 1000001 ≤ 100000 * 1000001 := Nat.mul_le_mul_right _ (by omega)
      repeat (first | go_skip | go_guarded | go_step)
      go_loopw [3, 6] (fun ov q w3 => ∃ (k m : Nat) (Al : Option Addr) (cl : Nat) (X : List Lv), k ≤ n1 + 1 ∧ ov = .slice Al m cl ∧ q = .int .i64 (k : Int) ∧ OwV w3 w.heap.size Al cl m X ∧ Prd X (prL (C.take i) ++ (AT.map (·.1)).take k) ∧ m ≤ i * 1000001 + k ∧ OwAt w3 wr.heap.size A' c' (n1 + 1) AT ∧ Below w.heap.size w w3) (fun _ q _ => n1 + 1 - (intOf q).toNat)
      case atStart => exact ⟨0, m, Al, cl, X, by omega, rfl, rfl, HOW2.out, by rw [List.take_zero, List.append_nil]; exact HPD.out, Nat.le_trans hxl (Nat.le_add_right _ _), HO2.out, HB2.out⟩
      case round =>
        clear hxl HOW HPD HOW2 HB2 HO2
        rename World => w3
        obtain ⟨k, m, Al, cl, X, hk, rfl, rfl, how, hpd, hxl, hoa, hb3⟩ := hrel
        have HOW := Lib.hid how
        have HPD := Lib.hid hpd
        have HOA := Lib.hid hoa
        have HB3 := Lib.hid hb3
        clear how hpd hoa hb3
        by_cases hltk : k < n1 + 1
        · have hki : (k : Int) < (n1 : Int) + 1 := by omega
          obtain ⟨y, hy⟩ : ∃ y, AT[k]? = some y := ⟨_, List.getElem?_eq_getElem (by rw [HOA.out.len]; exact hltk)⟩
          obtain ⟨b4, o4, hA4, hb4, hy0, _⟩ := rdAt HOA.out.rd hltk hy
          subst hA4
          obtain ⟨py, sy⟩ := y
          dsimp only at hy0
          have HYK := Lib.hid (show (AT.map (·.1)).take (k + 1) = (AT.map (·.1)).take k ++ [py] by rw [List.take_add_one, List.getElem?_map, hy]; rfl)
          have HY0 := Lib.hid (show ∀ V, Below w3.heap.size w3 V → V.cell? ⟨b4, o4 + k * 2, none⟩ = some (nv py) from fun V hV => (hV.cell (p := ⟨b4, o4 + k * 2, none⟩) hb4).trans hy0)
          have HRD := Lib.hid HOW.out.rd
          have HY := Lib.hid hy
          clear hy hy0
          repeat (first | go_skip | go_guarded | go_step)
          go_loopw [8, 9] (fun bv q w4 => ∃ (j : Nat) (bb : Bool), j ≤ m ∧ bv = .bool bb ∧ q = .int .i64 (j : Int) ∧ (bb = true ↔ py ∈ (X.take j).map (·.1)) ∧ Below w3.heap.size w3 w4) (fun _ q _ => m - (intOf q).toNat)
          case atStart => exact ⟨0, false, by omega, rfl, rfl, by simp, Below.refl _ _⟩
          case round =>
            rename World => w4
            obtain ⟨j, bb, hj, rfl, rfl, hbb, hb4'⟩ := hrel
            have HBB := Lib.hid hbb
            have HB4 := Lib.hid hb4'
            clear hbb hb4'
            by_cases hltj : j < m
            · have hji : (j : Int) < (m : Int) := by omega
              obtain ⟨b5, o5, x, hA5, hb5, hx5, hx0, _⟩ := rdV_at HRD.out hltj
              subst hA5
              obtain ⟨px, vx⟩ := x
              dsimp only at hx0
              have HX5 := Lib.hid hx5
              have qx := fun q => ((belowDrewQ HB4.out q).cell (p := ⟨b5, o5 + j * 2, none⟩) hb5).trans hx0
              have qy := fun q => HY0.out (w4.drewN q) (belowDrewQ HB4.out q)
              have HSTEP := Lib.hid (show ∀ b2 : Bool, (b2 = true ↔ (bb = true ∨ px = py)) → (b2 = true ↔ py ∈ (X.take (j + 1)).map (·.1)) from fun b2 hb2 => by
                rw [hb2, HBB.out, List.take_add_one, HX5.out, List.map_append, List.mem_append]
                simp only [Option.toList_some, List.map_cons, List.map_nil, List.mem_singleton, eq_comm])
              clear hx5 hx0
              cases bb with
              | true =>
                go_upto_region 14 with (fail)
                go_quiet (fail)
                repeat (first | go_skip | go_guarded | go_step)
                have hb9 := belowDrewQ HB4.out nq
                go_roundw
                case rel => exact ⟨j + 1, true, by omega, rfl, by go_num, HSTEP.out true (by simp), hb9⟩
                case measure => simp [intOf]; omega
              | false =>
                by_cases hp : px = py
                · have hd : ((px.toNat : Int) == (py.toNat : Int)) = true := by subst hp; simp
                  have HP := Lib.hid hp
                  clear hp
                  go_upto_region 14 with (fail)
                  go_quiet (fail)
                  repeat (first | go_skip | go_guarded | go_step)
                  have hb9 := belowDrewQ HB4.out nq
                  go_roundw
                  case rel => exact ⟨j + 1, true, by omega, rfl, by go_num, HSTEP.out true (by simp [HP.out]), hb9⟩
                  case measure => simp [intOf]; omega
                · have hd := u32ne' hp
                  have HP := Lib.hid hp
                  clear hp
                  go_upto_region 14 with (fail)
                  go_quiet (fail)
                  repeat (first | go_skip | go_guarded | go_step)
                  have hb9 := belowDrewQ HB4.out nq
                  go_roundw
                  case rel => exact ⟨j + 1, false, by omega, rfl, by go_num, HSTEP.out false (by simp [HP.out]), hb9⟩
                  case measure => simp [intOf]; omega
            · obtain rfl : m = j := by omega
              have hji : ¬ (m : Int) < (m : Int) := by omega
              have hlen : X.length = m := rdV_len HRD.out
              have hiff : bb = true ↔ py ∈ X.map (·.1) := by
                have h := HBB.out
                rwa [List.take_of_length_le (by rw [hlen]; exact Nat.le_refl _)] at h
              have hmp := HPD.out.mem py
              have HOW4 := Lib.hid (HOW.out.later HB4.out)
              have HOA4 := Lib.hid (HOA.out.later HB4.out)
              have HBW4 := Lib.hid (HB3.out.trans (HB4.out.mono HB3.out.size))
              have HLEN := Lib.hid hlen
              have HIFF := Lib.hid hiff
              have HMP := Lib.hid hmp
              clear hlen hiff hmp
              cases bb with
              | true =>
                repeat (first | go_skip | go_guarded | go_step)
                go_roundw
                case rel => exact ⟨k + 1, m, Al, cl, X, by omega, rfl, by go_num, HOW4.out, HPD.out.congr (fun q => by
                  have hin : py ∈ prL (C.take i) ++ (AT.map (·.1)).take k := HMP.out.1 (HIFF.out.1 rfl)
                  rw [HYK.out, ← List.append_assoc, List.mem_append (t := [py]), List.mem_singleton]
                  exact ⟨.inl, fun h => h.elim id fun e => e ▸ hin⟩), by omega, HOA4.out, HBW4.out⟩
                case measure => simp [intOf]; omega
              | false =>
                have hni : py ∉ prL (C.take i) ++ (AT.map (·.1)).take k := fun h => by
                  have := HIFF.out.2 (HMP.out.2 h)
                  cases this
                have HNI := Lib.hid hni
                clear hni
                have hZ : Below w4.heap.size w4 (w4.alloc (.cells #[nv 0, .int .i64 ((0 : Nat) : Int)] 34)) := (Below.refl _ _).alloc (Nat.le_refl _) _
                have HOZ := Lib.hid (HOW4.out.later hZ)
                have HOAZ := Lib.hid (HOA4.out.later hZ)
                have HBZ := Lib.hid (HBW4.out.trans (hZ.mono HBW4.out.size))
                have HLIT := Lib.hid (litV_rd w4 0 0)
                clear hZ
                repeat (first
                  | (at_builtin
                     refine appV _ rfl (.tmp 50) (.tmp 52) rfl w.heap.size Al cl m X rfl HOZ.out _ _ 1 1 [(0, 0)] rfl HLIT.out (by omega) HBZ.out.size ?_
                     intro A5 c5 w5 ho5 ht5
                     have HO5 := Lib.hid ho5
                     have HOA5 := Lib.hid (show OwAt w5 wr.heap.size (some ⟨b4, o4, none⟩) c' (n1 + 1) AT from ht5.own HOAZ.out (fun x hx => by rw [ownBlk_slice] at hx; exact apartV HOAZ.out HOZ.out hx))
                     have HB5 := Lib.hid (HBZ.out.trans (ht5.below (B := w.heap.size) (fun y _ e => (HOZ.out.low e).1) HBZ.out.size))
                     clear ho5 ht5)
                  | go_skip | go_guarded | go_step)
                go_loopw [7] (fun q w6 => ∃ (t : Nat) (g : Lv), t ≤ m ∧ q = .int .i64 (t : Int) ∧ OwV w6 w.heap.size A5 c5 (m + 1) (X.take t ++ g :: X.drop t) ∧ (∀ x ∈ X.drop t, py < x.1) ∧ OwAt w6 wr.heap.size (some ⟨b4, o4, none⟩) c' (n1 + 1) AT ∧ Below w.heap.size w w6) (fun q _ => (intOf q).toNat)
                case atStart => exact ⟨m, (0, 0), by omega, rfl, by
                  rw [List.take_of_length_le (by rw [HLEN.out]; exact Nat.le_refl _), List.drop_of_length_le (by rw [HLEN.out]; exact Nat.le_refl _)]
                  exact HO5.out, by
                  rw [List.drop_of_length_le (by rw [HLEN.out]; exact Nat.le_refl _)]
                  simp, HOA5.out, HB5.out⟩
                case round =>
                  rename World => w6
                  obtain ⟨t, g, ht, rfl, ho6, hgt, hoa6, hb6⟩ := hrel
                  have HO6 := Lib.hid ho6
                  have HGT := Lib.hid hgt
                  have HOA6 := Lib.hid hoa6
                  have HB6 := Lib.hid hb6
                  clear ho6 hgt hoa6 hb6
                  obtain ⟨b4', o4', hA4', hb4', hy0', _⟩ := rdAt HOA6.out.rd hltk HY.out
                  cases hA4'
                  dsimp only at hy0'
                  have qy := fun q => ((belowDrewQ (Below.refl w6.heap.size w6) q).cell (p := ⟨b4, o4 + k * 2, none⟩) hb4').trans hy0'
                  have HQY := Lib.hid (show ∀ V, Below w6.heap.size w6 V → V.cell? ⟨b4, o4 + k * 2, none⟩ = some (nv py) from fun V hV => (hV.cell (p := ⟨b4, o4 + k * 2, none⟩) hb4').trans hy0')
                  have htm1 : (t : Int) < (m : Int) + 1 := by omega
                  have ht00 : (0 : Int) ≤ (t : Int) := by omega
                  clear hb4' hy0'
                  by_cases ht0 : t = 0
                  · have hneg : ¬ (0 : Int) < (t : Int) := by omega
                    have hneg2 : decide (0 < t) = false := by rw [decide_eq_false_iff_not]; omega
                    have HT0 := Lib.hid ht0
                    clear ht0
                    go_upto_region 17 with (fail)
                    go_quiet (fail)
                    go_upto_region 20 with (fail)
                    obtain ⟨V, hV⟩ : ∃ V, V = w6.drewN nq := ⟨_, rfl⟩
                    rw [← hV]
                    have HV := Lib.hid (show Below w6.heap.size w6 V by rw [hV]; exact belowDrewQ (Below.refl _ _) nq)
                    have HOV := Lib.hid (HO6.out.later HV.out)
                    have HOAV := Lib.hid (HOA6.out.later HV.out)
                    have HBV := Lib.hid (HB6.out.trans (HV.out.mono HB6.out.size))
                    clear hV qy
                    obtain ⟨gb, x0, hA5, hgb, hgl, hs0, hs1, hsf0, hsf1, hset, hT⟩ := HOV.out.set2 (i := t) (by omega) (py, 0)
                    subst hA5
                    dsimp only at hset hT
                    have qv := HQY.out V HV.out
                    have HSET := Lib.hid hset
                    have HT := Lib.hid hT
                    have HOAS := Lib.hid (show OwAt ((V.setCell ⟨gb, t * 2, none⟩ (nv py)).setCell ⟨gb, t * 2 + 1, none⟩ (.int .i64 ((0 : Nat) : Int))) wr.heap.size (some ⟨b4, o4, none⟩) c' (n1 + 1) AT from hT.own HOAV.out (fun x hx e => by rw [ownBlk_slice] at hx; exact apartV HOAV.out HOV.out hx (by rw [e]; rfl)))
                    have HBS := Lib.hid (HBV.out.trans (hT.below (B := w.heap.size) (fun y _ e => by rw [e]; exact hgb) HBV.out.size))
                    clear hset hT hgl hgb
                    repeat (first | go_skip | go_guarded | go_step)
                    go_roundw
                    case rel => exact ⟨k + 1, m + 1, _, c5, X.take t ++ (py, 0) :: X.drop t, by omega, rfl, by go_num, by
                      have h := HSET.out
                      rw [shift_set (by rw [HLEN.out]; exact ht)] at h
                      exact h, by
                      rw [HYK.out, ← List.append_assoc]
                      exact HPD.out.ins HNI.out (fun x hx => by rw [HT0.out, List.take_zero] at hx; cases hx) HGT.out, by omega, HOAS.out, HBS.out⟩
                    case measure => simp [intOf]; omega
                  · obtain ⟨s, hs⟩ : ∃ s, s + 1 = t := ⟨t - 1, by omega⟩
                    have hpos : (0 : Int) < (t : Int) := by omega
                    have hpos2 : decide (0 < t) = true := by rw [decide_eq_true_iff]; omega
                    have hw1 : IntKind.i64.wrap ((t : Int) - 1) = (s : Int) := by rw [IntKind.wrap_i64]; omega
                    have hsm : s < m := by omega
                    have hsm1 : (s : Int) < (m : Int) + 1 := by omega
                    have hs0' : (0 : Int) ≤ (s : Int) := by omega
                    obtain ⟨x, hx⟩ : ∃ x, X[s]? = some x := ⟨_, List.getElem?_eq_getElem (by rw [HLEN.out]; exact hsm)⟩
                    obtain ⟨b6, o6, x', hA6, hb6', hx', hx0, hx1⟩ := rdV_at HO6.out.rd (i := s) (by omega)
                    have hxx : x' = x := by
                      rw [shift_at (by rw [HLEN.out]; omega) (by omega), hx] at hx'
                      cases hx'
                      rfl
                    subst hxx
                    obtain ⟨px, vx⟩ := x'
                    dsimp only at hx0 hx1
                    have HXS := Lib.hid hx
                    have HSS := Lib.hid hs
                    have qx := fun q => ((belowDrewQ (Below.refl w6.heap.size w6) q).cell (p := ⟨b6, o6 + s * 2, none⟩) hb6').trans hx0
                    have HX01 := Lib.hid (show ∀ V, Below w6.heap.size w6 V → V.cell? ⟨b6, o6 + s * 2, none⟩ = some (nv px) ∧ V.cell? ⟨b6, o6 + s * 2 + 1, none⟩ = some (.int .i64 (vx : Int)) from fun V hV => ⟨(hV.cell (p := ⟨b6, o6 + s * 2, none⟩) hb6').trans hx0, (hV.cell (p := ⟨b6, o6 + s * 2 + 1, none⟩) hb6').trans hx1⟩)
                    subst hA6
                    clear hx hx' hx0 hx1 hb6' hs
                    by_cases hgtp : (py.toNat : Int) < (px.toNat : Int)
                    · have HGP := Lib.hid hgtp
                      go_upto_region 17 with (fail)
                      go_quiet (fail)
                      go_upto_region 18 with (fail)
                      obtain ⟨V, hV⟩ : ∃ V, V = w6.drewN nq := ⟨_, rfl⟩
                      rw [← hV]
                      have HV := Lib.hid (show Below w6.heap.size w6 V by rw [hV]; exact belowDrewQ (Below.refl _ _) nq)
                      have HOV := Lib.hid (HO6.out.later HV.out)
                      have HOAV := Lib.hid (HOA6.out.later HV.out)
                      have HBV := Lib.hid (HB6.out.trans (HV.out.mono HB6.out.size))
                      clear hV qy qx hgtp
                      obtain ⟨k0, k1⟩ := HX01.out V HV.out
                      obtain ⟨gb, x0, hA5, hgb, hgl, hs0, hs1, hsf0, hsf1, hset, hT⟩ := HOV.out.set2 (i := t) (by omega) (px, vx)
                      simp only [Option.some.injEq, Addr.mk.injEq, and_true] at hA5
                      obtain ⟨rfl, rfl⟩ := hA5
                      dsimp only at hset hT
                      rw [Nat.zero_add] at k0 k1
                      have HSET := Lib.hid hset
                      have HT := Lib.hid hT
                      have HOAS := Lib.hid (show OwAt ((V.setCell ⟨b6, t * 2, none⟩ (nv px)).setCell ⟨b6, t * 2 + 1, none⟩ (.int .i64 (vx : Int))) wr.heap.size (some ⟨b4, o4, none⟩) c' (n1 + 1) AT from hT.own HOAV.out (fun x hx e => by rw [ownBlk_slice] at hx; exact apartV HOAV.out HOV.out hx (by rw [e]; rfl)))
                      have HBS := Lib.hid (HBV.out.trans (hT.below (B := w.heap.size) (fun y _ e => by rw [e]; exact hgb) HBV.out.size))
                      clear hset hT hgl hgb
                      repeat (first | go_skip | go_guarded | go_step)
                      go_roundw
                      case rel => exact ⟨s, (px, vx), by omega, by go_num, by
                        have h := HSET.out
                        have e : X.take t ++ (px, vx) :: X.drop t = X.take s ++ (px, vx) :: X.drop s := by rw [← HSS.out]; exact shift_step HXS.out
                        rw [shift_set (by rw [HLEN.out]; exact ht), e] at h
                        exact h, by
                        obtain ⟨q1, q2⟩ := List.getElem?_eq_some_iff.1 HXS.out
                        intro y hy
                        rw [List.drop_eq_getElem_cons q1, q2] at hy
                        rcases List.mem_cons.1 hy with rfl | hy
                        · exact UInt32.lt_iff_toNat_lt.2 (by have := HGP.out; show py.toNat < px.toNat; omega)
                        · exact HGT.out y (by rw [← HSS.out]; exact hy), HOAS.out, HBS.out⟩
                      case measure =>
                        have := HSS.out
                        simp [intOf]
                        omega
                    · have HGP := Lib.hid hgtp
                      have hne : px ≠ py := fun e => HNI.out (HMP.out.1 (by rw [← e]; exact List.mem_map.2 ⟨_, List.mem_of_getElem? HXS.out, rfl⟩))
                      have HNE := Lib.hid hne
                      clear hne
                      go_upto_region 17 with (fail)
                      go_quiet (fail)
                      go_upto_region 20 with (fail)
                      obtain ⟨V, hV⟩ : ∃ V, V = w6.drewN nq := ⟨_, rfl⟩
                      rw [← hV]
                      have HV := Lib.hid (show Below w6.heap.size w6 V by rw [hV]; exact belowDrewQ (Below.refl _ _) nq)
                      have HOV := Lib.hid (HO6.out.later HV.out)
                      have HOAV := Lib.hid (HOA6.out.later HV.out)
                      have HBV := Lib.hid (HB6.out.trans (HV.out.mono HB6.out.size))
                      clear hV qy qx hgtp
                      obtain ⟨gb, x0, hA5, hgb, hgl, hs0, hs1, hsf0, hsf1, hset, hT⟩ := HOV.out.set2 (i := t) (by omega) (py, 0)
                      simp only [Option.some.injEq, Addr.mk.injEq, and_true] at hA5
                      obtain ⟨rfl, rfl⟩ := hA5
                      dsimp only at hset hT
                      have qv := HQY.out V HV.out
                      have HSET := Lib.hid hset
                      have HT := Lib.hid hT
                      have HOAS := Lib.hid (show OwAt ((V.setCell ⟨b6, t * 2, none⟩ (nv py)).setCell ⟨b6, t * 2 + 1, none⟩ (.int .i64 ((0 : Nat) : Int))) wr.heap.size (some ⟨b4, o4, none⟩) c' (n1 + 1) AT from hT.own HOAV.out (fun x hx e => by rw [ownBlk_slice] at hx; exact apartV HOAV.out HOV.out hx (by rw [e]; rfl)))
                      have HBS := Lib.hid (HBV.out.trans (hT.below (B := w.heap.size) (fun y _ e => by rw [e]; exact hgb) HBV.out.size))
                      clear hset hT hgl hgb
                      repeat (first | go_skip | go_guarded | go_step)
                      go_roundw
                      case rel => exact ⟨k + 1, m + 1, _, c5, X.take t ++ (py, 0) :: X.drop t, by omega, rfl, by go_num, by
                        have h := HSET.out
                        rw [shift_set (by rw [HLEN.out]; exact ht)] at h
                        exact h, by
                        rw [HYK.out, ← List.append_assoc]
                        exact HPD.out.ins HNI.out (by
                          have hle : px < py := not_lt_of HGP.out HNE.out
                          have hs := HPD.out.sorted
                          intro y hy
                          obtain ⟨j, hj⟩ := List.mem_iff_getElem?.1 hy
                          rw [List.getElem?_take] at hj
                          split at hj
                          · rename_i hjt
                            rcases Nat.lt_or_ge j s with hjs | hjs
                            · obtain ⟨q1, q2⟩ := List.getElem?_eq_some_iff.1 hj
                              obtain ⟨q3, q4⟩ := List.getElem?_eq_some_iff.1 HXS.out
                              have := List.pairwise_iff_getElem.1 hs j s (by simpa using q1) (by simpa using q3) hjs
                              rw [List.getElem_map, List.getElem_map, q2, q4] at this
                              exact UInt32.lt_trans this hle
                            · have : j = s := by have := HSS.out; omega
                              subst this
                              rw [HXS.out] at hj
                              cases hj
                              exact hle
                          · cases hj) HGT.out, by omega, HOAS.out, HBS.out⟩
                      case measure => simp [intOf]; omega
        · obtain rfl : k = n1 + 1 := by omega
          have hki : ¬ (((n1 + 1 : Nat)) : Int) < (n1 : Int) + 1 := by omega
          have hki2 : ¬ ((n1 : Int) + 1) < (n1 : Int) + 1 := by omega
          repeat (first | go_skip | go_guarded | go_step)
          go_roundw
          case rel => exact ⟨i + 1, m, Al, cl, X, by omega, rfl, by go_num, HOW.out, by
            rw [HPS.out, ← HPA.out]
            have h := HPD.out
            rwa [List.take_of_length_le (l := AT.map (·.1)) (by rw [List.length_map, HOA.out.len]; exact Nat.le_refl _)] at h, by rw [Nat.add_mul]; omega, HB3.out⟩
          case measure => simp [intOf]; omega
    · obtain rfl : n = i := by omega
      have hci : ¬ (n : Int) < (n : Int) := by omega
      repeat (first | go_skip | go_guarded | go_step)
      go_ret
      have hl := HOW.out.len
      exact ⟨Al, cl, X, by rw [hl]; rfl, by rw [hl]; exact HOW.out, by
        have h := HPD.out
        rwa [List.take_of_length_le (by rw [HC.out.lenC]; exact Nat.le_refl _)] at h, by omega, HBR.out⟩
end Go.Proofs.YtfmghkplafploaaGreat

set_option linter.unusedVariables false
set_option linter.unusedSimpArgs false
namespace Go.Proofs.YtfmghkplafploaaGreat
open Go Go.RowKit

/-- How much can still be raised. -/
def mu (m : Nat) (X : List Lv) : Nat := (X.map fun x => m - x.2).sum
/-- Levels within a round: tb says whether one has been raised. -/
structure Run (P : List UInt32) (E : List Ed) (G : Nat) (vis : List Ed) (X : List Lv) (tb : Bool) : Prop where
  fst : X.map (·.1) = P
  low : ∀ g, Valid E g → ∀ p ∈ P, lvN X p ≤ g p
  top : ∀ x ∈ X, x.2 < P.length
  le : mu P.length X ≤ G
  lt : tb = true → mu P.length X < G
  vis : tb = false → ∀ e ∈ vis, lvN X e.2.1 + dl e.2.2 ≤ lvN X e.1
theorem mu_set {m : Nat} {X : List Lv} {j : Nat} {x : Lv} {v : Nat} (hx : X[j]? = some x) (h1 : x.2 < v) (h2 : v < m) : mu m (X.set j (x.1, v)) < mu m X := by
  unfold mu
  induction X generalizing j with
  | nil => simp at hx
  | cons y X ih =>
    cases j with
    | zero =>
      simp only [List.getElem?_cons_zero, Option.some.injEq] at hx
      subst hx
      simp only [List.set_cons_zero, List.map_cons, List.sum_cons]
      omega
    | succ j =>
      rw [List.getElem?_cons_succ] at hx
      have := ih hx
      simp only [List.set_cons_succ, List.map_cons, List.sum_cons]
      omega
section
variable {P : List UInt32} {E vis : List Ed} {G : Nat} {X : List Lv} {tb : Bool}
theorem Run.len (h : Run P E G vis X tb) : X.length = P.length := by rw [← h.fst, List.length_map]
theorem Run.lvlt (h : Run P E G vis X tb) {p : UInt32} (hp : p ∈ P) : lvN X p < P.length := h.top _ (lvN_mem (by rw [h.fst]; exact hp))
/-- One of them is raised. -/
theorem Run.raise (h : Run P E G vis X tb) (hs : P.Pairwise (· < ·)) {j wv : Nat} {x : Lv} (hx : X[j]? = some x) (h1 : x.2 < wv) (h2 : wv < P.length) (hw : ∀ g, Valid E g → wv ≤ g x.1) : Run P E G vis (X.set j (x.1, wv)) true := by
  have hnd : (X.map (·.1)).Nodup := by rw [h.fst]; exact sorted_nodup hs
  have hmu := mu_set hx h1 h2
  have hle := h.le
  refine ⟨by rw [set_fst hx]; exact h.fst, fun g hg p hp => ?_, fun y hy => ?_, by omega, fun _ => by omega, fun e => by cases e⟩
  · rw [lvN_set hnd hx]
    split
    · rename_i e; rw [e]; exact hw g hg
    · exact h.low g hg p hp
  · rcases List.mem_or_eq_of_mem_set hy with hy | rfl
    · exact h.top y hy
    · exact h2
/-- Too high: there are none. -/
theorem Run.none_ (h : Run P E G vis X tb) (hP : ∀ e ∈ E, e.2.1 ∈ P) {wv : Nat} {p : UInt32} (hp : p ∈ P) (h2 : P.length ≤ wv) (hw : ∀ g, Valid E g → wv ≤ g p) : ¬ ∃ f, Valid E f := fun hex => by
  obtain ⟨f, hf⟩ := least_ex hex
  have h3 := hf.lt hP hp
  have h4 := hw f hf.valid
  omega
/-- None raised in a whole round: they are the least. -/
theorem Run.least (h : Run P E G E X false) : Least E (lvN X) :=
  ⟨h.vis rfl, fun g hg p => by
    by_cases hp : p ∈ P
    · exact h.low g hg p hp
    · unfold lvN
      rw [lvO_none (by rw [h.fst]; exact hp)]
      exact Nat.zero_le _⟩
theorem Run.start (h : Run P E G vis X tb) : Run P E (mu P.length X) [] X false := ⟨h.fst, h.low, h.top, Nat.le_refl _, (fun e => by cases e), (fun _ e he => by cases he)⟩
theorem Run.see (h : Run P E G vis X tb) {e : Ed} (he : tb = false → lvN X e.2.1 + dl e.2.2 ≤ lvN X e.1) : Run P E G (vis ++ [e]) X tb :=
  ⟨h.fst, h.low, h.top, h.le, h.lt, fun ht e' he' => by
    rcases List.mem_append.1 he' with h1 | h1
    · exact h.vis ht e' h1
    · rw [List.mem_singleton] at h1
      subst h1
      exact he ht⟩
theorem Run.wants (h : Run P E G vis X tb) {e : Ed} (he : e ∈ E) (hb : e.2.1 ∈ P) : ∀ g, Valid E g → lvN X e.2.1 + dl e.2.2 ≤ g e.1 := fun g hg => by
  have h1 := h.low g hg _ hb
  have h2 := hg e he
  omega
end
theorem Run.zero {P : List UInt32} {E : List Ed} {X : List Lv} (hf : X.map (·.1) = P) (hs : P.Pairwise (· < ·)) (hz : ∀ x ∈ X, x.2 = 0) : Run P E (mu P.length X) [] X false := by
  have hl : X.length = P.length := by rw [← hf, List.length_map]
  refine ⟨hf, fun g _ p hp => ?_, fun x hx => ?_, Nat.le_refl _, (fun e => by cases e), (fun _ e he => by cases he)⟩
  · have := hz _ (lvN_mem (by rw [hf]; exact hp))
    dsimp only at this
    omega
  · have := List.length_pos_of_mem hx
    rw [hz x hx]
    omega
theorem edL_step {C : List Cl} {i : Nat} {x : Cl} (h : C[i]? = some x) : edL (C.take (i + 1)) = edL (C.take i) ++ edgC x := by
  unfold edL
  rw [List.take_add_one, h, List.flatMap_append]
  simp
theorem edC_at {x : Cl} {k : Nat} {y : Li} (h : x.2[k]? = some y) : (edgC x).take (k + 1) = (edgC x).take k ++ [(x.1.1, y.2.1, y.1)] := by
  unfold edgC
  rw [List.take_add_one, List.getElem?_map, h]
  rfl
theorem edL_mem {C : List Cl} {i k : Nat} {x : Cl} {y : Li} (h : C[i]? = some x) (hy : x.2[k]? = some y) : (x.1.1, y.2.1, y.1) ∈ edL C :=
  List.mem_flatMap.2 ⟨x, List.mem_of_getElem? h, List.mem_map.2 ⟨y, List.mem_of_getElem? hy, rfl⟩⟩
end Go.Proofs.YtfmghkplafploaaGreat

set_option linter.unusedVariables false
set_option linter.unusedSimpArgs false
namespace Go.Proofs.YtfmghkplafploaaGreat
open Go Go.RowKit

set_option maxRecDepth 100000 in
set_option maxHeartbeats 8000000 in
theorem rLevels_any (A : Option Addr) (n c : Nat) (Q : List ClA) (C : List Cl) (w : World) (h : RdCs w w.heap.size A n Q C) (hnc : n ≤ c) (hS : Slim C) (hn : n ≤ 100000) :
    Calls Tryz.prog 9 #[.slice A n c] w fun e w' => ∃ (er : Nat) (Al : Option Addr) (cl : Nat) (L : List Lv), e = .returned (.tuple #[.slice Al L.length cl, .int .i64 (er : Int)]) ∧ LevTold C er L ∧ OwV w' w.heap.size Al cl L.length L ∧ L.length ≤ n * 1000001 ∧ Below w.heap.size w w' := by
  have hright := rRight_any A n c Q C w h hnc hS
  obtain ⟨r1, hr1⟩ : ∃ r1 : Int, r1 = ((rightM C).1 : Int) := ⟨_, rfl⟩
  obtain ⟨r2, hr2⟩ : ∃ r2 : Nat, r2 = (rightM C).2 := ⟨_, rfl⟩
  rw [← hr1, ← hr2] at hright
  have HC := Lib.hid h
  have HS := Lib.hid hS
  have HR2 := Lib.hid hr2
  clear h hS hr1 hr2
  by_cases h0 : r2 = 0
  · have HZ := Lib.hid (show (rightM C).2 = 0 by have := HR2.out; omega)
    have hne : ((r2 : Int) != 0) = false := by simp; omega
    have H0 := Lib.hid h0
    clear h0
    go_enter Tryz.func9, Tryz.ntmps9
    repeat (first | go_skip | go_guarded | go_step)
    refine hright.mono ?_
    rintro e w1 ⟨rfl, hb1⟩
    have HB1 := Lib.hid hb1
    have hpreds := rPreds_any A n c Q C w1 ((HC.out.below hb1).more hb1.size) hn (fun x hx => (HS.out x hx).2.1)
    clear hright hb1
    dsimp only
    repeat (first | go_skip | go_guarded | go_step)
    refine hpreds.mono ?_
    rintro e w2 ⟨Al, cl, X, rfl, ho, hpd, hxl, hb2⟩
    obtain ⟨m, hm⟩ : ∃ m, m = X.length := ⟨_, rfl⟩
    rw [← hm] at ho hxl ⊢
    obtain ⟨P, hP⟩ : ∃ P, P = X.map (·.1) := ⟨_, rfl⟩
    have hPm : P.length = m := by rw [hP, hm, List.length_map]
    have hbd : n * 1000001 ≤ 100000 * 1000001 := Nat.mul_le_mul_right _ (by omega)
    have hmb : m ≤ 1000000000000 := by omega
    have HXL := Lib.hid hxl
    have HB2 := Lib.hid (HB1.out.trans (hb2.mono HB1.out.size))
    have HO := Lib.hid (ho.mono HB1.out.size)
    have HPS := Lib.hid (show P.Pairwise (· < ·) by rw [hP]; exact hpd.sorted)
    have HPP := Lib.hid (show ∀ p, p ∈ P ↔ p ∈ prL C by rw [hP]; exact hpd.mem)
    have HRUN := Lib.hid (show Run P (edL C) (mu P.length X) [] X false from Run.zero hP.symm HPS.out hpd.zero)
    have HPL := Lib.hid hPm
    clear hpreds ho hpd hxl hb2 hm hP hPm hbd
    dsimp only
    repeat (first | go_skip | go_guarded | go_step)
    go_loopg [7] (mu P.length X) (fun g tv wr => ∃ (X : List Lv) (vis : List Ed) (G0 : Nat) (tb : Bool), Run P (edL C) G0 vis X tb ∧ mu P.length X ≤ g ∧ OwV wr w.heap.size Al cl m X ∧ Below w.heap.size w wr)
    case atStart => exact ⟨X, [], _, false, HRUN.out, Nat.le_refl _, HO.out, HB2.out⟩
    case round =>
      obtain ⟨G, rfl⟩ : ∃ G, G = gk := ⟨_, rfl⟩
      clear HRUN HO
      rename World => wr
      obtain ⟨X, vis0, G0, tb0, hrun, hmu, ho, hbr⟩ := hrel
      have HRUN := Lib.hid hrun.start
      have HMU := Lib.hid hmu
      have HO := Lib.hid ho
      have HBR := Lib.hid hbr
      obtain ⟨G1, hG1⟩ : ∃ G1, G1 = mu P.length X := ⟨_, rfl⟩
      rw [← hG1] at HRUN HMU
      clear hrun hmu ho hbr hG1
      repeat (first | go_skip | go_guarded | go_step)
      go_loopw [7, 8] (fun tv q w3 => ∃ (i : Nat) (X : List Lv) (tb : Bool), i ≤ n ∧ tv = .bool tb ∧ q = .int .i64 (i : Int) ∧ Run P (edL C) G1 (edL (C.take i)) X tb ∧ OwV w3 w.heap.size Al cl m X ∧ Below w.heap.size w w3) (fun _ q _ => n - (intOf q).toNat)
      case atStart => exact ⟨0, X, false, by omega, rfl, rfl, HRUN.out, HO.out, HBR.out⟩
      case round =>
        clear HRUN HO HBR
        rename World => w3
        obtain ⟨i, X, tb, hi, rfl, rfl, hrun, ho, hb3⟩ := hrel
        have HRUN := Lib.hid hrun
        have HO := Lib.hid ho
        have HB3 := Lib.hid hb3
        clear hrun ho hb3
        by_cases hlt : i < n
        · have hci : (i : Int) < (n : Int) := by omega
          obtain ⟨b, o, p, l, L, A0, n0, c0, A1, n1, c1, R, hA, hb, hx, hq, hd0, hd1, hd2, hrt, hrl⟩ := HC.out.at_ hlt
          have HD := Lib.hid (show ∀ V, Below w.heap.size w V → V.cell? ⟨b, o + i * 3, none⟩ = some (nv p) ∧ V.cell? ⟨b, o + i * 3 + 2, none⟩ = some (.slice A1 n1 c1) from fun V hV => ⟨(hV.cell (p := ⟨b, o + i * 3, none⟩) hb).trans hd0, (hV.cell (p := ⟨b, o + i * 3 + 2, none⟩) hb).trans hd2⟩)
          have hn1 : n1 ≤ 1000000 := by have := (HS.out _ (List.mem_of_getElem? hx)).2.1; have := hrl.lenL; dsimp only at *; omega
          have HX := Lib.hid hx
          have HRL := Lib.hid hrl
          have HES := Lib.hid (edL_step hx)
          have HPI := Lib.hid (show p ∈ P from (HPP.out p).2 (List.mem_flatMap.2 ⟨_, List.mem_of_getElem? hx, by unfold prC; simp⟩))
          subst hA
          clear hx hq hrt hrl hd0 hd1 hd2
          repeat (first | go_skip | go_guarded | go_step)
          go_loopw [7, 9] (fun tv q w4 => ∃ (k : Nat) (X : List Lv) (tb : Bool), k ≤ n1 ∧ tv = .bool tb ∧ q = .int .i64 (k : Int) ∧ Run P (edL C) G1 (edL (C.take i) ++ (edgC ((p, l), L)).take k) X tb ∧ OwV w4 w.heap.size Al cl m X ∧ Below w.heap.size w w4) (fun _ q _ => n1 - (intOf q).toNat)
          case atStart => exact ⟨0, X, tb, by omega, rfl, rfl, by rw [List.take_zero, List.append_nil]; exact HRUN.out, HO.out, HB3.out⟩
          case round =>
            clear HRUN HO HB3
            rename World => w4
            obtain ⟨k, X, tb, hk, rfl, rfl, hrun, ho, hb4⟩ := hrel
            have HRUN := Lib.hid hrun
            have HO := Lib.hid ho
            have HB4 := Lib.hid hb4
            obtain ⟨e0, e2⟩ := HD.out w4 hb4
            clear hrun ho hb4
            by_cases hltk : k < n1
            · have hki : (k : Int) < (n1 : Int) := by omega
              obtain ⟨b3, o3, g3, p3, l3, Ai, nj, ci, hA1, hb3, hx3, hr3, he0, he1, he2, hrow3⟩ := HRL.out.at2 hltk
              have f0 := (HB4.out.cell (p := ⟨b3, o3 + k * 3, none⟩) hb3).trans he0
              have f1 := (HB4.out.cell (p := ⟨b3, o3 + k * 3 + 1, none⟩) hb3).trans he1
              have HX3 := Lib.hid (edC_at (x := ((p, l), L)) hx3)
              have hE : (p, p3, g3) ∈ edL C := edL_mem HX.out hx3
              have HE := Lib.hid hE
              have hPB : p3 ∈ P := (HPP.out p3).2 (edge_body hE)
              have HPB := Lib.hid hPB
              obtain ⟨lv, hlv⟩ : ∃ lv : Nat, lv = lvN X p3 := ⟨_, rfl⟩
              have hof := rOf_any Al m cl X p3 w4 HO.out.rd hmb
              rw [ofM_in (by rw [HRUN.out.fst]; exact hPB), ← hlv] at hof
              have hlvm : lv < m := by rw [hlv]; have := HRUN.out.lvlt hPB; rwa [HPL.out] at this
              have HLV := Lib.hid hlv
              have hw1 : IntKind.i64.wrap ((lv : Int) + 1) = (lv : Int) + 1 := by rw [IntKind.wrap_i64]; omega
              subst hA1
              clear hx3 hr3 he0 he1 he2 hrow3 hE hPB hlv
              cases g3 with
              | false =>
                obtain ⟨wv, hwv⟩ : ∃ wv : Nat, wv = lv := ⟨_, rfl⟩
                have HW := Lib.hid (show ∀ g, Valid (edL C) g → wv ≤ g p from fun g hg => by
                  have := HRUN.out.wants HE.out HPB.out g hg
                  dsimp only at this
                  rw [hwv, HLV.out]
                  exact this)
                have HWT := Lib.hid (show wv = lvN X p3 + dl false by rw [hwv, HLV.out]; rfl)
                rw [← hwv] at hof hlvm hw1
                have hwvm : wv ≤ m := by omega
                clear hwv
                repeat (first | go_skip | go_guarded | go_step)
                refine hof.mono ?_
                rintro e w5 ⟨rfl, rfl⟩
                clear hof
                dsimp only
                repeat (first | go_skip | go_guarded | go_step)
                go_loopw [7, 11] (fun tv q w6 => ∃ (j : Nat) (X : List Lv) (tb2 : Bool), j ≤ m ∧ tv = .bool tb2 ∧ q = .int .i64 (j : Int) ∧ Run P (edL C) G1 (edL (C.take i) ++ (edgC ((p, l), L)).take k) X tb2 ∧ (tb2 = false → wv = lvN X p3 + dl false) ∧ (tb2 = false → ∀ x ∈ X.take j, x.1 = p → wv ≤ x.2) ∧ OwV w6 w.heap.size Al cl m X ∧ Below w.heap.size w w6) (fun _ q _ => m - (intOf q).toNat)
                case atStart => exact ⟨0, X, tb, by omega, rfl, rfl, HRUN.out, fun _ => HWT.out, (fun _ x hx => by simp at hx), HO.out, HB4.out⟩
                case round =>
                  clear HRUN HO HB4 e0 e2 f0 f1 HLV HWT
                  rename World => w6
                  obtain ⟨j, X, tb2, hj, rfl, rfl, hrun, hwe, hsee, ho, hb6⟩ := hrel
                  have HRUN := Lib.hid hrun
                  have HWE := Lib.hid hwe
                  have HSEE := Lib.hid hsee
                  have HO := Lib.hid ho
                  have HB6 := Lib.hid hb6
                  clear hrun hwe hsee ho hb6
                  by_cases hltj : j < m
                  · have hji : (j : Int) < (m : Int) := by omega
                    obtain ⟨b6, o6, x, hA6, hb6, hx6, hx0, hx1⟩ := rdV_at HO.out.rd hltj
                    obtain ⟨px, vx⟩ := x
                    dsimp only at hx0 hx1
                    have HXJ := Lib.hid hx6
                    have q0 := fun q => ((belowDrewQ (Below.refl w6.heap.size w6) q).cell (p := ⟨b6, o6 + j * 2, none⟩) hb6).trans hx0
                    have q1 := fun q => ((belowDrewQ (Below.refl w6.heap.size w6) q).cell (p := ⟨b6, o6 + j * 2 + 1, none⟩) hb6).trans hx1
                    have q2 := fun q => (HD.out (w6.drewN q) (belowDrewQ HB6.out q)).1
                    subst hA6
                    clear hx6 hx0 hx1 hb6
                    by_cases hp : px = p
                    · have hd : ((px.toNat : Int) == (p.toNat : Int)) = true := by subst hp; simp
                      have HP := Lib.hid hp
                      clear hp
                      by_cases hv : vx < wv
                      · have hvi : (vx : Int) < (wv : Int) := by omega
                        go_upto_region 18 with (fail)
                        go_quiet (fail)
                        go_upto_region 19 with (fail)
                        obtain ⟨V, hV⟩ : ∃ V, V = w6.drewN nq := ⟨_, rfl⟩
                        rw [← hV]
                        have HV := Lib.hid (show Below w6.heap.size w6 V by rw [hV]; exact belowDrewQ (Below.refl _ _) nq)
                        obtain ⟨gb, hA5, hgb, hgl, hs0, hs1, hsf1, hset, hT⟩ := (HO.out.later HV.out).set1 hltj HXJ.out wv
                        simp only [Option.some.injEq, Addr.mk.injEq, and_true] at hA5
                        obtain ⟨rfl, rfl⟩ := hA5
                        dsimp only at hset hT hs1
                        have HSET := Lib.hid hset
                        have HBS := Lib.hid ((HB6.out.trans (HV.out.mono HB6.out.size)).trans (hT.below (B := w.heap.size) (fun y _ e => by rw [e]; exact hgb) (Nat.le_trans HB6.out.size HV.out.size)))
                        clear hset hT hgl hgb hV q0 q1 q2
                        go_upto_region 21 with (fail)
                        by_cases hwm : m ≤ wv
                        · have hwi : (m : Int) ≤ (wv : Int) := by omega
                          repeat (first | go_skip | go_guarded | go_step)
                          go_ret2
                          exact ⟨11, none, 0, [], rfl, LevTold.none HZ.out (HRUN.out.none_ (fun e he => (HPP.out _).2 (edge_body he)) (p := p) HPI.out (by rw [HPL.out]; exact hwm) HW.out), World.ownsRow_nil _ _ _ _, Nat.zero_le _, HBS.out⟩
                        · have hwi : ¬ (m : Int) ≤ (wv : Int) := by omega
                          repeat (first | go_skip | go_guarded | go_step)
                          go_roundw
                          case rel => exact ⟨j + 1, X.set j (px, wv), true, by omega, rfl, by go_num, HRUN.out.raise HPS.out HXJ.out hv (by rw [HPL.out]; omega) (by dsimp only; rw [HP.out]; exact HW.out), (fun e => by cases e), (fun e => by cases e), HSET.out, HBS.out⟩
                          case measure => simp [intOf]; omega
                      · have hvi : ¬ (vx : Int) < (wv : Int) := by omega
                        go_upto_region 18 with (fail)
                        go_quiet (fail)
                        repeat (first | go_skip | go_guarded | go_step)
                        have hb9 := belowDrewQ (Below.refl w6.heap.size w6) nq
                        go_roundw
                        case rel => exact ⟨j + 1, X, tb2, by omega, rfl, by go_num, HRUN.out, HWE.out, fun ht y hy => by
                          rw [List.take_add_one, HXJ.out] at hy
                          rcases List.mem_append.1 hy with hy | hy
                          · exact HSEE.out ht y hy
                          · simp only [Option.toList_some, List.mem_singleton] at hy
                            subst hy
                            intro _; dsimp only; omega, HO.out.later hb9, HB6.out.trans (hb9.mono HB6.out.size)⟩
                        case measure => simp [intOf]; omega
                    · have hd := u32ne' hp
                      have HP := Lib.hid hp
                      clear hp
                      go_upto_region 18 with (fail)
                      go_quiet (fail)
                      repeat (first | go_skip | go_guarded | go_step)
                      have hb9 := belowDrewQ (Below.refl w6.heap.size w6) nq
                      go_roundw
                      case rel => exact ⟨j + 1, X, tb2, by omega, rfl, by go_num, HRUN.out, HWE.out, fun ht y hy => by
                        rw [List.take_add_one, HXJ.out] at hy
                        rcases List.mem_append.1 hy with hy | hy
                        · exact HSEE.out ht y hy
                        · simp only [Option.toList_some, List.mem_singleton] at hy
                          subst hy
                          intro e; exact absurd e HP.out, HO.out.later hb9, HB6.out.trans (hb9.mono HB6.out.size)⟩
                      case measure => simp [intOf]; omega
                  · obtain rfl : m = j := by omega
                    have hji : ¬ (m : Int) < (m : Int) := by omega
                    repeat (first | go_skip | go_guarded | go_step)
                    go_roundw
                    case rel => exact ⟨k + 1, X, tb2, by omega, rfl, by go_num, by
                      rw [HX3.out, ← List.append_assoc]
                      refine HRUN.out.see fun ht => ?_
                      have hpm := lvN_mem (X := X) (p := p) (by rw [HRUN.out.fst]; exact HPI.out)
                      have h1 := HSEE.out ht (p, lvN X p) (by
                        rw [List.take_of_length_le (by rw [HRUN.out.len, HPL.out]; exact Nat.le_refl _)]
                        exact hpm) rfl
                      have h2 := HWE.out ht
                      dsimp only at h1 ⊢
                      omega, HO.out, HB6.out⟩
                    case measure => simp [intOf]; omega
              | true =>
                obtain ⟨wv, hwv⟩ : ∃ wv : Nat, wv = lv + 1 := ⟨_, rfl⟩
                have HW := Lib.hid (show ∀ g, Valid (edL C) g → wv ≤ g p from fun g hg => by
                  have := HRUN.out.wants HE.out HPB.out g hg
                  dsimp only at this
                  rw [hwv, HLV.out]
                  exact this)
                have HWT := Lib.hid (show wv = lvN X p3 + dl true by rw [hwv, HLV.out]; rfl)
                have hw2 : IntKind.i64.wrap ((lv : Int) + 1) = (wv : Int) := by rw [hw1, hwv]; rfl
                have hwvm : wv ≤ m := by omega
                clear hwv hw1
                repeat (first | go_skip | go_guarded | go_step)
                refine hof.mono ?_
                rintro e w5 ⟨rfl, rfl⟩
                clear hof
                dsimp only
                go_upto_region 15 with (fail)
                clear hw2
                repeat (first | go_skip | go_guarded | go_step)
                go_loopw [7, 11] (fun tv q w6 => ∃ (j : Nat) (X : List Lv) (tb2 : Bool), j ≤ m ∧ tv = .bool tb2 ∧ q = .int .i64 (j : Int) ∧ Run P (edL C) G1 (edL (C.take i) ++ (edgC ((p, l), L)).take k) X tb2 ∧ (tb2 = false → wv = lvN X p3 + dl true) ∧ (tb2 = false → ∀ x ∈ X.take j, x.1 = p → wv ≤ x.2) ∧ OwV w6 w.heap.size Al cl m X ∧ Below w.heap.size w w6) (fun _ q _ => m - (intOf q).toNat)
                case atStart => exact ⟨0, X, tb, by omega, rfl, rfl, HRUN.out, fun _ => HWT.out, (fun _ x hx => by simp at hx), HO.out, HB4.out⟩
                case round =>
                  clear HRUN HO HB4 e0 e2 f0 f1 HLV HWT
                  rename World => w6
                  obtain ⟨j, X, tb2, hj, rfl, rfl, hrun, hwe, hsee, ho, hb6⟩ := hrel
                  have HRUN := Lib.hid hrun
                  have HWE := Lib.hid hwe
                  have HSEE := Lib.hid hsee
                  have HO := Lib.hid ho
                  have HB6 := Lib.hid hb6
                  clear hrun hwe hsee ho hb6
                  by_cases hltj : j < m
                  · have hji : (j : Int) < (m : Int) := by omega
                    obtain ⟨b6, o6, x, hA6, hb6, hx6, hx0, hx1⟩ := rdV_at HO.out.rd hltj
                    obtain ⟨px, vx⟩ := x
                    dsimp only at hx0 hx1
                    have HXJ := Lib.hid hx6
                    have q0 := fun q => ((belowDrewQ (Below.refl w6.heap.size w6) q).cell (p := ⟨b6, o6 + j * 2, none⟩) hb6).trans hx0
                    have q1 := fun q => ((belowDrewQ (Below.refl w6.heap.size w6) q).cell (p := ⟨b6, o6 + j * 2 + 1, none⟩) hb6).trans hx1
                    have q2 := fun q => (HD.out (w6.drewN q) (belowDrewQ HB6.out q)).1
                    subst hA6
                    clear hx6 hx0 hx1 hb6
                    by_cases hp : px = p
                    · have hd : ((px.toNat : Int) == (p.toNat : Int)) = true := by subst hp; simp
                      have HP := Lib.hid hp
                      clear hp
                      by_cases hv : vx < wv
                      · have hvi : (vx : Int) < (wv : Int) := by omega
                        go_upto_region 18 with (fail)
                        go_quiet (fail)
                        go_upto_region 19 with (fail)
                        obtain ⟨V, hV⟩ : ∃ V, V = w6.drewN nq := ⟨_, rfl⟩
                        rw [← hV]
                        have HV := Lib.hid (show Below w6.heap.size w6 V by rw [hV]; exact belowDrewQ (Below.refl _ _) nq)
                        obtain ⟨gb, hA5, hgb, hgl, hs0, hs1, hsf1, hset, hT⟩ := (HO.out.later HV.out).set1 hltj HXJ.out wv
                        simp only [Option.some.injEq, Addr.mk.injEq, and_true] at hA5
                        obtain ⟨rfl, rfl⟩ := hA5
                        dsimp only at hset hT hs1
                        have HSET := Lib.hid hset
                        have HBS := Lib.hid ((HB6.out.trans (HV.out.mono HB6.out.size)).trans (hT.below (B := w.heap.size) (fun y _ e => by rw [e]; exact hgb) (Nat.le_trans HB6.out.size HV.out.size)))
                        clear hset hT hgl hgb hV q0 q1 q2
                        go_upto_region 21 with (fail)
                        by_cases hwm : m ≤ wv
                        · have hwi : (m : Int) ≤ (wv : Int) := by omega
                          repeat (first | go_skip | go_guarded | go_step)
                          go_ret2
                          exact ⟨11, none, 0, [], rfl, LevTold.none HZ.out (HRUN.out.none_ (fun e he => (HPP.out _).2 (edge_body he)) (p := p) HPI.out (by rw [HPL.out]; exact hwm) HW.out), World.ownsRow_nil _ _ _ _, Nat.zero_le _, HBS.out⟩
                        · have hwi : ¬ (m : Int) ≤ (wv : Int) := by omega
                          repeat (first | go_skip | go_guarded | go_step)
                          go_roundw
                          case rel => exact ⟨j + 1, X.set j (px, wv), true, by omega, rfl, by go_num, HRUN.out.raise HPS.out HXJ.out hv (by rw [HPL.out]; omega) (by dsimp only; rw [HP.out]; exact HW.out), (fun e => by cases e), (fun e => by cases e), HSET.out, HBS.out⟩
                          case measure => simp [intOf]; omega
                      · have hvi : ¬ (vx : Int) < (wv : Int) := by omega
                        go_upto_region 18 with (fail)
                        go_quiet (fail)
                        repeat (first | go_skip | go_guarded | go_step)
                        have hb9 := belowDrewQ (Below.refl w6.heap.size w6) nq
                        go_roundw
                        case rel => exact ⟨j + 1, X, tb2, by omega, rfl, by go_num, HRUN.out, HWE.out, fun ht y hy => by
                          rw [List.take_add_one, HXJ.out] at hy
                          rcases List.mem_append.1 hy with hy | hy
                          · exact HSEE.out ht y hy
                          · simp only [Option.toList_some, List.mem_singleton] at hy
                            subst hy
                            intro _; dsimp only; omega, HO.out.later hb9, HB6.out.trans (hb9.mono HB6.out.size)⟩
                        case measure => simp [intOf]; omega
                    · have hd := u32ne' hp
                      have HP := Lib.hid hp
                      clear hp
                      go_upto_region 18 with (fail)
                      go_quiet (fail)
                      repeat (first | go_skip | go_guarded | go_step)
                      have hb9 := belowDrewQ (Below.refl w6.heap.size w6) nq
                      go_roundw
                      case rel => exact ⟨j + 1, X, tb2, by omega, rfl, by go_num, HRUN.out, HWE.out, fun ht y hy => by
                        rw [List.take_add_one, HXJ.out] at hy
                        rcases List.mem_append.1 hy with hy | hy
                        · exact HSEE.out ht y hy
                        · simp only [Option.toList_some, List.mem_singleton] at hy
                          subst hy
                          intro e; exact absurd e HP.out, HO.out.later hb9, HB6.out.trans (hb9.mono HB6.out.size)⟩
                      case measure => simp [intOf]; omega
                  · obtain rfl : m = j := by omega
                    have hji : ¬ (m : Int) < (m : Int) := by omega
                    repeat (first | go_skip | go_guarded | go_step)
                    go_roundw
                    case rel => exact ⟨k + 1, X, tb2, by omega, rfl, by go_num, by
                      rw [HX3.out, ← List.append_assoc]
                      refine HRUN.out.see fun ht => ?_
                      have hpm := lvN_mem (X := X) (p := p) (by rw [HRUN.out.fst]; exact HPI.out)
                      have h1 := HSEE.out ht (p, lvN X p) (by
                        rw [List.take_of_length_le (by rw [HRUN.out.len, HPL.out]; exact Nat.le_refl _)]
                        exact hpm) rfl
                      have h2 := HWE.out ht
                      dsimp only at h1 ⊢
                      omega, HO.out, HB6.out⟩
                    case measure => simp [intOf]; omega
            · obtain rfl : n1 = k := by omega
              have hki : ¬ (n1 : Int) < (n1 : Int) := by omega
              repeat (first | go_skip | go_guarded | go_step)
              go_roundw
              case rel => exact ⟨i + 1, X, tb, by omega, rfl, by go_num, by
                rw [HES.out]
                have h := HRUN.out
                rwa [List.take_of_length_le (l := edgC ((p, l), L)) (by unfold edgC; rw [List.length_map, HRL.out.lenL]; exact Nat.le_refl _)] at h, HO.out, HB4.out⟩
              case measure => simp [intOf]; omega
        · obtain rfl : n = i := by omega
          have hci : ¬ (n : Int) < (n : Int) := by omega
          have HRF := Lib.hid (show Run P (edL C) G1 (edL C) X tb by
            have h := HRUN.out
            rwa [List.take_of_length_le (by rw [HC.out.lenC]; exact Nat.le_refl _)] at h)
          clear HRUN
          cases tb with
          | true =>
            repeat (first | go_skip | go_guarded | go_step)
            go_roundg (mu P.length X)
            case measure => have h1 := HRF.out.lt rfl; have h2 := HMU.out; omega
            case rel => exact ⟨X, _, _, true, HRF.out, Nat.le_refl _, HO.out, HB3.out⟩
          | false =>
            repeat (first | go_skip | go_guarded | go_step)
            go_ret2
            have hl := HO.out.len
            exact ⟨0, Al, cl, X, by rw [hl]; rfl, LevTold.some HZ.out HRF.out.least (by rw [HRF.out.fst]; exact HPS.out) (by rw [HRF.out.fst]; exact HPP.out) (fun x hx => (lvN_of (by rw [HRF.out.fst]; exact sorted_nodup HPS.out) hx).symm), by rw [hl]; exact HO.out, by rw [hl]; exact HXL.out, HB3.out⟩
  · have hne : ((r2 : Int) != 0) = true := by simp; omega
    have HN0 := Lib.hid (show (rightM C).2 ≠ 0 by have := HR2.out; omega)
    clear h0
    go_enter Tryz.func9, Tryz.ntmps9
    repeat (first | go_skip | go_guarded | go_step)
    refine hright.mono ?_
    rintro e w1 ⟨rfl, hb1⟩
    have HB1 := Lib.hid hb1
    clear hright hb1
    dsimp only
    repeat (first | go_skip | go_guarded | go_step)
    go_ret2
    exact ⟨r2, none, 0, [], rfl, by rw [HR2.out]; exact LevTold.wrong HN0.out, World.ownsRow_nil _ _ _ _, Nat.zero_le _, HB1.out⟩
end Go.Proofs.YtfmghkplafploaaGreat

