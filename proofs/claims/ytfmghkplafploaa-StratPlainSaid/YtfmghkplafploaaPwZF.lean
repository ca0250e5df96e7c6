/- Texts, packed: SrH -/
import Derived.Test.YtfmghkplafploaaPwZB
import Derived.Test.YtfmghkplafploaaPwZE
set_option linter.unusedVariables false
set_option linter.unusedSimpArgs false
namespace Go.Proofs.Ytfmghkplafploaa
open Go Go.RowKit

theorem edL_next {C : List Cl} {i : Nat} {x : Cl} (h : C[i]? = some x) : edL (C.take (i + 1)) = edL (C.take i) ++ edgC x := by
  unfold edL
  rw [List.take_add_one, h, List.flatMap_append]
  simp
theorem edL_few {C : List Cl} (h : FewC C) : ∀ i, (edL (C.take i)).length ≤ i * 8 := by
  intro i
  induction i with
  | zero => simp [edL]
  | succ i ih =>
    rcases Nat.lt_or_ge i C.length with hi | hi
    · have hx : C[i]? = some C[i] := List.getElem?_eq_getElem hi
      have := h.2 _ (List.getElem_mem hi)
      rw [edL_next hx, List.length_append]
      have hp : (edgC C[i]).length ≤ 8 := by unfold edgC; rw [List.length_map]; omega
      omega
    · rw [List.take_of_length_le (by omega)]
      rw [List.take_of_length_le hi] at ih
      omega
theorem SG.cell_ {te tt : TypeId} {kk : Nat} {w : World} {base g c n v : Nat} {R : Nat → SlA} {D : Nat → List Value} (h : SG te tt kk w base (some ⟨g, 0, none⟩) c n R D) (hv : v < n) : w.cell? ⟨g, v, none⟩ = some (.slice (R v).1 (R v).2.1 (R v).2.2) := by
  obtain ⟨b, o, e, _, hc, _⟩ := h.rd.at_ hv
  cases e
  rwa [Nat.zero_add] at hc
abbrev SH (w : World) (base g n : Nat) (R : Nat → SlA) (D : Nat → List Hn) : Prop := SG 71 69 2 w base (some ⟨g, 0, none⟩) n n R (fun j => (D j).flatMap hgC)
theorem SH.rowLen {w : World} {base g n v : Nat} {R : Nat → SlA} {D : Nat → List Hn} (h : SH w base g n R D) (hv : v < n) : (R v).2.1 = (D v).length := by
  have := (h.own v hv).1
  rw [hgC_len] at this
  omega
theorem SH.snoc {w : World} {base g n v : Nat} {R : Nat → SlA} {ps : List UInt32} {E : List Ed} {e : Ed} (hv : v = ixU ps e.1) {D : Nat → List Value}
    (hD : D = fun j => if j = v then (hgM ps E v).flatMap hgC ++ [(ixU ps e.2.1, e.2.2)].flatMap hgC else (hgM ps E j).flatMap hgC)
    (h : SG 71 69 2 w base (some ⟨g, 0, none⟩) n n R D) : SH w base g n R (hgM ps (E ++ [e])) := by
  have : D = fun j => (hgM ps (E ++ [e]) j).flatMap hgC := by
    rw [hD]
    funext j
    rw [hgM_snoc]
    by_cases q : j = v
    · rw [if_pos q, if_pos (q.trans hv), List.flatMap_append, q]
    · rw [if_neg q, if_neg (fun k => q (k.trans hv.symm))]
  rw [this] at h
  exact h
set_option maxRecDepth 100000 in
set_option maxHeartbeats 8000000 in
theorem hanging_any (A : Option Addr) (n c : Nat) (ps : List UInt32) (Ac : Option Addr) (nc cc : Nat) (Q : List ClA) (C : List Cl) (w : World) (hr : RdU w w.heap.size A n ps) (hs : ps.Pairwise (· < ·)) (hn : n ≤ 3600) (hm : ∀ p, p ∈ prL C → p ∈ ps) (h : RdCs w w.heap.size Ac nc Q C) (hf : FewC C) :
    Calls Try.prog 14 #[.slice A n c, .slice Ac nc cc] w fun e w' => ∃ (A' : Option Addr) (c' : Nat) (R : Nat → SlA), e = .returned (.slice A' n c') ∧ RdHs w' w'.heap.size A' n R (hgM ps (edL C)) ∧ Below w.heap.size w w' := by
  have HC := Lib.hid h
  have HF := Lib.hid hf
  have HR := Lib.hid hr
  have HSO := Lib.hid hs
  have hpl : ps.length = n := rdU_len hr
  have HPM := Lib.hid (show ∀ p, p ∈ prL C → p ∈ ps ∧ ixU ps p < n from fun p hp => ⟨hm p hp, by rw [← hpl]; exact ixU_lt (hm p hp)⟩)
  have hncb : nc ≤ 400 := by rw [← h.lenC]; exact hf.1
  obtain ⟨i0, hi0, hz0, hz1, hz2⟩ := info_parts hgsInfo
  have hb4 : i0.bytes * n ≤ 281474976710656 := by rw [hz2]; omega
  have hmx : n ≤ maxLen := by simp only [maxLen]; omega
  clear h hf hr hs hm hpl
  go_enter Try.func14, Try.ntmps14
  repeat (first
    | (at_make; refine wpList_make_bk _ rfl (.tmp 16) (.tmp 16) 55 rfl 69 i0 _ Try.underlying55 hi0 hz0 hz1 rfl .i64 .i64 (n : Int) (n : Int) n n rfl rfl rfl rfl (Nat.le_refl _) hb4 hmx ?_
       intro W1 hbk1 hbw1 hs1
       obtain ⟨g, hg⟩ : ∃ g, g = w.heap.size := ⟨_, rfl⟩
       rw [← hg] at hbk1 hs1 ⊢
       have HSH := Lib.hid (show SH W1 w.heap.size g n (fun _ => (none, 0, 0)) (hgM ps []) from SG.made (Nat.le_of_eq hg.symm) hmx hbk1 (fun j _ => rfl))
       have HB1 := Lib.hid hbw1
       clear hbk1 hbw1 hs1 hg)
    | go_skip | go_guarded | go_step)
  go_loopw [20] (fun q wr => ∃ (i : Nat) (R : Nat → SlA), i ≤ nc ∧ q = .int .i64 (i : Int) ∧ SH wr w.heap.size g n R (hgM ps (edL (C.take i))) ∧ Below w.heap.size w wr) (fun q _ => nc - (intOf q).toNat)
  case atStart => exact ⟨0, _, by omega, rfl, HSH.out, HB1.out⟩
  case round =>
    rename World => wr
    obtain ⟨i, R, hi, rfl, hsh, hbr⟩ := hrel
    have HSR := Lib.hid hsh
    have HBR := Lib.hid hbr
    clear hsh hbr
    by_cases hlt : i < nc
    · have hci : (i : Int) < (nc : Int) := by omega
      obtain ⟨b, o, p, l, L, A0, n0, c0, A1, n1, c1, Rr, hA, hb, hx, hq, hd0, hd1, hd2, hrt, hrl⟩ := (HC.out.below HBR.out).at_ hlt
      have hn1 : n1 ≤ 8 := by have := HF.out.2 _ (List.mem_of_getElem? hx); have := hrl.lenL; dsimp only at *; omega
      obtain ⟨hpin, hpn⟩ := HPM.out p (List.mem_flatMap.2 ⟨_, List.mem_of_getElem? hx, by unfold prC; simp⟩)
      have HBI := Lib.hid (show ∀ y ∈ L, y.2.1 ∈ prL C from fun y hy => List.mem_flatMap.2 ⟨_, List.mem_of_getElem? hx, by unfold prC; exact List.mem_cons_of_mem _ (List.mem_map.2 ⟨y, hy, rfl⟩)⟩)
      have HES := Lib.hid (edL_next hx)
      have HEB := Lib.hid (edL_few HF.out i)
      have HRL := Lib.hid (HC.out.row i _ _ hq hx).2
      have HLL := Lib.hid hrl.lenL
      obtain ⟨U, hU, hbU, hbu⟩ := box3 wr p (.slice A0 n0 c0) (.slice A1 n1 c1) 31
      have HU := Lib.hid hU
      have HSU := Lib.hid (HSR.out.later hbu)
      have HBU := Lib.hid (HBR.out.trans (hbu.mono HBR.out.size))
      have k0 := hbU.read (Below.refl _ _) 0 rfl
      have k2 := hbU.read (Below.refl _ _) 2 rfl
      have hbs := bs_any A n c ps p U ((HR.out.below HBU.out).more HBU.out.size) HSO.out hpin (by omega)
      obtain ⟨hdx, hhd⟩ : ∃ hdx, hdx = ixU ps p := ⟨_, rfl⟩
      rw [← hhd] at hbs hpn
      have HHD := Lib.hid hhd
      subst hA
      clear hx hq hrt hrl hb hU hbU hbu hpin hhd
      go_upto_region 5 with (fail)
      rw [← HU.out]
      clear hd0 hd1 hd2
      repeat (first | go_skip | go_guarded | go_step)
      refine hbs.mono ?_
      rintro e w2 ⟨rfl, hw⟩
      rw [hw]
      clear hw hbs
      dsimp only
      repeat (first | go_skip | go_guarded | go_step)
      clear k0 k2
      go_loopw [35] (fun q wz => ∃ (k : Nat) (R : Nat → SlA), k ≤ n1 ∧ q = .int .i64 (k : Int) ∧ SH wz w.heap.size g n R (hgM ps (edL (C.take i) ++ (edgC ((p, l), L)).take k)) ∧ Below w.heap.size w wz) (fun q _ => n1 - (intOf q).toNat)
      case atStart => exact ⟨0, R, by omega, rfl, by rw [List.take_zero, List.append_nil]; exact HSU.out, HBU.out⟩
      case round =>
        rename World => wz
        obtain ⟨k, Rz, hk, rfl, hshz, hbz⟩ := hrel
        have HSZ := Lib.hid hshz
        have HBZ := Lib.hid hbz
        clear hshz hbz
        by_cases hlk : k < n1
        · have hck : (k : Int) < (n1 : Int) := by omega
          obtain ⟨b3, o3, g3, p3, l3, Ai, ni', ci, hA1, hb3, hx3, e0, e1, e2, hrow⟩ := (HRL.out.below HBZ.out).at_ hlk
          obtain ⟨hpin3, hpn3⟩ := HPM.out p3 (HBI.out _ (List.mem_of_getElem? hx3))
          have HTK := Lib.hid (show (edgC ((p, l), L)).take (k + 1) = (edgC ((p, l), L)).take k ++ [(p, p3, g3)] by
            unfold edgC
            rw [List.take_add_one, List.getElem?_map, hx3]
            rfl)
          have hlen : (hgM ps (edL (C.take i) ++ (edgC ((p, l), L)).take k) hdx).length ≤ 100000 := by
            refine Nat.le_trans (hgM_len _ _ _) ?_
            rw [List.length_append, List.length_take]
            have := HEB.out
            omega
          obtain ⟨U2, hU2, hbU2, hbu2⟩ := boxLit wz g3 p3 (.slice Ai ni' ci) 33
          have HU2 := Lib.hid hU2
          have HSU2 := Lib.hid (HSZ.out.later hbu2)
          have HBU2 := Lib.hid (HBZ.out.trans (hbu2.mono HBZ.out.size))
          have j0 := hbU2.read (Below.refl _ _) 0 rfl
          have j1 := hbU2.read (Below.refl _ _) 1 rfl
          have hbs3 := bs_any A n c ps p3 U2 ((HR.out.below HBU2.out).more HBU2.out.size) HSO.out hpin3 (by omega)
          obtain ⟨od, hod⟩ : ∃ od, od = ixU ps p3 := ⟨_, rfl⟩
          rw [← hod] at hbs3 hpn3
          have HOD := Lib.hid hod
          have hcell := HSU2.out.cell_ hpn
          have hrl2 := SH.rowLen HSU2.out hpn
          have hown := HSU2.out.own hdx hpn
          obtain ⟨⟨Av, nv', cv⟩, hsv⟩ : ∃ s, s = Rz hdx := ⟨_, rfl⟩
          rw [← hsv] at hcell hown hrl2
          dsimp only at hcell hown hrl2
          have hnvb : nv' ≤ 100000 := by omega
          have HSV := Lib.hid hsv
          have HOWN := Lib.hid hown
          have hdn : (hdx : Int) < (n : Int) := by omega
          have hd0' : (0 : Int) ≤ (hdx : Int) := by omega
          subst hA1
          clear hx3 hb3 hrow hU2 hbU2 hbu2 hpin3 hod hsv hown hrl2 hlen
          go_upto_region 9 with (fail)
          rw [← HU2.out]
          clear e0 e1 e2
          repeat (first | go_skip | go_guarded | go_step)
          refine hbs3.mono ?_
          rintro e w2 ⟨rfl, hw⟩
          rw [hw]
          clear hw hbs3
          dsimp only
          cases g3 with
          | false =>
            have hZ : Below U2.heap.size U2 (U2.alloc (.cells #[.int .i64 (od : Int), .int .i64 0] 71)) := (Below.refl _ _).alloc (Nat.le_refl _) _
            have HOZ := Lib.hid (ownBelow HOWN.out hZ (Nat.le_refl _))
            have HZB := Lib.hid hZ
            have HLIT := Lib.hid (show Rd (U2.alloc (.cells #[.int .i64 (od : Int), .int .i64 0] 71)) (U2.heap.size + 1) 2 (some ⟨U2.heap.size, 0, none⟩) 1 ([((od, false) : Hn)].flatMap hgC) from litHg U2 od false)
            have hbase : w.heap.size ≤ (U2.alloc (.cells #[.int .i64 (od : Int), .int .i64 0] 71)).heap.size := Nat.le_trans HBU2.out.size hZ.size
            clear hZ
            repeat (first
              | (at_builtin
                 refine appHg _ rfl (.tmp 54) (.tmp 58) rfl w.heap.size (Av, nv', cv) _ rfl HOZ.out _ _ 1 1 [(od, false)] rfl HLIT.out (by show nv' + 1 ≤ _; omega) hbase ?_
                 intro A6 c6 w6 ho6 ht6 hg6
                 dsimp only at ht6 hg6 ho6
                 obtain ⟨g', eg, hbg, hc6, hf6, hsg⟩ := HSU2.out.put hpn HZB.out (A' := A6) (m' := nv' + 1) (c' := c6) (news := [((od, false) : Hn)].flatMap hgC) ho6 (by rw [← HSV.out]; exact ht6) (by rw [← HSV.out]; exact hg6)
                 cases eg
                 rw [← HSV.out] at hc6
                 dsimp only at hc6
                 have HSG := Lib.hid hsg
                 have HB6 := Lib.hid (show Below w.heap.size w (w6.setCell ⟨g, hdx, none⟩ (.slice A6 (nv' + 1) c6)) from ((HBU2.out.trans (HZB.out.mono HBU2.out.size)).trans (ht6.below (B := w.heap.size) (fun y _ e => (World.ownsRow.lt HOWN.out y (by rw [ownBlk_slice]; exact e)).1) hbase)).setCell (p := ⟨g, hdx, none⟩) hbg _)
                 clear ho6 ht6 hg6 hsg hbg hcell)
              | go_skip | go_guarded | go_step)
            go_roundw
            case rel => exact ⟨k + 1, _, by omega, by go_num, by
              rw [HTK.out, ← List.append_assoc]
              exact SH.snoc (e := (p, p3, false)) HHD.out (by rw [HOD.out]) HSG.out, HB6.out⟩
            case measure => simp [intOf]; omega
          | true =>
            have hZ : Below U2.heap.size U2 (U2.alloc (.cells #[.int .i64 (od : Int), .int .i64 1] 71)) := (Below.refl _ _).alloc (Nat.le_refl _) _
            have HOZ := Lib.hid (ownBelow HOWN.out hZ (Nat.le_refl _))
            have HZB := Lib.hid hZ
            have HLIT := Lib.hid (show Rd (U2.alloc (.cells #[.int .i64 (od : Int), .int .i64 1] 71)) (U2.heap.size + 1) 2 (some ⟨U2.heap.size, 0, none⟩) 1 ([((od, true) : Hn)].flatMap hgC) from litHg U2 od true)
            have hbase : w.heap.size ≤ (U2.alloc (.cells #[.int .i64 (od : Int), .int .i64 1] 71)).heap.size := Nat.le_trans HBU2.out.size hZ.size
            clear hZ
            repeat (first
              | (at_builtin
                 refine appHg _ rfl (.tmp 54) (.tmp 58) rfl w.heap.size (Av, nv', cv) _ rfl HOZ.out _ _ 1 1 [(od, true)] rfl HLIT.out (by show nv' + 1 ≤ _; omega) hbase ?_
                 intro A6 c6 w6 ho6 ht6 hg6
                 dsimp only at ht6 hg6 ho6
                 obtain ⟨g', eg, hbg, hc6, hf6, hsg⟩ := HSU2.out.put hpn HZB.out (A' := A6) (m' := nv' + 1) (c' := c6) (news := [((od, true) : Hn)].flatMap hgC) ho6 (by rw [← HSV.out]; exact ht6) (by rw [← HSV.out]; exact hg6)
                 cases eg
                 rw [← HSV.out] at hc6
                 dsimp only at hc6
                 have HSG := Lib.hid hsg
                 have HB6 := Lib.hid (show Below w.heap.size w (w6.setCell ⟨g, hdx, none⟩ (.slice A6 (nv' + 1) c6)) from ((HBU2.out.trans (HZB.out.mono HBU2.out.size)).trans (ht6.below (B := w.heap.size) (fun y _ e => (World.ownsRow.lt HOWN.out y (by rw [ownBlk_slice]; exact e)).1) hbase)).setCell (p := ⟨g, hdx, none⟩) hbg _)
                 clear ho6 ht6 hg6 hsg hbg hcell)
              | go_skip | go_guarded | go_step)
            go_roundw
            case rel => exact ⟨k + 1, _, by omega, by go_num, by
              rw [HTK.out, ← List.append_assoc]
              exact SH.snoc (e := (p, p3, true)) HHD.out (by rw [HOD.out]) HSG.out, HB6.out⟩
            case measure => simp [intOf]; omega
        · obtain rfl : n1 = k := by omega
          have hck : ¬ (n1 : Int) < (n1 : Int) := by omega
          repeat (first | go_skip | go_guarded | go_step)
          go_roundw
          case rel => exact ⟨i + 1, Rz, by omega, by go_num, by
            rw [HES.out]
            have h := HSZ.out
            rwa [List.take_of_length_le (l := edgC ((p, l), L)) (by unfold edgC; rw [List.length_map, HLL.out]; exact Nat.le_refl _)] at h, HBZ.out⟩
          case measure => simp [intOf]; omega
    · obtain rfl : nc = i := by omega
      have hci : ¬ (nc : Int) < (nc : Int) := by omega
      repeat (first | go_skip | go_guarded | go_step)
      go_ret
      exact ⟨_, n, R, rfl, by
        have h := HSR.out.rd
        rwa [List.take_of_length_le (by rw [HC.out.lenC]; exact Nat.le_refl _)] at h, HBR.out⟩
end Go.Proofs.Ytfmghkplafploaa

