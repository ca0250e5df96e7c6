/- Layer 2 (sha), the reference: the sum. -/
import Derived.Test.YtgkfebbifgkkeaaDoorShaU
import Derived.Test.YtgkfebbifgkkeaaDoorShaO
set_option linter.unusedVariables false
set_option linter.unusedSimpArgs false
namespace Go.Proofs.YtgkfebbifgkkeaaDoor
open Go Go.RowKit

theorem any_load_row {P : Program} {op : Oper} {a : Act} {w : World} {K : Act → World → Prop} {Q : Exit → Act → World → Prop} {E : Prop} {ops : Array Oper} (hwant : Region.wanted op (yielded ops a.tmps) = true) (ty : TypeId) (x : Operand) (ho : op.op = .load ty x)
    (g : Nat) (hx : a.eval x = .pointer (some ⟨g, 0, none⟩)) (t : TypeId) (cs : Array Value) (fr : Nat × Nat) (d : TypeDesc) (hg : w.heap[g]? = some (.cells cs t fr))
    (hu : P.underlying ty = some d) (hd : (match d with | .struct _ | .array _ _ => true | _ => false) = true) (hi : (P.info? ty).map (·.size) = some cs.size)
    (h : K (a.put op.dst (.agg cs)) w) : if Region.wanted op (yielded ops a.tmps) = true then Oper.wp P op a w K Q else E := by
  rw [if_pos hwant]
  exact wp_load_row ty x ho g hx t cs fr d hg hu hd hi h
theorem any_store_row {P : Program} {op : Oper} {a : Act} {w : World} {K : Act → World → Prop} {Q : Exit → Act → World → Prop} {E : Prop} {ops : Array Oper} (hwant : Region.wanted op (yielded ops a.tmps) = true) (ty : TypeId) (x y : Operand) (ho : op.op = .store ty x y)
    (g : Nat) (cells : Array Value) (hx : a.eval x = .pointer (some ⟨g, 0, none⟩)) (hy : a.eval y = .agg cells)
    (t : TypeId) (old : Array Value) (hg : w.heap[g]? = some (.cells old t (0, 0))) (hi : (P.info? ty).map (·.size) = some cells.size)
    (hold : old.size = cells.size) (h1 : cells.all (·.oneCell') = true)
    (h : K (a.put op.dst undef) (w.setRow g cells)) : if Region.wanted op (yielded ops a.tmps) = true then Oper.wp P op a w K Q else E := by
  rw [if_pos hwant]
  exact wp_store_row ty x y ho g cells hx hy t old hg hi hold h1 h

set_option maxRecDepth 100000 in
set_option maxHeartbeats 1000000 in
theorem rSum_any (A : Option Addr) (n c : Nat) (bs : List UInt8) (w : World) (hr : Rd w w.heap.size 1 A n (bs.map bv)) (hn : n ≤ 1099511627776) :
    Calls Tryd.prog 13 #[.slice A n c] w fun e w' => e = .returned (tagV bs) ∧ Below w.heap.size w w' := by
  have hl : bs.length = n := by simpa using hr.len1
  have HL := Lib.hid hl
  have HR := Lib.hid hr
  clear hr hl
  go_enter Tryd.func13, Tryd.ntmps13
  go_wp2_with fail
  obtain ⟨W0, hW0, hb0, hb1, hs0, hbw⟩ : ∃ W0, W0 = (w.alloc (.cells #[.int .u8 0, .int .u8 0, .int .u8 0, .int .u8 0, .int .u8 0, .int .u8 0, .int .u8 0, .int .u8 0, .int .u8 0, .int .u8 0, .int .u8 0, .int .u8 0, .int .u8 0, .int .u8 0, .int .u8 0, .int .u8 0, .int .u8 0, .int .u8 0, .int .u8 0, .int .u8 0, .int .u8 0, .int .u8 0, .int .u8 0, .int .u8 0, .int .u8 0, .int .u8 0, .int .u8 0, .int .u8 0, .int .u8 0, .int .u8 0, .int .u8 0, .int .u8 0] 28)).alloc
      (.cells #[.int .u32 1779033703, .int .u32 3144134277, .int .u32 1013904242, .int .u32 2773480762, .int .u32 1359893119, .int .u32 2600822924, .int .u32 528734635, .int .u32 1541459225] 54) ∧ Bk W0 w.heap.size 28 (zB 32) ∧
      Bk W0 (w.heap.size + 1) 54 firstW.cells ∧ W0.heap.size = w.heap.size + 2 ∧ Below w.heap.size w W0 :=
    ⟨_, rfl, (Bk.new w _ (zB 32)).alloc _, Bk.newAt _ firstW.cells (by simp), by simp, ((Below.refl _ _).alloc (Nat.le_refl _) _).alloc (by simp) _⟩
  rw [← hW0]
  clear hW0
  refine (rPadded_any A n c bs W0 ((HR.out.below hbw).more (by omega)) hn).mono ?_
  rintro e0 W1 ⟨A1, m, c1, rfl, ho, hbp⟩
  have hm0 : m = n + (noughts n + 9) := by
    have := ho.len
    rw [List.length_append, tailP_len, HL.out] at this
    omega
  have hmc := ho.le
  have hml := ho.len
  have hwh := tail_whole bs.length
  rw [tailP_len, HL.out, ← hm0] at hwh
  have hnn := noughts_lt n
  have hmb : m ≤ 1099511627900 := by omega
  obtain ⟨k, hk⟩ : ∃ k, m = 64 * k := ⟨m / 64, by omega⟩
  have HK := Lib.hid (And.intro hk (show shaL bs = tagL (runB k firstW (bs ++ tailP bs.length)) by
    unfold shaL
    rw [tailP_len, HL.out, ← hm0, hk, Nat.mul_div_cancel_left _ (by omega)]))
  clear hm0 hwh hnn hk
  generalize bs ++ tailP bs.length = all at *
  have hB0 := hb0.later hbp
  have hB1 := hb1.later hbp
  have hBW := hbw.trans (hbp.mono hbw.size)
  have hsz : w.heap.size + 2 ≤ W1.heap.size := by have := hbp.size; omega
  rw [hs0] at ho
  clear hb0 hb1 hbw hbp hs0
  have HO := Lib.hid ho
  have HML := Lib.hid hml
  clear ho hml
  go_wp2
  go_loopw [5] (fun p wr => ∃ i j : Nat, j = 64 * i ∧ i ≤ k ∧ p = .int .i64 (j : Int) ∧ Bk wr (w.heap.size + 1) 54 (runB i firstW all).cells ∧ W1.grownBy wr (some (w.heap.size + 1)))
    (fun p _ => m - (intOf p).toNat)
  case atStart => exact ⟨0, 0, rfl, by omega, rfl, hB1, grownOf (Below.refl _ _)⟩
  case round =>
    clear hB1
    obtain ⟨i, j, hj, hi, rfl, hB1, hgr⟩ := hrel
    have HJ := Lib.hid hj
    have hwlt : w.heap.size + 1 < wr.heap.size := hB1.lt
    by_cases hlt : i < k
    · have him : j + 64 ≤ m := by have := HK.out.1; omega
      clear hj
      have hci : (j : Int) < (m : Int) := by omega
      have hin : (j : Int) + 64 ≤ (m : Int) := by omega
      have hib : j ≤ 1099511627900 := by omega
      have hwj : IntKind.i64.wrap ((j : Int) + 64) = (j : Int) + 64 := by rw [IntKind.wrap_i64]; omega
      have hj1 : 0 ≤ (j : Int) + 64 := by omega
      have hj2 : (j : Int) + 64 ≤ (c1 : Int) := by omega
      have hj3 : ((j : Int) + 64).toNat = j + 64 := by omega
      have how := HO.out.grown hgr (by omega)
      have hcut := how.rd.cut1 (k := j) (m := j + 64) (by omega) him hmc
      rw [show j + 64 - j = 64 by omega, ← List.map_drop, ← List.map_take] at hcut
      have HST := Lib.hid (runB_snoc i firstW all)
      have HCUT := Lib.hid hcut
      clear how hcut
      generalize runB i firstW all = s at *
      have hrt := fun (cc : Nat) (W : World) (h : Rd W W.heap.size 1 (if c1 = j then A1 else Option.map (fun x => x.add j) A1) 64 (List.map bv (List.take 64 (List.drop j all)))) => rTake_any s (if c1 = j then A1 else Option.map (fun x => x.add j) A1) cc _ W h
      have HST2 := HST.out
      rw [← HJ.out] at HST2
      generalize takeB s (List.take 64 (List.drop j all)) = t at *
      have HRT := Lib.hid hrt
      have HSX := Lib.hid HST2
      have hb1L : s.cells.toArray.size = t.cells.toArray.size := by simp [W8.cells]
      clear HST HST2 hrt
      go_wp2
      --BEGIN
      refine wp_region_any (by kernel_rfl) ?_
      try (change wpAny _ _ _ _ _ _ _ (World.drew _))
      refine wpAny_take (i := 1) (oi := ?oia1) (v := ?va1) ?hoa1 (by kernel_rfl) ?hfa1 ?hra1 ?hQa1 ?hya1 ?resta1
      case hoa1 => (simp only [List.getElem?_toArray, List.getElem?_cons_succ, List.getElem?_cons_zero]; exact rfl)
      case hfa1 => kernel_rfl
      case hra1 => kernel_rfl
      case hQa1 => exact fun _ _ _ h => h
      case hya1 =>
        refine Or.inl ⟨by rfl, ?_⟩
        intro w
        go_simp
        (try with_reducible rfl)
      try simp only [Act.put, List.setIfInBounds_toArray, List.set_cons_zero, List.set_cons_succ]
      refine wpAny_take (i := 2) (oi := ?oia2) (v := ?va2) ?hoa2 (by kernel_rfl) ?hfa2 ?hra2 ?hQa2 ?hya2 ?resta2
      case hoa2 => (simp only [List.getElem?_toArray, List.getElem?_cons_succ, List.getElem?_cons_zero]; exact rfl)
      case hfa2 => kernel_rfl
      case hra2 => kernel_rfl
      case hQa2 => exact fun _ _ _ h => h
      case hya2 =>
        refine Or.inl ⟨by rfl, ?_⟩
        intro w
        go_simp
        (try with_reducible rfl)
      try simp only [Act.put, List.setIfInBounds_toArray, List.set_cons_zero, List.set_cons_succ]
      refine wpAny_take (i := 3) (oi := ?oia3) (v := ?va3) ?hoa3 (by kernel_rfl) ?hfa3 ?hra3 ?hQa3 ?hya3 ?resta3
      case hoa3 => (simp only [List.getElem?_toArray, List.getElem?_cons_succ, List.getElem?_cons_zero]; exact rfl)
      case hfa3 => kernel_rfl
      case hra3 => kernel_rfl
      case hQa3 => exact fun _ _ _ h => h
      case hya3 =>
        refine Or.inl ⟨by rfl, ?_⟩
        intro w
        go_simp
        (try with_reducible rfl)
      try simp only [Act.put, List.setIfInBounds_toArray, List.set_cons_zero, List.set_cons_succ]
      refine wpAny_take (i := 4) (oi := ?oia4) (v := ?va4) ?hoa4 (by kernel_rfl) ?hfa4 ?hra4 ?hQa4 ?hya4 ?resta4
      case hoa4 => (simp only [List.getElem?_toArray, List.getElem?_cons_succ, List.getElem?_cons_zero]; exact rfl)
      case hfa4 => kernel_rfl
      case hra4 => kernel_rfl
      case hQa4 => exact fun _ _ _ h => h
      case hya4 =>
        refine Or.inl ⟨by rfl, ?_⟩
        intro w
        go_simp
        (try with_reducible rfl)
      try simp only [Act.put, List.setIfInBounds_toArray, List.set_cons_zero, List.set_cons_succ]
      refine wpAny_take (i := 5) (oi := ?oia5) (v := ?va5) ?hoa5 (by kernel_rfl) ?hfa5 ?hra5 ?hQa5 ?hya5 ?resta5
      case hoa5 => (simp only [List.getElem?_toArray, List.getElem?_cons_succ, List.getElem?_cons_zero]; exact rfl)
      case hfa5 => kernel_rfl
      case hra5 => kernel_rfl
      case hQa5 => exact fun _ _ _ h => h
      case hya5 =>
        refine Or.inl ⟨by rfl, ?_⟩
        intro w
        go_simp
        (try with_reducible rfl)
      try simp only [Act.put, List.setIfInBounds_toArray, List.set_cons_zero, List.set_cons_succ]
      refine wpAny_ready (rs := [0]) (by kernel_rfl) (by simp) ?_
      refine AllReady.cons (o := ?oa6) ?hoa6 (fun K hK => ?ka6) ?ma6
      case hoa6 => (simp only [List.getElem?_toArray, List.getElem?_cons_succ, List.getElem?_cons_zero]; exact rfl)
      case ka6 =>
        refine any_load_row (by rfl) 54 (.tmp 3) rfl (w.heap.size + 1) rfl 54 _ _ _ hB1 Tryd.underlying54 rfl (by kernel_rfl) ?_
        refine hK _ _ ?_
        clear hK K
        try simp only [Act.put, List.setIfInBounds_toArray, List.set_cons_zero, List.set_cons_succ]
        refine wpAny_ready (rs := [6]) (by kernel_rfl) (by simp) ?_
        refine AllReady.cons (o := ?oa7) ?hoa7 (fun K hK => ?ka7) ?ma7
        case hoa7 => (simp only [List.getElem?_toArray, List.getElem?_cons_succ, List.getElem?_cons_zero]; exact rfl)
        case ka7 =>
          go_simp
          have hcq : Rd wr.drew wr.drew.heap.size 1 _ 64 _ := HCUT.out
          refine Calls.mono (by exact HRT.out _ wr.drew hcq) ?_
          rintro e W4 ⟨rfl, hb4⟩
          (try dsimp only)
          refine hK _ _ ?_
          clear hK K
          try simp only [Act.put, List.setIfInBounds_toArray, List.set_cons_zero, List.set_cons_succ]
          refine wpAny_ready (rs := [7]) (by kernel_rfl) (by simp) ?_
          refine AllReady.cons (o := ?oa8) ?hoa8 (fun K hK => ?ka8) ?ma8
          case hoa8 => (simp only [List.getElem?_toArray, List.getElem?_cons_succ, List.getElem?_cons_zero]; exact rfl)
          case ka8 =>
            refine any_store_row (by rfl) 54 (.tmp 3) (.tmp 23) rfl (w.heap.size + 1) t.cells.toArray rfl rfl _ _ (hB1.drew.later hb4) (by kernel_rfl) hb1L (by simp [W8.cells, Value.oneCell']) ?_
            refine hK _ _ ?_
            clear hK K
            try simp only [Act.put, List.setIfInBounds_toArray, List.set_cons_zero, List.set_cons_succ]
            refine wpAny_done (by kernel_rfl) ?_ _
            go_wp2
            go_roundw
            case rel => exact ⟨i + 1, j + 64, by have := HJ.out; omega, by omega, by go_num, by rw [HSX.out]; exact (hB1.drew.later hb4).setRow_same _, grownRow (grownBelow (grownDrew hgr) hb4) _⟩
            case measure => simp [intOf]; omega
          exact AllReady.nil
        exact AllReady.nil
      exact AllReady.nil
    · obtain rfl : i = k := by have := HK.out.1; omega
      have hjm : j = m := by have := HK.out.1; omega
      subst hjm
      clear hj
      have hBW2 : Below w.heap.size w wr := hBW.grown hgr (by omega) (fun q hq => by cases hq; omega)
      have hB0' : Bk wr w.heap.size 28 (zB 32) := hB0.grown hgr (by omega)
      have HTG := Lib.hid HK.out.2
      clear HK HJ HO HML hB0 hgr hBW hsz hi hlt
      generalize runB i firstW all = s at *
      have q0 := Bk.new wr 28 (zB 32)
      have q1 := hB0'.alloc (.cells (zB 32).toArray 28)
      have q2 := hB1.alloc (.cells (zB 32).toArray 28)
      have q3 := hBW2.alloc (by omega) (.cells (zB 32).toArray 28)
      clear hB0' hB1 hBW2
      go_wp2
      obtain ⟨wo, hwo⟩ : ∃ wo : World, wo = wr := ⟨_, rfl⟩
      rw [← hwo] at q0 q1 q2 q3 hwlt ⊢
      clear hwo
      go_loopw [7] (fun p wr => ∃ i : Nat, i ≤ 32 ∧ p = .int .i64 (i : Int) ∧ Bk wr w.heap.size 28 (zB 32) ∧ Bk wr (w.heap.size + 1) 54 s.cells ∧ Bk wr wo.heap.size 28 (bPad 32 ((tagL s).take i)) ∧ Below w.heap.size w wr)
        (fun p _ => 32 - (intOf p).toNat)
      case atStart => exact ⟨0, by omega, rfl, q1, q2, q0, q3⟩
      case round =>
        clear q0 q1 q2 q3
        obtain ⟨i, hi, rfl, hB0, hB1, hB2, hbw⟩ := hrel
        by_cases hlt : i < 32
        · have hci : (i : Int) < 32 := by omega
          obtain ⟨a, ha⟩ : ∃ a, a = i / 4 := ⟨_, rfl⟩
          obtain ⟨b, hb⟩ : ∃ b, b = i % 4 := ⟨_, rfl⟩
          have ha8 : a < 8 := by omega
          have hb4 : b < 4 := by omega
          have e1 : (i : Int).tdiv 4 = (a : Int) := by rw [Int.tdiv_eq_ediv_of_nonneg (by omega)]; omega
          have e2 : (i : Int).tmod 4 = (b : Int) := by rw [Int.tmod_eq_emod_of_nonneg (by omega)]; omega
          have e3 : (i : Int) / 4 = (a : Int) := by omega
          have e4 : (i : Int) % 4 = (b : Int) := by omega
          have e5 : 4 * a + b = i := by omega
          have ha8' : (a : Int) < 8 := by omega
          have hb3 : (b : Int) ≤ 3 := by omega
          have i3 : 0 ≤ 24 - 8 * (b : Int) := by omega
          have i4 : 24 - 8 * (b : Int) ≤ 32 := by omega
          have i6 : (24 - 8 * (b : Int)).toNat = 8 * (3 - b) := by omega
          have ch := hB1.cell a
          rw [cells_get s a ha8] at ch
          have HST := Lib.hid (tag_step s a b ha8 hb4)
          clear ha hb
          generalize s.list.getD a 0 = x at *
          have cu := hB2.cell i
          rw [List.getElem?_eq_getElem (by rw [bPad_len _ _ (by simp [tagL_len]; omega)]; omega)] at cu
          have fu := hB2.frozen i
          have h0 := hB0.far (p := ⟨wo.heap.size, i, none⟩) (by simp; omega) (Value.int .u8 (ui x / 2 ^ (8 * (3 - b)) % 256))
          have h1 := hB1.far (p := ⟨wo.heap.size, i, none⟩) (by simp; omega) (Value.int .u8 (ui x / 2 ^ (8 * (3 - b)) % 256))
          have h2 := hB2.set_ i (Value.int .u8 (ui x / 2 ^ (8 * (3 - b)) % 256))
          have h3 := hbw.setCell (p := ⟨wo.heap.size, i, none⟩) (by simp; omega) (Value.int .u8 (ui x / 2 ^ (8 * (3 - b)) % 256))
          have hl : ((tagL s).take i).length = i := by rw [List.length_take, tagL_len]; omega
          have hset := bPad_set 32 ((tagL s).take i) (UInt8.ofNat (x.toNat / 2 ^ (8 * (3 - b)))) (by omega)
          rw [hl, ← byteU] at hset
          have hst2 := HST.out
          rw [e5, show 4 * a + (b + 1) = i + 1 by omega] at hst2
          rw [← hst2] at hset
          rw [hset] at h2
          have H0 := Lib.hid h0
          have H1 := Lib.hid h1
          have H2 := Lib.hid h2
          have H3 := Lib.hid h3
          clear h0 h1 h2 h3 hset hl hst2 HST e5
          go_wp2
          go_roundw
          case rel => exact ⟨i + 1, by omega, by go_num, H0.out, H1.out, H2.out, H3.out⟩
          case measure => simp [intOf]; omega
        · obtain rfl : i = 32 := by omega
          clear hlt hi
          rw [show (tagL s).take 32 = tagL s from rfl, bPad_full _ _ (tagL_len s)] at hB2
          have hsz : (Tryd.prog.info? 28).map (·.size) = some ((tagL s).map bv).toArray.size := by
            rw [List.size_toArray, List.length_map, tagL_len]
            kernel_rfl
          go_wp2_with (first
            | (refine wpList_load_row (P := Tryd.prog) rfl 28 _ rfl wo.heap.size rfl _ _ _ _ hB2 Tryd.underlying28 rfl hsz ?_)
            | (refine wpList_store_row (P := Tryd.prog) rfl 28 _ _ rfl w.heap.size _ rfl rfl _ _ hB0 hsz (by simp [zB, tagL_len]) (by simp [bv, Value.oneCell']) ?_))
          refine bodyPost_ret (v := .agg ((tagL s).map bv).toArray) (results_cell_row rfl _ _ w.heap.size _ _ _ _ rfl (setRow_heap wr w.heap.size _ _ _ _ hB0) Tryd.underlying28 rfl hsz) rfl ⟨by rw [← HTG.out], below_setRow hbw (Nat.le_refl _) _⟩
end Go.Proofs.YtgkfebbifgkkeaaDoor
