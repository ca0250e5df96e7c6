/- Texts, packed: GrH GrI -/
import Derived.Test.YtfmghkplafploaaPwL
import Derived.Test.YtfmghkplafploaaPwI
set_option linter.unusedVariables false
set_option linter.unusedSimpArgs false
namespace Go.Proofs.Ytfmghkplafploaa
open Go Go.RowKit

theorem anyd_ldSI {ops : Array Oper} {E : Prop} {o : Oper} {a : Act} {K : Act → World → Prop} {Q : Exit → Act → World → Prop} {w : World} (hwant : Region.wanted o (yielded ops a.tmps) = true) (x : Operand)
    (ho : o.op = .load 43 x) (b i : Nat) (v : Value) (hx : a.eval x = .pointer (some ⟨b, i, none⟩)) (hc : w.cell? ⟨b, i, none⟩ = some v)
    (h : K (a.put o.dst v) w) : if Region.wanted o (yielded ops a.tmps) = true then Oper.wp Try.prog o a w K Q else E := by
  rw [if_pos hwant]
  unfold Oper.wp execOp
  simp only [ho, hx]
  go_simp
  exact h
theorem anyd_stSI {ops : Array Oper} {E : Prop} {o : Oper} {a : Act} {K : Act → World → Prop} {Q : Exit → Act → World → Prop} {w : World} (hwant : Region.wanted o (yielded ops a.tmps) = true) (x y : Operand)
    (ho : o.op = .store 43 x y) (b i : Nat) (u : Value) (A : Option Addr) (n c : Nat) (hx : a.eval x = .pointer (some ⟨b, i, none⟩)) (hy : a.eval y = .slice A n c) (hc : w.cell? ⟨b, i, none⟩ = some u) (hf : w.frozen? ⟨b, i, none⟩ = false)
    (h : K (a.put o.dst undef) (w.setCell ⟨b, i, none⟩ (.slice A n c))) : if Region.wanted o (yielded ops a.tmps) = true then Oper.wp Try.prog o a w K Q else E := by
  rw [if_pos hwant]
  unfold Oper.wp execOp
  simp only [ho, hx, hy]
  go_simp
  exact h
theorem anyd_litI {ops : Array Oper} {E : Prop} {o : Oper} {a : Act} {w : World} {K : Act → World → Prop} {Q : Exit → Act → World → Prop} (hwant : Region.wanted o (yielded ops a.tmps) = true) (x0 : Operand)
    (ho : o.op = .buildSlice 43 1 #[(0, x0)]) (x : Nat) (hx0 : a.eval x0 = ni x)
    (h : K (a.put o.dst (.slice (some ⟨w.heap.size, 0, none⟩) 1 1)) (w.alloc (.cells #[ni x] 3))) :
    if Region.wanted o (yielded ops a.tmps) = true then Oper.wp Try.prog o a w K Q else E := by
  rw [if_pos hwant]
  obtain ⟨i0, hi, hz0, hz1, hz2⟩ := info_parts intInfo
  refine wp_buildSlice 43 3 1 _ ho #[ni x] i0 _ Try.underlying43 hi hz0 (by rw [hz1]; omega) (by rw [hz1]; omega) ?_ h
  rw [hz1]
  simp only [List.map_toArray, List.map_cons, List.map_nil, hx0, List.toList_toArray]
  kernel_rfl
theorem anyd_appI {ops : Array Oper} {E : Prop} {o : Oper} {a : Act} {K : Act → World → Prop} {Q : Exit → Act → World → Prop} {w : World} (hwant : Region.wanted o (yielded ops a.tmps) = true) (p x : Operand)
    (ho : o.op = .call { callee := .builtin .append, args := #[p, x], argTypes := #[43, 43] })
    (base : Nat) (A0 : Option Addr) (c0 n : Nat) (l : List Nat) (hv : a.eval p = .slice A0 n c0) (hown : OwI w base A0 c0 n l)
    (B : Nat) (A : Option Addr) (m c : Nat) (news : List Nat) (hx : a.eval x = .slice A m c) (hr : Rd w B 1 A m (news.map ni)) (hb : n + m ≤ 1000000000000) (hbase : base ≤ w.heap.size)
    (h : ∀ A' c' w', OwI w' base A' c' (n + m) (l ++ news) → Turn (fun k => blockOf A0 = some k) w w' → (blockOf A' = blockOf A0 ∨ blockOf A' = some w.heap.size) → K (a.put o.dst (.slice A' (n + m) c')) w') : if Region.wanted o (yielded ops a.tmps) = true then Oper.wp Try.prog o a w K Q else E := by
  rw [if_pos hwant]
  obtain ⟨i0, hi, hz0, hz1, hz2⟩ := info_parts intInfo
  refine wp_app w p x 43 ho base 3 i0 _ 1 8 Try.underlying43 hi hz0 hz1 hz2 rfl (by decide) _ n _ hv hown B A m c _ hx hr (ni_one news) (by simp only [maxLen]; omega) (by omega) hbase ?_
  intro A' c' w' h1 h2 h3
  rw [ownBlock_slice, ownBlock_slice] at h3
  exact h A' c' w' (by unfold OwI; rw [List.map_append]; exact h1) (Turn.ofGrown h2 fun k hk => by rw [ownBlock_slice] at hk; exact hk) h3
/-- All parts, as they are handed on: slices of numbers in rows of the call's own. -/
structure PR (w : World) (base : Nat) (A : Option Addr) (c : Nat) (P : List (List Nat)) (R : List (Nat × Nat)) : Prop where
  own : w.ownsRow base 43 1 (.slice A P.length c) P.length ((R.zip P).map fun x => .slice (some ⟨x.1.1, 0, none⟩) x.2.length x.1.2)
  rlen : R.length = P.length
  row : ∀ (i : Nat) (r : Nat × Nat) (p : List Nat), R[i]? = some r → P[i]? = some p → base ≤ r.1 ∧ r.1 < w.heap.size ∧ p.length ≤ r.2 ∧ ∀ j v, p[j]? = some v → w.cell? ⟨r.1, j, none⟩ = some (ni v)
  ap : ∀ r ∈ R, blockOf A ≠ some r.1
set_option maxRecDepth 1000000 in
theorem zc58 (A : Option Addr) (k c : Nat) : (Try.zeroCells94).setIfInBounds 12288 (.slice A k c) = (seZ A k c).toArray := by kernel_rfl
theorem Fil.start (w W1 : World) (n : Nat) (h1 : Bk W1 w.heap.size 43 (List.replicate n (.slice none 0 0))) (h2 : Below w.heap.size w W1) (h3 : W1.heap.size = w.heap.size + 1) :
    Fil w n W1.heap.size w.heap.size (fun _ => none) (fun _ => 0) (List.replicate n (.slice none 0 0)) (fun u => outs [] u) (W1.alloc (.cells ((Try.zeroCells94).setIfInBounds 12288 (.slice (some ⟨w.heap.size, 0, none⟩) n n)) 94)) := by
  refine ⟨h2.alloc (by omega) _, Nat.le_refl _, by omega, ?_, h1.alloc _, by simp, fun u hu => ⟨?_, OwI.nil _ _⟩, fun u v k _ _ _ hk => absurd hk (by simp [blockOf])⟩
  · rw [zc58]; exact Bk.new W1 _ _
  · rw [List.getElem?_replicate, if_pos hu]; rfl
set_option maxRecDepth 100000 in
set_option maxHeartbeats 4000000 in
theorem found_any (w : World) (n : Nat) (E : List (Nat × Nat)) (Ae : Option Addr) (ne ce : Nat) (hr : RdE w w.heap.size Ae ne (ei E)) (hE : In n E) (hn : n ≤ 4096) (hne : ne ≤ 16384) :
    Calls Try.prog 24 #[ni n, .slice Ae ne ce] w fun e w' => ∃ A c P R, e = .returned (.slice A P.length c) ∧ PR w' w.heap.size A c P R ∧ IsParts n E P ∧ Below w.heap.size w w' := by
  have hlen : E.length = ne := by rw [← ei_len]; exact hr.len
  have HLEN := Lib.hid hlen
  have HR := Lib.hid hr
  have HE := Lib.hid hE
  clear hlen hr hE
  obtain ⟨i0, hi0, hz0, hz1, hz2⟩ := info_parts sliInfo
  have hb2 : i0.bytes * n ≤ 281474976710656 := by rw [hz2]; omega
  have hmx : n ≤ maxLen := by simp only [maxLen]; omega
  go_enter Try.func24, Try.ntmps24
  go_upto_region 2 with (first
    | (refine wpList_make_bk _ rfl (.tmp 9) (.tmp 9) 38 rfl 43 i0 _ Try.underlying38 hi0 hz0 hz1 rfl .i64 .i64 (n : Int) (n : Int) n n rfl rfl rfl rfl (Nat.le_refl _) hb2 hmx ?_
       intro W1 hb1 hbw1 hs1
       have HB1 := Lib.hid hb1
       have HW1 := Lib.hid hbw1
       have HS1 := Lib.hid hs1
       clear hb1 hbw1 hs1)
    | fail)
  obtain ⟨LB, hLB⟩ : ∃ LB, LB = w.heap.size := ⟨_, rfl⟩
  obtain ⟨S, hS⟩ : ∃ S, S = W1.heap.size := ⟨_, rfl⟩
  obtain ⟨W2, hW2, hf2⟩ : ∃ W2, W2 = W1.alloc (.cells ((Try.zeroCells94).setIfInBounds 12288 (.slice (some ⟨w.heap.size, 0, none⟩) n n)) 94) ∧ Fil w n S LB (fun _ => none) (fun _ => 0) (List.replicate n (.slice none 0 0)) (fun u => outs [] u) W2 :=
    ⟨_, rfl, by rw [hS, hLB]; exact Fil.start w W1 n HB1.out HW1.out HS1.out⟩
  rw [← hW2, ← hS, ← hLB]
  obtain ⟨zz, hzz⟩ : ∃ zz, zz = (Try.zeroCells94).setIfInBounds 12288 (Value.slice (some ⟨LB, 0, none⟩) n n) := ⟨_, rfl⟩
  rw [← hzz]
  have HF2 := Lib.hid hf2
  have HWL := Lib.hid (show LB = w.heap.size from hLB)
  clear hzz hW2 hf2 hS hLB
  repeat (first | go_skip | go_guarded | go_step)
  go_loopw [15] (fun q wr => ∃ (i : Nat) (fA : Nat → Option Addr) (fc : Nat → Nat) (lv : List Value), i ≤ ne ∧ q = .int .i64 (i : Int) ∧ Fil w n S LB fA fc lv (fun u => outs (E.take i) u) wr) (fun q _ => ne - (intOf q).toNat)
  case atStart => exact ⟨0, _, _, _, by omega, rfl, HF2.out⟩
  case round =>
    rename World => wr
    obtain ⟨i, fA, fc, lv, hi, rfl, hf⟩ := hrel
    have HF := Lib.hid hf
    clear hf
    by_cases hlt : i < ne
    · have hii : (i : Int) < (ne : Int) := by omega
      obtain ⟨be, oe, e, hAe, hbe, he, hc0, hc1⟩ := HR.out.at_ hlt
      subst hAe
      obtain ⟨⟨a, b⟩, hx, rfl⟩ := ei_at he
      have hab := HE.out _ (List.mem_of_getElem? hx)
      obtain ⟨ha, hb⟩ := hab
      dsimp only at ha hb hc0 hc1
      have k0 := (HF.out.below.cell (p := ⟨be, oe + i * 2, none⟩) hbe).trans hc0
      have k1 := (HF.out.below.cell (p := ⟨be, oe + i * 2 + 1, none⟩) hbe).trans hc1
      have HX := Lib.hid hx
      clear hx he hc0 hc1
      go_upto_region 5 with (fail)
      obtain ⟨eb, heb⟩ : ∃ eb, eb = wr.heap.size := ⟨_, rfl⟩
      obtain ⟨U, hU, hub, hbU⟩ : ∃ U, U = wr.alloc (.cells #[.int .i64 (a : Int), .int .i64 (b : Int)] 75) ∧ Bk U eb 75 [ni a, ni b] ∧ Below wr.heap.size wr U :=
        ⟨_, rfl, by rw [heb]; exact Bk.new wr _ [ni a, ni b], (Below.refl _ _).alloc (Nat.le_refl _) _⟩
      rw [← hU, ← heb]
      have HFU := Lib.hid (HF.out.later hbU)
      have hsU := hbU.size
      clear hU
      obtain ⟨hl1, hl2⟩ := HFU.out.lead a ha
      have hol := hl2.le
      obtain ⟨kk, hkk⟩ : ∃ kk, kk = (outs (E.take i) a).length := ⟨_, rfl⟩
      have hkb : kk ≤ 16384 := by
        have := outs_len (E.take i) a
        have h2 : (E.take i).length ≤ i := List.length_take_le _ _
        omega
      rw [← hkk] at hl1 hl2 hol
      have HKK := Lib.hid hkk
      have hLS := HFU.out.hS
      have HAP := Lib.hid (show ∀ k, blockOf (fA a) = some k → S + 1 ≤ k ∧ k < wr.heap.size from fun k hk => own_low (HF.out.lead a ha).2 hk)
      have HS0 := Lib.hid (show ∀ V, Turn (fun k => k = LB ∨ blockOf (fA a) = some k) U V → V.cell? ⟨S, 12288, none⟩ = some (.slice (some ⟨LB, 0, none⟩) n n) from fun V hV =>
        (hV.cell (p := ⟨S, 12288, none⟩) HFU.out.blk.lt (by
          rintro (e | e)
          · have e' : S = LB := e
            omega
          · have := (HAP.out _ e).1
            have e' : S + 1 ≤ S := this
            omega)).trans ((HFU.out.blk.cell 12288).trans (seZ_at _ _ _).1))
      have HE01 := Lib.hid (show ∀ V, Turn (fun k => k = LB ∨ blockOf (fA a) = some k) U V → V.cell? ⟨eb, 0, none⟩ = some (ni a) ∧ V.cell? ⟨eb, 1, none⟩ = some (ni b) from fun V hV => by
        have hk : ¬ (eb = LB ∨ blockOf (fA a) = some eb) := by
          rintro (e | e)
          · have := HF.out.lblk.lt
            omega
          · have := (HAP.out _ e).2
            omega
        exact ⟨(hV.cell (p := ⟨eb, 0, none⟩) hub.lt hk).trans (hub.cell 0), (hV.cell (p := ⟨eb, 1, none⟩) hub.lt hk).trans (hub.cell 1)⟩)
      have HC1 := Lib.hid (show U.drew.cell? ⟨LB, a, none⟩ = some (.slice (fA a) kk (fc a)) from (HFU.out.lblk.cell a).trans hl1)
      have HC2 := Lib.hid (show (U.drew.alloc (.cells #[ni b] 3)).cell? ⟨LB, a, none⟩ = some (.slice (fA a) kk (fc a)) from ((HFU.out.lblk.drew.alloc (.cells #[ni b] 3)).cell a).trans hl1)
      have hZ0 : Below U.drew.heap.size U.drew (U.drew.alloc (.cells #[ni b] 3)) := (Below.refl _ _).alloc (Nat.le_refl _) _
      have HO1 := Lib.hid (show OwI (U.drew.alloc (.cells #[ni b] 3)) (S + 1) (fA a) (fc a) kk (outs (E.take i) a) from ownBelow (show OwI U.drew (S + 1) (fA a) (fc a) kk (outs (E.take i) a) from hl2) hZ0 (Nat.le_refl _))
      have hbz : S + 1 ≤ (U.drew.alloc (.cells #[ni b] 3)).heap.size := Nat.le_trans HFU.out.blk.lt hZ0.size
      have HLBK := Lib.hid (HFU.out.lblk.drew.alloc (.cells #[ni b] 3))
      have hai : (a : Int) < (n : Int) := by omega
      have ha0 : (0 : Int) ≤ (a : Int) := by omega
      have hni : (n : Int) ≤ 4096 := by omega
      clear hl1 hl2 hub hkk hZ0 k0 k1 hbU heb
      refine wp_region_held_drew (S := fun V => Turn (fun k => k = LB ∨ blockOf (fA a) = some k) U V) (by kernel_rfl) ?_ (fun hHeld => ?_)
      · exact (Turn.refl _ U).drew
      refine wpAnyH_take (i := 0) (oi := ?oid1) (v := ?vd1) ?hod1 (by kernel_rfl) ?hfd1 ?hrd1 ?hQd1 ?hyd1 hHeld ?restd1
      case hod1 => (simp only [List.getElem?_toArray, List.getElem?_cons_succ, List.getElem?_cons_zero]; exact rfl)
      case hfd1 => kernel_rfl
      case hrd1 => kernel_rfl
      case hQd1 => exact fun _ _ _ h => h
      case hyd1 =>
        refine Or.inl ⟨by rfl, ?_⟩
        intro V hSV
        go_simp
        (try with_reducible rfl)
      try simp only [Act.put, List.setIfInBounds_toArray, List.set_cons_zero, List.set_cons_succ]
      refine wpAnyH_take (i := 1) (oi := ?oid2) (v := ?vd2) ?hod2 (by kernel_rfl) ?hfd2 ?hrd2 ?hQd2 ?hyd2 hHeld ?restd2
      case hod2 => (simp only [List.getElem?_toArray, List.getElem?_cons_succ, List.getElem?_cons_zero]; exact rfl)
      case hfd2 => kernel_rfl
      case hrd2 => kernel_rfl
      case hQd2 => exact fun _ _ _ h => h
      case hyd2 =>
        refine Or.inl ⟨by rfl, ?_⟩
        intro V hSV
        go_simp
        (try with_reducible rfl)
      try simp only [Act.put, List.setIfInBounds_toArray, List.set_cons_zero, List.set_cons_succ]
      refine wpAnyH_take (i := 2) (oi := ?oid3) (v := ?vd3) ?hod3 (by kernel_rfl) ?hfd3 ?hrd3 ?hQd3 ?hyd3 hHeld ?restd3
      case hod3 => (simp only [List.getElem?_toArray, List.getElem?_cons_succ, List.getElem?_cons_zero]; exact rfl)
      case hfd3 => kernel_rfl
      case hrd3 => kernel_rfl
      case hQd3 => exact fun _ _ _ h => h
      case hyd3 =>
        refine Or.inl ⟨by rfl, ?_⟩
        intro V hSV
        go_simp
        (try with_reducible rfl)
      try simp only [Act.put, List.setIfInBounds_toArray, List.set_cons_zero, List.set_cons_succ]
      refine wpAnyH_take (i := 3) (oi := ?oid4) (v := ?vd4) ?hod4 (by kernel_rfl) ?hfd4 ?hrd4 ?hQd4 ?hyd4 hHeld ?restd4
      case hod4 => (simp only [List.getElem?_toArray, List.getElem?_cons_succ, List.getElem?_cons_zero]; exact rfl)
      case hfd4 => kernel_rfl
      case hrd4 => kernel_rfl
      case hQd4 => exact fun _ _ _ h => h
      case hyd4 =>
        refine Or.inl ⟨by rfl, ?_⟩
        intro V hSV
        have q := HS0.out V hSV
        go_simp
        (try with_reducible rfl)
      try simp only [Act.put, List.setIfInBounds_toArray, List.set_cons_zero, List.set_cons_succ]
      refine wpAnyH_take (i := 4) (oi := ?oid5) (v := ?vd5) ?hod5 (by kernel_rfl) ?hfd5 ?hrd5 ?hQd5 ?hyd5 hHeld ?restd5
      case hod5 => (simp only [List.getElem?_toArray, List.getElem?_cons_succ, List.getElem?_cons_zero]; exact rfl)
      case hfd5 => kernel_rfl
      case hrd5 => kernel_rfl
      case hQd5 => exact fun _ _ _ h => h
      case hyd5 =>
        refine Or.inl ⟨by rfl, ?_⟩
        intro V hSV
        go_simp
        (try with_reducible rfl)
      try simp only [Act.put, List.setIfInBounds_toArray, List.set_cons_zero, List.set_cons_succ]
      refine wpAnyH_take (i := 5) (oi := ?oid6) (v := ?vd6) ?hod6 (by kernel_rfl) ?hfd6 ?hrd6 ?hQd6 ?hyd6 hHeld ?restd6
      case hod6 => (simp only [List.getElem?_toArray, List.getElem?_cons_succ, List.getElem?_cons_zero]; exact rfl)
      case hfd6 => kernel_rfl
      case hrd6 => kernel_rfl
      case hQd6 => exact fun _ _ _ h => h
      case hyd6 =>
        refine Or.inl ⟨by rfl, ?_⟩
        intro V hSV
        have q := (HE01.out V hSV).1
        go_simp
        (try with_reducible rfl)
      try simp only [Act.put, List.setIfInBounds_toArray, List.set_cons_zero, List.set_cons_succ]
      refine wpAnyH_take (i := 6) (oi := ?oid7) (v := ?vd7) ?hod7 (by kernel_rfl) ?hfd7 ?hrd7 ?hQd7 ?hyd7 hHeld ?restd7
      case hod7 => (simp only [List.getElem?_toArray, List.getElem?_cons_succ, List.getElem?_cons_zero]; exact rfl)
      case hfd7 => kernel_rfl
      case hrd7 => kernel_rfl
      case hQd7 => exact fun _ _ _ h => h
      case hyd7 =>
        refine Or.inl ⟨by rfl, ?_⟩
        intro V hSV
        go_simp
        (try with_reducible rfl)
      try simp only [Act.put, List.setIfInBounds_toArray, List.set_cons_zero, List.set_cons_succ]
      refine wpAnyH_take (i := 7) (oi := ?oid8) (v := ?vd8) ?hod8 (by kernel_rfl) ?hfd8 ?hrd8 ?hQd8 ?hyd8 hHeld ?restd8
      case hod8 => (simp only [List.getElem?_toArray, List.getElem?_cons_succ, List.getElem?_cons_zero]; exact rfl)
      case hfd8 => kernel_rfl
      case hrd8 => kernel_rfl
      case hQd8 => exact fun _ _ _ h => h
      case hyd8 =>
        refine Or.inl ⟨by rfl, ?_⟩
        intro V hSV
        go_simp
        (try with_reducible rfl)
      try simp only [Act.put, List.setIfInBounds_toArray, List.set_cons_zero, List.set_cons_succ]
      refine wpAnyH_take (i := 8) (oi := ?oid9) (v := ?vd9) ?hod9 (by kernel_rfl) ?hfd9 ?hrd9 ?hQd9 ?hyd9 hHeld ?restd9
      case hod9 => (simp only [List.getElem?_toArray, List.getElem?_cons_succ, List.getElem?_cons_zero]; exact rfl)
      case hfd9 => kernel_rfl
      case hrd9 => kernel_rfl
      case hQd9 => exact fun _ _ _ h => h
      case hyd9 =>
        refine Or.inl ⟨by rfl, ?_⟩
        intro V hSV
        go_simp
        (try with_reducible rfl)
      try simp only [Act.put, List.setIfInBounds_toArray, List.set_cons_zero, List.set_cons_succ]
      refine wpAnyH_take (i := 9) (oi := ?oid10) (v := ?vd10) ?hod10 (by kernel_rfl) ?hfd10 ?hrd10 ?hQd10 ?hyd10 hHeld ?restd10
      case hod10 => (simp only [List.getElem?_toArray, List.getElem?_cons_succ, List.getElem?_cons_zero]; exact rfl)
      case hfd10 => kernel_rfl
      case hrd10 => kernel_rfl
      case hQd10 => exact fun _ _ _ h => h
      case hyd10 =>
        refine Or.inl ⟨by rfl, ?_⟩
        intro V hSV
        have q := HS0.out V hSV
        go_simp
        (try with_reducible rfl)
      try simp only [Act.put, List.setIfInBounds_toArray, List.set_cons_zero, List.set_cons_succ]
      refine wpAnyH_take (i := 10) (oi := ?oid11) (v := ?vd11) ?hod11 (by kernel_rfl) ?hfd11 ?hrd11 ?hQd11 ?hyd11 hHeld ?restd11
      case hod11 => (simp only [List.getElem?_toArray, List.getElem?_cons_succ, List.getElem?_cons_zero]; exact rfl)
      case hfd11 => kernel_rfl
      case hrd11 => kernel_rfl
      case hQd11 => exact fun _ _ _ h => h
      case hyd11 =>
        refine Or.inl ⟨by rfl, ?_⟩
        intro V hSV
        go_simp
        (try with_reducible rfl)
      try simp only [Act.put, List.setIfInBounds_toArray, List.set_cons_zero, List.set_cons_succ]
      refine wpAnyH_take (i := 11) (oi := ?oid12) (v := ?vd12) ?hod12 (by kernel_rfl) ?hfd12 ?hrd12 ?hQd12 ?hyd12 hHeld ?restd12
      case hod12 => (simp only [List.getElem?_toArray, List.getElem?_cons_succ, List.getElem?_cons_zero]; exact rfl)
      case hfd12 => kernel_rfl
      case hrd12 => kernel_rfl
      case hQd12 => exact fun _ _ _ h => h
      case hyd12 =>
        refine Or.inl ⟨by rfl, ?_⟩
        intro V hSV
        have q := (HE01.out V hSV).1
        go_simp
        (try with_reducible rfl)
      try simp only [Act.put, List.setIfInBounds_toArray, List.set_cons_zero, List.set_cons_succ]
      refine wpAnyH_take (i := 12) (oi := ?oid13) (v := ?vd13) ?hod13 (by kernel_rfl) ?hfd13 ?hrd13 ?hQd13 ?hyd13 hHeld ?restd13
      case hod13 => (simp only [List.getElem?_toArray, List.getElem?_cons_succ, List.getElem?_cons_zero]; exact rfl)
      case hfd13 => kernel_rfl
      case hrd13 => kernel_rfl
      case hQd13 => exact fun _ _ _ h => h
      case hyd13 =>
        refine Or.inl ⟨by rfl, ?_⟩
        intro V hSV
        go_simp
        (try with_reducible rfl)
      try simp only [Act.put, List.setIfInBounds_toArray, List.set_cons_zero, List.set_cons_succ]
      refine wpAnyH_take (i := 14) (oi := ?oid14) (v := ?vd14) ?hod14 (by kernel_rfl) ?hfd14 ?hrd14 ?hQd14 ?hyd14 hHeld ?restd14
      case hod14 => (simp only [List.getElem?_toArray, List.getElem?_cons_succ, List.getElem?_cons_zero]; exact rfl)
      case hfd14 => kernel_rfl
      case hrd14 => kernel_rfl
      case hQd14 => exact fun _ _ _ h => h
      case hyd14 =>
        refine Or.inl ⟨by rfl, ?_⟩
        intro V hSV
        go_simp
        (try with_reducible rfl)
      try simp only [Act.put, List.setIfInBounds_toArray, List.set_cons_zero, List.set_cons_succ]
      refine wpAnyH_take (i := 15) (oi := ?oid15) (v := ?vd15) ?hod15 (by kernel_rfl) ?hfd15 ?hrd15 ?hQd15 ?hyd15 hHeld ?restd15
      case hod15 => (simp only [List.getElem?_toArray, List.getElem?_cons_succ, List.getElem?_cons_zero]; exact rfl)
      case hfd15 => kernel_rfl
      case hrd15 => kernel_rfl
      case hQd15 => exact fun _ _ _ h => h
      case hyd15 =>
        refine Or.inl ⟨by rfl, ?_⟩
        intro V hSV
        have q := (HE01.out V hSV).2
        go_simp
        (try with_reducible rfl)
      try simp only [Act.put, List.setIfInBounds_toArray, List.set_cons_zero, List.set_cons_succ]
      refine wpAnyH_ready (rs := [13, 16]) (by kernel_rfl) (by simp) ?_
      refine AllReadyH.cons (o := ?od16) ?hod16 (fun K hK => ?kd16) ?md16
      case hod16 => (simp only [List.getElem?_toArray, List.getElem?_cons_succ, List.getElem?_cons_zero]; exact rfl)
      case kd16 =>
        refine anyd_ldSI (by rfl) (.tmp 31) rfl LB a _ (by rfl) (by first | exact HC1.out | exact HC2.out) ?_
        refine hK.out _ _ ?_ (fun hHeld => ?_)
        · exact hHeld
        clear hK K
        try simp only [Act.put, List.setIfInBounds_toArray, List.set_cons_zero, List.set_cons_succ]
        refine wpAnyH_ready (rs := [16]) (by kernel_rfl) (by simp) ?_
        refine AllReadyH.cons (o := ?od17) ?hod17 (fun K hK => ?kd17) ?md17
        case hod17 => (simp only [List.getElem?_toArray, List.getElem?_cons_succ, List.getElem?_cons_zero]; exact rfl)
        case kd17 =>
          refine anyd_litI (by rfl) (.tmp 34) rfl b (by rfl) ?_
          refine hK.out _ _ ?_ (fun hHeld => ?_)
          · exact Turn.alloc hHeld _
          clear hK K
          try simp only [Act.put, List.setIfInBounds_toArray, List.set_cons_zero, List.set_cons_succ]
          refine wpAnyH_ready (rs := [17]) (by kernel_rfl) (by simp) ?_
          refine AllReadyH.cons (o := ?od18) ?hod18 (fun K hK => ?kd18) ?md18
          case hod18 => (simp only [List.getElem?_toArray, List.getElem?_cons_succ, List.getElem?_cons_zero]; exact rfl)
          case kd18 =>
            refine anyd_appI (by rfl) (.tmp 32) (.tmp 35) rfl (S + 1) (fA a) (fc a) kk (outs (E.take i) a) (by rfl) HO1.out _ _ 1 1 [b] (by rfl) (litI_rd b _) (by omega) hbz ?_
            intro A3 c3 Z hoZ htZ hfZ
            have HOZ := Lib.hid hoZ
            have HTZ := Lib.hid (show Turn (fun k => blockOf (fA a) = some k) U Z from (Turn.ofBelow (G := fun k => blockOf (fA a) = some k) (show Below U.heap.size U (U.drew.alloc (.cells #[ni b] 3)) from (belowDrews (Below.refl _ U) 1).alloc (Nat.le_refl _) _)).trans htZ)
            have HFZ := Lib.hid (show blockOf A3 = blockOf (fA a) ∨ ∃ k, blockOf A3 = some k ∧ U.heap.size ≤ k from hfZ.imp id fun h => ⟨_, h, (show Below U.heap.size U (U.drew.alloc (.cells #[ni b] 3)) from (belowDrews (Below.refl _ U) 1).alloc (Nat.le_refl _) _).size⟩)
            have HBZ := Lib.hid (htZ.bk HLBK.out (fun e => by have := (HAP.out _ e).1; omega))
            clear hoZ hfZ
            refine hK.out _ _ ?_ (fun hHeld => ?_)
            · exact Turn.then_ hHeld htZ (fun k _ e => .inr e)
            clear hK K
            try simp only [Act.put, List.setIfInBounds_toArray, List.set_cons_zero, List.set_cons_succ]
            refine wpAnyH_take (i := 18) (oi := ?oid19) (v := ?vd19) ?hod19 (by kernel_rfl) ?hfd19 ?hrd19 ?hQd19 ?hyd19 hHeld ?restd19
            case hod19 => (simp only [List.getElem?_toArray, List.getElem?_cons_succ, List.getElem?_cons_zero]; exact rfl)
            case hfd19 => kernel_rfl
            case hrd19 => kernel_rfl
            case hQd19 => exact fun _ _ _ h => h
            case hyd19 =>
              refine Or.inl ⟨by rfl, ?_⟩
              intro V hSV
              go_simp
              (try with_reducible rfl)
            try simp only [Act.put, List.setIfInBounds_toArray, List.set_cons_zero, List.set_cons_succ]
            refine wpAnyH_ready (rs := [19]) (by kernel_rfl) (by simp) ?_
            refine AllReadyH.cons (o := ?od20) ?hod20 (fun K hK => ?kd20) ?md20
            case hod20 => (simp only [List.getElem?_toArray, List.getElem?_cons_succ, List.getElem?_cons_zero]; exact rfl)
            case kd20 =>
              refine anyd_stSI (by rfl) (.tmp 37) (.tmp 36) rfl LB a _ A3 (kk + 1) c3 (by rfl) (by rfl) ((HBZ.out.cell a).trans (HFU.out.lead a ha).1) (HBZ.out.frozen a) ?_
              refine hK.out _ _ ?_ (fun hHeld => ?_)
              · exact Turn.setCell hHeld (fun _ => .inl rfl) _
              clear hK K
              try simp only [Act.put, List.setIfInBounds_toArray, List.set_cons_zero, List.set_cons_succ]
              refine wpAnyH_done (by kernel_rfl) ?_ _
              repeat (first | go_skip | go_guarded | go_step)
              have hstep := HFU.out.step ha HTZ.out (b := b) (A3 := A3) (c3 := c3) (by rw [← HKK.out]; exact HOZ.out) HFZ.out
              rw [← HKK.out] at hstep
              have hfun : upd (fun u => outs (E.take i) u) a (outs (E.take i) a ++ [b]) = fun u => outs (E.take (i + 1)) u := by
                funext u
                have e : E.take (i + 1) = E.take i ++ [(a, b)] := by rw [List.take_add_one, HX.out]; rfl
                rw [e, outs_snoc]
                by_cases hu : u = a
                · subst hu; rw [upd_same, if_pos rfl]
                · rw [upd_other hu, if_neg hu]
              rw [hfun] at hstep
              go_roundw
              case rel => exact ⟨i + 1, _, _, _, by omega, by go_num, hstep⟩
              case measure => simp [intOf]; omega
            exact AllReadyH.nil
          exact AllReadyH.nil
        exact AllReadyH.nil
      refine AllReadyH.cons (o := ?od21) ?hod21 (fun K hK => ?kd21) ?md21
      case hod21 => (simp only [List.getElem?_toArray, List.getElem?_cons_succ, List.getElem?_cons_zero]; exact rfl)
      case kd21 =>
        refine anyd_litI (by rfl) (.tmp 34) rfl b (by rfl) ?_
        refine hK.out _ _ ?_ (fun hHeld => ?_)
        · exact Turn.alloc hHeld _
        clear hK K
        try simp only [Act.put, List.setIfInBounds_toArray, List.set_cons_zero, List.set_cons_succ]
        refine wpAnyH_ready (rs := [13]) (by kernel_rfl) (by simp) ?_
        refine AllReadyH.cons (o := ?od22) ?hod22 (fun K hK => ?kd22) ?md22
        case hod22 => (simp only [List.getElem?_toArray, List.getElem?_cons_succ, List.getElem?_cons_zero]; exact rfl)
        case kd22 =>
          refine anyd_ldSI (by rfl) (.tmp 31) rfl LB a _ (by rfl) (by first | exact HC1.out | exact HC2.out) ?_
          refine hK.out _ _ ?_ (fun hHeld => ?_)
          · exact hHeld
          clear hK K
          try simp only [Act.put, List.setIfInBounds_toArray, List.set_cons_zero, List.set_cons_succ]
          refine wpAnyH_ready (rs := [17]) (by kernel_rfl) (by simp) ?_
          refine AllReadyH.cons (o := ?od23) ?hod23 (fun K hK => ?kd23) ?md23
          case hod23 => (simp only [List.getElem?_toArray, List.getElem?_cons_succ, List.getElem?_cons_zero]; exact rfl)
          case kd23 =>
            refine anyd_appI (by rfl) (.tmp 32) (.tmp 35) rfl (S + 1) (fA a) (fc a) kk (outs (E.take i) a) (by rfl) HO1.out _ _ 1 1 [b] (by rfl) (litI_rd b _) (by omega) hbz ?_
            intro A3 c3 Z hoZ htZ hfZ
            have HOZ := Lib.hid hoZ
            have HTZ := Lib.hid (show Turn (fun k => blockOf (fA a) = some k) U Z from (Turn.ofBelow (G := fun k => blockOf (fA a) = some k) (show Below U.heap.size U (U.drew.alloc (.cells #[ni b] 3)) from (belowDrews (Below.refl _ U) 1).alloc (Nat.le_refl _) _)).trans htZ)
            have HFZ := Lib.hid (show blockOf A3 = blockOf (fA a) ∨ ∃ k, blockOf A3 = some k ∧ U.heap.size ≤ k from hfZ.imp id fun h => ⟨_, h, (show Below U.heap.size U (U.drew.alloc (.cells #[ni b] 3)) from (belowDrews (Below.refl _ U) 1).alloc (Nat.le_refl _) _).size⟩)
            have HBZ := Lib.hid (htZ.bk HLBK.out (fun e => by have := (HAP.out _ e).1; omega))
            clear hoZ hfZ
            refine hK.out _ _ ?_ (fun hHeld => ?_)
            · exact Turn.then_ hHeld htZ (fun k _ e => .inr e)
            clear hK K
            try simp only [Act.put, List.setIfInBounds_toArray, List.set_cons_zero, List.set_cons_succ]
            refine wpAnyH_take (i := 18) (oi := ?oid24) (v := ?vd24) ?hod24 (by kernel_rfl) ?hfd24 ?hrd24 ?hQd24 ?hyd24 hHeld ?restd24
            case hod24 => (simp only [List.getElem?_toArray, List.getElem?_cons_succ, List.getElem?_cons_zero]; exact rfl)
            case hfd24 => kernel_rfl
            case hrd24 => kernel_rfl
            case hQd24 => exact fun _ _ _ h => h
            case hyd24 =>
              refine Or.inl ⟨by rfl, ?_⟩
              intro V hSV
              go_simp
              (try with_reducible rfl)
            try simp only [Act.put, List.setIfInBounds_toArray, List.set_cons_zero, List.set_cons_succ]
            refine wpAnyH_ready (rs := [19]) (by kernel_rfl) (by simp) ?_
            refine AllReadyH.cons (o := ?od25) ?hod25 (fun K hK => ?kd25) ?md25
            case hod25 => (simp only [List.getElem?_toArray, List.getElem?_cons_succ, List.getElem?_cons_zero]; exact rfl)
            case kd25 =>
              refine anyd_stSI (by rfl) (.tmp 37) (.tmp 36) rfl LB a _ A3 (kk + 1) c3 (by rfl) (by rfl) ((HBZ.out.cell a).trans (HFU.out.lead a ha).1) (HBZ.out.frozen a) ?_
              refine hK.out _ _ ?_ (fun hHeld => ?_)
              · exact Turn.setCell hHeld (fun _ => .inl rfl) _
              clear hK K
              try simp only [Act.put, List.setIfInBounds_toArray, List.set_cons_zero, List.set_cons_succ]
              refine wpAnyH_done (by kernel_rfl) ?_ _
              repeat (first | go_skip | go_guarded | go_step)
              have hstep := HFU.out.step ha HTZ.out (b := b) (A3 := A3) (c3 := c3) (by rw [← HKK.out]; exact HOZ.out) HFZ.out
              rw [← HKK.out] at hstep
              have hfun : upd (fun u => outs (E.take i) u) a (outs (E.take i) a ++ [b]) = fun u => outs (E.take (i + 1)) u := by
                funext u
                have e : E.take (i + 1) = E.take i ++ [(a, b)] := by rw [List.take_add_one, HX.out]; rfl
                rw [e, outs_snoc]
                by_cases hu : u = a
                · subst hu; rw [upd_same, if_pos rfl]
                · rw [upd_other hu, if_neg hu]
              rw [hfun] at hstep
              go_roundw
              case rel => exact ⟨i + 1, _, _, _, by omega, by go_num, hstep⟩
              case measure => simp [intOf]; omega
            exact AllReadyH.nil
          exact AllReadyH.nil
        exact AllReadyH.nil
      exact AllReadyH.nil
    · obtain rfl : i = ne := by omega
      have hii : ¬ (i : Int) < (i : Int) := by omega
      have HF9 := Lib.hid (show Fil w n S LB fA fc lv (fun u => outs E u) wr by
        have h := HF.out
        rw [List.take_of_length_le (by rw [HLEN.out]; exact Nat.le_refl _)] at h
        exact h)
      clear HF
      have HSE := Lib.hid HF9.out.se
      have HIV := Lib.hid (Inv.start n E (fun _ => white) (fun _ => rfl) (fun u => outs E u) (fun u v => mem_outs))
      have HLS := Lib.hid HF9.out.hS
      have HBW := Lib.hid HF9.out.below
      clear HF9
      repeat (first | go_skip | go_guarded | go_step)
      go_loopw [40] (fun q w2 => ∃ (j : Nat) (m : Mem) (s : Se), j ≤ n ∧ q = .int .i64 (j : Int) ∧ SeM wr n S LB m w2 s ∧ Inv n E s ∧ s.todo = [] ∧ ∀ u, u < j → s.far u ≠ white) (fun q _ => n - (intOf q).toNat)
      case atStart => exact ⟨0, _, _, by omega, rfl, HSE.out, HIV.out, rfl, fun u hu => absurd hu (Nat.not_lt_zero _)⟩
      case round =>
        rename World => w2
        obtain ⟨j, m, s, hj, rfl, hm, hv, ht, hs⟩ := hrel
        have HM := Lib.hid hm
        have HV := Lib.hid hv
        have HT := Lib.hid ht
        have HS := Lib.hid hs
        clear hm hv ht hs
        by_cases hltj : j < n
        · have hji : (j : Int) < (n : Int) := by omega
          have hj4 : (j : Int) < 4096 := by omega
          obtain ⟨y1, y2, y3⟩ := HM.out.far j (by omega)
          have z1 := HM.out.rd y1
          have z2 := HM.out.rd y2
          have z3 := HM.out.rd y3
          clear y1 y2 y3
          by_cases hwh : s.far j = white
          · have HWH := Lib.hid hwh
            have z1' : w2.cell? ⟨S, j * 3, none⟩ = some (.int .i64 0) := by rw [z1, hwh]; rfl
            have z2' : w2.cell? ⟨S, j * 3 + 1, none⟩ = some (.int .i64 0) := by rw [z2, hwh]; rfl
            have z3' : w2.cell? ⟨S, j * 3 + 2, none⟩ = some (.bool false) := by rw [z3, hwh]; rfl
            clear z1 z2 z3 hwh
            repeat (first | go_skip | go_guarded | go_step)
            refine (from_any wr n S LB E HE.out hn m w2 s j HM.out HV.out hltj HWH.out HT.out).mono ?_
            rintro e w3 ⟨rfl, m3, s3, hm3, hv3, ht3, hj3, hs3⟩
            have HM3 := Lib.hid hm3
            have HV3 := Lib.hid hv3
            have HT3 := Lib.hid ht3
            have HJ3 := Lib.hid hj3
            have HS3 := Lib.hid hs3
            clear hm3 hv3 ht3 hj3 hs3
            dsimp only
            repeat (first | go_skip | go_guarded | go_step)
            go_roundw
            case rel => exact ⟨j + 1, m3, s3, by omega, by go_num, HM3.out, HV3.out, HT3.out, fun u hu => by
              by_cases e : u = j
              · subst e; exact HJ3.out
              · exact HS3.out u (HS.out u (by omega))⟩
            case measure => simp [intOf]; omega
          · have hdk : s.far j = dark := by
              rcases HV.out.cls j (by rw [HV.out.end_ HT.out]; simp) with e | e
              · exact absurd e hwh
              · exact e
            have HWH := Lib.hid hwh
            have z1' : w2.cell? ⟨S, j * 3, none⟩ = some (.int .i64 0) := by rw [z1, hdk]; rfl
            have z2' : w2.cell? ⟨S, j * 3 + 1, none⟩ = some (.int .i64 0) := by rw [z2, hdk]; rfl
            have z3' : w2.cell? ⟨S, j * 3 + 2, none⟩ = some (.bool true) := by rw [z3, hdk]; rfl
            clear z1 z2 z3 hdk hwh
            repeat (first | go_skip | go_guarded | go_step)
            go_roundw
            case rel => exact ⟨j + 1, m, s, by omega, by go_num, HM.out, HV.out, HT.out, fun u hu => by
              by_cases e : u = j
              · subst e; exact HWH.out
              · exact HS.out u (by omega)⟩
            case measure => simp [intOf]; omega
        · obtain rfl : j = n := by omega
          have hji : ¬ (j : Int) < (j : Int) := by omega
          have cP := HM.out.rd HM.out.cParts
          repeat (first | go_skip | go_guarded | go_step)
          go_ret
          have hM := HM.out
          have hws : w.heap.size ≤ wr.heap.size := HBW.out.size
          refine ⟨m.pA, m.pc, s.parts, m.R, rfl, ⟨ownBase hM.parts hws, hM.rlen, fun i r p hr hp => ?_, fun r hr => (hM.ap3 r hr).2.2⟩, HV.out.isParts fun v hv => ?_, ?_⟩
          · obtain ⟨q1, q2, q3, q4⟩ := hM.row i r p hr hp
            exact ⟨Nat.le_trans hws q1, q2, q3, q4⟩
          · rcases HV.out.cls v (by rw [HV.out.end_ HT.out]; simp) with e | e
            · exact absurd e (HS.out v hv)
            · exact e
          · have hLS := HLS.out
            have hWL := HWL.out
            exact HBW.out.trans (hM.frame.below (B := w.heap.size) (fun k _ e => by rcases e with e | e <;> omega) hws)
end Go.Proofs.Ytfmghkplafploaa

set_option linter.unusedVariables false
set_option linter.unusedSimpArgs false
namespace Go.Proofs.Ytfmghkplafploaa
open Go Go.RowKit Go.Sort Go.Lib

set_option maxRecDepth 100000 in
set_option maxHeartbeats 1000000 in
/-- Two slices whose first elements are unlike. -/
theorem cmp_ne (b1 n1 c1 b2 n2 c2 : Nat) (x y : Nat) (w : World) (h1 : 0 < n1) (h2 : 0 < n2) (hx : w.cell? ⟨b1, 0, none⟩ = some (ni x)) (hy : w.cell? ⟨b2, 0, none⟩ = some (ni y)) (hne : x ≠ y) :
    Calls Try.prog 34 #[.slice (some ⟨b1, 0, none⟩) n1 c1, .slice (some ⟨b2, 0, none⟩) n2 c2] w fun e w' => e = .returned (.int .i64 (compareInt x y)) ∧ w' = w := by
  have hcon := cmp_Compare_int (x : Int) (y : Int) w
  have hz : compareInt (x : Int) (y : Int) ≠ 0 := by
    unfold compareInt
    rcases Nat.lt_or_gt_of_ne hne with h | h
    · rw [if_pos (by omega)]; decide
    · rw [if_neg (by omega), if_pos (by omega)]; decide
  generalize compareInt (x : Int) (y : Int) = r at hcon hz ⊢
  have hz1 : (r != 0) = true := by simpa using hz
  have hz2 : (r == 0) = false := by simpa using hz
  clear hz hne
  have i1 : (0 : Int) < (n1 : Int) := by omega
  have i2 : ¬ (n2 : Int) ≤ 0 := by omega
  have i3 : (0 : Int) < (n2 : Int) := by omega
  go_enter Try.func34, Try.ntmps34
  repeat (first | go_skip | go_guarded | go_step)
  go_loop [11] (fun q => q = .int .i64 0) (fun _ => 0)
  case atStart => rfl
  case round =>
    subst hrel
    repeat (first | go_skip | go_guarded | go_step)
    refine hcon.mono ?_
    rintro e w' ⟨rfl, rfl⟩
    dsimp only
    repeat (first | go_skip | go_guarded | go_step)
    go_ret
    exact ⟨rfl, rfl⟩
set_option maxRecDepth 100000 in
set_option maxHeartbeats 1000000 in
/-- A slice and itself. -/
theorem cmp_same (b n c : Nat) (l : List Nat) (w : World) (hl : l.length = n) (hb : n ≤ 1000000000000) (hc : ∀ j v, l[j]? = some v → w.cell? ⟨b, j, none⟩ = some (ni v)) :
    Calls Try.prog 34 #[.slice (some ⟨b, 0, none⟩) n c, .slice (some ⟨b, 0, none⟩) n c] w fun e w' => e = .returned (.int .i64 0) ∧ w' = w := by
  have HC := Lib.hid hc
  have HL := Lib.hid hl
  clear hc hl
  go_enter Try.func34, Try.ntmps34
  repeat (first | go_skip | go_guarded | go_step)
  go_loop [11] (fun q => ∃ i : Nat, i ≤ n ∧ q = .int .i64 (i : Int)) (fun q => n - (intOf q).toNat)
  case atStart => exact ⟨0, by omega, rfl⟩
  case round =>
    obtain ⟨i, hi, rfl⟩ := hrel
    by_cases hlt : i < n
    · have hci : (i : Int) < (n : Int) := by omega
      have hcj : ¬ (n : Int) ≤ (i : Int) := by omega
      obtain ⟨x, hx⟩ : ∃ x, l[i]? = some x := ⟨_, List.getElem?_eq_getElem (by rw [HL.out]; exact hlt)⟩
      have cx := HC.out i x hx
      clear hx
      have hcon := cmp_Compare_int (x : Int) (x : Int) w
      rw [show compareInt (x : Int) (x : Int) = 0 by unfold compareInt; simp] at hcon
      repeat (first | go_skip | go_guarded | go_step)
      refine hcon.mono ?_
      rintro e w' ⟨rfl, rfl⟩
      clear hcon
      dsimp only
      repeat (first | go_skip | go_guarded | go_step)
      go_round
      case rel => exact ⟨i + 1, by omega, by go_num⟩
      case measure => simp [intOf]; omega
    · obtain rfl : i = n := by omega
      have hci : ¬ (i : Int) < (i : Int) := by omega
      repeat (first | go_skip | go_guarded | go_step)
      go_ret
      exact ⟨rfl, rfl⟩
/-- Parts that are read: slices of numbers. -/
structure RdP (w : World) (B : Nat) (A : Option Addr) (P : List (List Nat)) (R : List (Nat × Nat)) : Prop where
  rlen : R.length = P.length
  top : Rd w B 1 A P.length ((R.zip P).map fun x => .slice (some ⟨x.1.1, 0, none⟩) x.2.length x.1.2)
  row : ∀ (i : Nat) (r : Nat × Nat) (p : List Nat), R[i]? = some r → P[i]? = some p → r.1 < B ∧ p.length ≤ r.2 ∧ ∀ j v, p[j]? = some v → w.cell? ⟨r.1, j, none⟩ = some (ni v)
theorem RdP.below {w w' : World} {B : Nat} {A : Option Addr} {P : List (List Nat)} {R : List (Nat × Nat)} (h : RdP w B A P R) (hb : Below B w w') : RdP w' B A P R :=
  ⟨h.rlen, h.top.below hb, fun i r p hr hp => by
    obtain ⟨q1, q2, q3⟩ := h.row i r p hr hp
    exact ⟨q1, q2, fun j v hv => (hb.cell (p := ⟨r.1, j, none⟩) q1).trans (q3 j v hv)⟩⟩
theorem RdP.more {w : World} {B B' : Nat} {A : Option Addr} {P : List (List Nat)} {R : List (Nat × Nat)} (h : RdP w B A P R) (hb : B ≤ B') : RdP w B' A P R :=
  ⟨h.rlen, h.top.more hb, fun i r p hr hp => by
    obtain ⟨q1, q2, q3⟩ := h.row i r p hr hp
    exact ⟨by omega, q2, q3⟩⟩
theorem RdP.at_ {w : World} {B : Nat} {A : Option Addr} {P : List (List Nat)} {R : List (Nat × Nat)} (h : RdP w B A P R) {i : Nat} (hi : i < P.length) :
    ∃ b o r p, A = some ⟨b, o, none⟩ ∧ b < B ∧ R[i]? = some r ∧ P[i]? = some p ∧ w.cell? ⟨b, o + i, none⟩ = some (.slice (some ⟨r.1, 0, none⟩) p.length r.2) ∧ r.1 < B ∧ p.length ≤ r.2 ∧ ∀ j v, p[j]? = some v → w.cell? ⟨r.1, j, none⟩ = some (ni v) := by
  obtain ⟨b, o, u, hA, hb, hu, hc⟩ := h.top.at1 hi
  have hr : R[i]? = some (R[i]'(by rw [h.rlen]; exact hi)) := List.getElem?_eq_getElem _
  have hp : P[i]? = some P[i] := List.getElem?_eq_getElem _
  rw [List.getElem?_map, (List.getElem?_zip_eq_some (z := (R[i]'(by rw [h.rlen]; exact hi), P[i]))).2 ⟨hr, hp⟩] at hu
  obtain rfl := Option.some.inj hu
  obtain ⟨q1, q2, q3⟩ := h.row i _ _ hr hp
  exact ⟨b, o, _, _, hA, hb, hr, hp, hc, q1, q2, q3⟩
theorem PR.rd {w : World} {base c : Nat} {A : Option Addr} {P : List (List Nat)} {R : List (Nat × Nat)} (h : PR w base A c P R) : RdP w w.heap.size A P R :=
  ⟨h.rlen, Rd.ofOwn h.own, fun i r p hr hp => by
    obtain ⟨_, q2, q3, q4⟩ := h.row i r p hr hp
    exact ⟨q2, q3, q4⟩⟩
theorem compareInt_lt (x y : Int) : decide (compareInt x y < 0) = decide (x < y) := by
  unfold compareInt
  by_cases h1 : x < y
  · simp [h1]
  · by_cases h2 : y < x <;> simp [h1, h2]
theorem perm_get {α : Type} (k : Nat) (f : Fin k → α) (D : List (Fin k)) (hD : D.Perm (List.finRange k)) : (D.map f).Perm ((List.finRange k).map f) := hD.map f
/-- 'slices.SortFunc(parts, slices.Compare)'. -/
theorem sortParts_any (w : World) (base c n : Nat) (E : List (Nat × Nat)) (A : Option Addr) (P : List (List Nat)) (R : List (Nat × Nat)) (h : PR w base A c P R) (hI : IsParts n E P) (hn : n ≤ 4096) :
    Calls Try.prog 33 #[.slice A P.length c, .func (.func 34) #[] #[]] w fun e w' => e = .returned (.tuple #[]) ∧ ∃ P' R', P'.Perm P ∧ P'.Pairwise (fun p q => p.headD 0 < q.headD 0) ∧ RdP w' w'.heap.size A P' R' ∧ Turn (fun k => blockOf A = some k) w w' := by
  have hPl := hI.len_le
  by_cases h0 : P.length = 0
  · have hP : P = [] := List.eq_nil_of_length_eq_zero h0
    subst hP
    have hR : R = [] := List.eq_nil_of_length_eq_zero (by rw [h.rlen]; rfl)
    subst hR
    refine (slices_SortFunc_none (α := Nat) A c _ w).mono ?_
    rintro e w' ⟨rfl, rfl⟩
    exact ⟨rfl, [], [], List.Perm.refl _, List.Pairwise.nil, h.rd, Turn.refl _ _⟩
  · obtain ⟨k, hk⟩ : ∃ k, k = P.length := ⟨_, rfl⟩
    have hRl : R.length = k := by rw [hk]; exact h.rlen
    have : Inhabited (Fin k) := ⟨⟨0, by omega⟩⟩
    obtain ⟨blk, hA, hblk1, hblk2, hkc, hcell, hfz⟩ := ownSome h.own (by omega)
    -- the part of a place, and its slice
    have pt : ∀ i : Fin k, ∃ p, P[i.1]? = some p := fun i => ⟨_, List.getElem?_eq_getElem (by rw [← hk]; exact i.2)⟩
    let pf : Fin k → List Nat := fun i => P[i.1]'(by rw [← hk]; exact i.2)
    let rf : Fin k → Nat × Nat := fun i => R[i.1]'(by rw [hRl]; exact i.2)
    let enc : Fin k → Value := fun i => .slice (some ⟨(rf i).1, 0, none⟩) (pf i).length (rf i).2
    let cf : Fin k → Fin k → Int := fun i j => compareInt ((pf i).headD 0 : Nat) ((pf j).headD 0 : Nat)
    have hpf : ∀ i : Fin k, P[i.1]? = some (pf i) := fun i => List.getElem?_eq_getElem _
    have hrf : ∀ i : Fin k, R[i.1]? = some (rf i) := fun i => List.getElem?_eq_getElem _
    have hne : ∀ i : Fin k, pf i ≠ [] := fun i => hI.ne (List.mem_of_getElem? (hpf i))
    have hhd : ∀ i j : Fin k, (pf i).headD 0 = (pf j).headD 0 → i = j := by
      intro i j e
      obtain ⟨a, p', ha⟩ := List.exists_cons_of_ne_nil (hne i)
      obtain ⟨b, q', hb⟩ := List.exists_cons_of_ne_nil (hne j)
      rw [ha, hb] at e
      simp only [List.headD_cons] at e
      subst e
      exact Fin.ext (hI.uniq (hpf i) (hpf j) (v := a) (by rw [ha]; simp) (by rw [hb]; simp))
    have hlt : ∀ i j : Fin k, ltOf cf i j = decide ((pf i).headD 0 < (pf j).headD 0) := by
      intro i j
      show decide (compareInt _ _ < 0) = _
      rw [compareInt_lt]
      by_cases hq : (pf i).headD 0 < (pf j).headD 0
      · simp only [hq, decide_true, decide_eq_true_eq]; omega
      · simp only [hq, decide_false, decide_eq_false_iff_not]; omega
    have hO : SWO (ltOf cf) := ⟨fun x => by rw [hlt]; simp, fun x y z h1 h2 => by rw [hlt] at *; simp only [decide_eq_true_eq] at *; omega, fun x y z h1 h2 => by rw [hlt] at *; simp only [decide_eq_false_iff_not] at *; omega⟩
    have hT : ∀ x y, ltOf cf x y = false → ltOf cf y x = false → x = y := fun x y h1 h2 => by
      rw [hlt] at h1 h2
      simp only [decide_eq_false_iff_not] at h1 h2
      exact hhd x y (by omega)
    let d : Array (Fin k) := (List.finRange k).toArray
    have hdk : d.size = k := by simp [d]
    have hdg : ∀ (j : Nat) (hj : j < k), d[j]! = ⟨j, hj⟩ := fun j hj => by
      rw [getElem!_pos d j (by rw [hdk]; exact hj)]
      simp [d]
    have hz : ∀ i : Fin k, ((R.zip P).map fun x => Value.slice (some ⟨x.1.1, 0, none⟩) x.2.length x.1.2)[i.1]? = some (enc i) := fun i => by
      rw [List.getElem?_map, (List.getElem?_zip_eq_some (z := (rf i, pf i))).2 ⟨hrf i, hpf i⟩]; rfl
    have hH : Holds enc w blk 0 d := fun j hj => by
      rw [hdk] at hj
      rw [Nat.zero_add, hdg j hj]
      exact ⟨hcell j _ (hz ⟨j, hj⟩), hfz j⟩
    have hrow : ∀ i : Fin k, (rf i).1 ≠ blk ∧ (rf i).1 < w.heap.size ∧ (pf i).length ≤ (rf i).2 ∧ ∀ j v, (pf i)[j]? = some v → w.cell? ⟨(rf i).1, j, none⟩ = some (ni v) := fun i => by
      obtain ⟨q1, q2, q3, q4⟩ := h.row i.1 _ _ (hrf i) (hpf i)
      refine ⟨fun e => h.ap _ (List.mem_of_getElem? (hrf i)) (by rw [hA]; exact congrArg some e.symm), q2, q3, q4⟩
    have hcw : ∀ (m : Nat) (os : Array Obj) (dk : Array (Fin k)) (i : Fin k) (j v : Nat), (pf i)[j]? = some v → (sortWorld enc w blk 0 m dk os).cell? ⟨(rf i).1, j, none⟩ = some (ni v) := fun m os dk i j v hv => by
      obtain ⟨q1, q2, _, q4⟩ := hrow i
      unfold sortWorld
      rw [cell?_grow _ _ _ (by simpa using q2), cell?_putRow_other _ _ _ _ _ _ (.inl q1), cell?_ahead]
      exact q4 j v hv
    have hsz : ∀ i : Fin k, (pf i).length ≤ 4096 := fun i => by
      obtain ⟨v, hv, e⟩ := hI.cls _ (List.mem_of_getElem? (hpf i))
      rw [e]
      unfold part
      have := List.length_filter_le (fun u => @decide (Both E v u) (Classical.propDecidable _)) (List.range n)
      rw [List.length_range] at this
      exact Nat.le_trans this hn
    have hcmp : CmpLays1 Try.prog 34 #[] enc cf blk 0 d.size w := by
      refine CmpReads.lays fun m os dk _ x y => ?_
      obtain ⟨a, p', ha⟩ := List.exists_cons_of_ne_nil (hne x)
      obtain ⟨b, q', hb⟩ := List.exists_cons_of_ne_nil (hne y)
      by_cases hxy : x = y
      · subst hxy
        have hcf : cf x x = 0 := by show compareInt _ _ = 0; unfold compareInt; simp
        rw [hcf]
        refine (cmp_same (rf x).1 (pf x).length (rf x).2 (pf x) _ rfl (by have := hsz x; omega) (fun j v hv => hcw m os dk x j v hv)).mono ?_
        rintro e w' ⟨rfl, rfl⟩
        exact ⟨rfl, 0, rfl⟩
      · have hab : (pf x).headD 0 ≠ (pf y).headD 0 := fun e => hxy (hhd x y e)
        refine (cmp_ne (rf x).1 (pf x).length (rf x).2 (rf y).1 (pf y).length (rf y).2 ((pf x).headD 0) ((pf y).headD 0) _ (by rw [ha]; simp) (by rw [hb]; simp) (hcw m os dk x 0 _ (by rw [ha]; rfl)) (hcw m os dk y 0 _ (by rw [hb]; rfl)) hab).mono ?_
        rintro e w' ⟨rfl, rfl⟩
        exact ⟨rfl, 0, rfl⟩
    have eg : ∀ args w, (callFunc 34 args).run Try.prog w = .ok (.enter 34 args) w := enters_of Try.func34 (by kernel_rfl) rfl
    have hs := slices_SortFunc_total enc (fun _ => rfl) cf hO 34 #[] blk 0 c d w eg hcmp hH hblk2 (by rw [hdk]; omega) hT
    rw [hdk] at hs
    rw [hA, ← hk]
    refine hs.mono ?_
    rintro e w' ⟨rfl, m, os, rfl⟩
    obtain ⟨D, hD⟩ : ∃ D, D = d.toList.mergeSort fun x y => !(ltOf cf) y x := ⟨_, rfl⟩
    rw [← hD]
    have hperm : D.Perm (List.finRange k) := by rw [hD]; exact (List.mergeSort_perm _ _).trans (by simp [d])
    have hsorted : D.Pairwise fun x y => (!(ltOf cf) y x) = true := by
      rw [hD]
      refine List.pairwise_mergeSort (fun a b c h1 h2 => ?_) (fun a b => ?_) _
      · simp only [Bool.not_eq_true', hlt, decide_eq_false_iff_not] at *; omega
      · simp only [Bool.or_eq_true, Bool.not_eq_true', hlt, decide_eq_false_iff_not]; omega
    have hDl : D.length = k := by rw [hperm.length_eq]; simp
    have hnd : D.Nodup := hperm.nodup_iff.2 (List.nodup_finRange k)
    have eP : (List.finRange k).map pf = P := by
      refine List.ext_getElem (by simp [hk]) fun i h1 h2 => ?_
      simp [pf]
    refine ⟨rfl, D.map pf, D.map rf, ?_, ?_, ?_, ?_⟩
    · have := perm_get k pf D hperm
      rwa [eP] at this
    · refine List.pairwise_map.2 ((hsorted.and hnd).imp fun {x y} h => ?_)
      have h1 := h.1
      simp only [Bool.not_eq_true', hlt, decide_eq_false_iff_not] at h1
      have : (pf x).headD 0 ≠ (pf y).headD 0 := fun e => h.2 (hhd x y e)
      omega
    · have hDg : ∀ (j : Nat) (i : Fin k), D[j]? = some i → D.toArray[j]! = i := fun j i hj => by
        obtain ⟨h1, h2⟩ := List.getElem?_eq_some_iff.1 hj
        rw [getElem!_pos D.toArray j (by simpa using h1)]
        simpa using h2
      refine ⟨by simp, ⟨by simp, fun _ => ⟨blk, 0, rfl, ?_, ?_⟩⟩, ?_⟩
      · unfold sortWorld; simp; omega
      · intro j u hu
        rw [List.getElem?_map] at hu
        have hjl : j < D.length := by
          rcases Nat.lt_or_ge j D.length with g | g
          · exact g
          · rw [List.getElem?_eq_none (by simp; omega)] at hu; cases hu
        have hji : D[j]? = some D[j] := List.getElem?_eq_getElem hjl
        rw [List.getElem?_zip_eq_some (z := (rf D[j], pf D[j])) |>.2 ⟨by rw [List.getElem?_map, hji]; rfl, by rw [List.getElem?_map, hji]; rfl⟩] at hu
        obtain rfl := Option.some.inj hu
        unfold sortWorld
        rw [cell?_grow _ _ _ (by simpa using hblk2), cell?_putRow enc (Sort.ahead w m) blk 0 d D.toArray (holds_ahead enc w m blk 0 d hH) (by simp [hdk, hDl]) j (by simpa using hjl), hDg j _ hji]
      · intro i r p hr hp
        rw [List.getElem?_map] at hr hp
        cases hi : D[i]? with
        | none => rw [hi] at hr; cases hr
        | some x =>
          rw [hi] at hr hp
          obtain rfl := Option.some.inj hr
          obtain rfl := Option.some.inj hp
          obtain ⟨q1, q2, q3, q4⟩ := hrow x
          refine ⟨?_, q3, fun j v hv => hcw m os D.toArray x j v hv⟩
          unfold sortWorld; simp; omega
    · refine ⟨rfl, rfl, rfl, by unfold sortWorld; simp, fun q hq hnq => ?_⟩
      unfold sortWorld
      rw [heap_grow_old _ _ (by simpa using hq)]
      have hqb : blk ≠ q := fun e => hnq (congrArg some e)
      simp [putRow, mapBlock, Sort.ahead, Array.getElem?_modify, hqb]
end Go.Proofs.Ytfmghkplafploaa

