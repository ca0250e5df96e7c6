/- Layer 6 (wire), the document's: bytes of facts and of atoms. -/
import Derived.Test.YtcoafgnbmgndeaaWrE
import Derived.Great.BuildSlice
set_option linter.unusedVariables false
set_option linter.unusedSimpArgs false
namespace Go.Proofs.Ytcoafgnbmgndeaa
open Go Go.RowKit

theorem wp_app8h {o : Oper} {a : Act} {K : Act → World → Prop} {Q : Exit → Act → World → Prop} (w : World) (p x : Operand)
    (ho : o.op = .call { callee := .builtin .append, args := #[p, x], argTypes := #[22, 22] })
    (base : Nat) (A0 : Option Addr) (c0 n : Nat) (bs : List UInt8) (hv : a.eval p = .slice A0 n c0) (hown : Ow w base A0 c0 n bs)
    (B : Nat) (A : Option Addr) (m c : Nat) (news : List UInt8) (hx : a.eval x = .slice A m c) (hr : Rd w B 1 A m (news.map bv)) (hb : n + m ≤ 70368744177664) (hbase : base ≤ w.heap.size)
    (h : ∀ A' c' w', Ow w' base A' c' (n + m) (bs ++ news) → Below base w w' → K (a.put o.dst (.slice A' (n + m) c')) w') : o.wp Try.prog a w K Q := by
  obtain ⟨i0, hi, hz0, hz1, hz2⟩ := info_parts u8info
  refine wp_app w p x 22 ho base 5 i0 _ 1 1 Try.underlying22 hi hz0 hz1 hz2 rfl (by decide) _ n _ hv hown B A m c _ hx hr (bv_one news) (by simp only [maxLen]; omega) (by omega) hbase ?_
  intro A' c' w' h1 h2 _
  exact h A' c' w' (by unfold Ow; rw [List.map_append]; exact h1) (belowApp (Below.refl _ _) hown h2 hbase)
theorem anyd_app8h {ops : Array Oper} {E : Prop} {o : Oper} {a : Act} {K : Act → World → Prop} {Q : Exit → Act → World → Prop} {w : World} (hwant : Region.wanted o (yielded ops a.tmps) = true) (p x : Operand)
    (ho : o.op = .call { callee := .builtin .append, args := #[p, x], argTypes := #[22, 22] })
    (base : Nat) (A0 : Option Addr) (c0 n : Nat) (bs : List UInt8) (hv : a.eval p = .slice A0 n c0) (hown : Ow w base A0 c0 n bs)
    (B : Nat) (A : Option Addr) (m c : Nat) (news : List UInt8) (hx : a.eval x = .slice A m c) (hr : Rd w B 1 A m (news.map bv)) (hb : n + m ≤ 70368744177664) (hbase : base ≤ w.heap.size)
    (h : ∀ A' c' w', Ow w' base A' c' (n + m) (bs ++ news) → Below base w w' → K (a.put o.dst (.slice A' (n + m) c')) w') : if Region.wanted o (yielded ops a.tmps) = true then Oper.wp Try.prog o a w K Q else E := by
  rw [if_pos hwant]
  exact wp_app8h w p x ho base A0 c0 n bs hv hown B A m c news hx hr hb hbase h
theorem app8h {ops : Array Oper} {rest : List Oper} {o : Oper} {a : Act} {Q : Exit → Act → World → Prop} (w : World) (hgd : o.guard = none) (p x : Operand)
    (ho : o.op = .call { callee := .builtin .append, args := #[p, x], argTypes := #[22, 22] })
    (base : Nat) (A0 : Option Addr) (c0 n : Nat) (bs : List UInt8) (hv : a.eval p = .slice A0 n c0) (hown : Ow w base A0 c0 n bs)
    (B : Nat) (A : Option Addr) (m c : Nat) (news : List UInt8) (hx : a.eval x = .slice A m c) (hr : Rd w B 1 A m (news.map bv)) (hb : n + m ≤ 70368744177664) (hbase : base ≤ w.heap.size)
    (h : ∀ A' c' w', Ow w' base A' c' (n + m) (bs ++ news) → Below base w w' → wpList Try.prog ops Q rest (a.put o.dst (.slice A' (n + m) c')) w') : wpList Try.prog ops Q (o :: rest) a w :=
  wpList_plain hgd fun _ hK => wp_app8h w p x ho base A0 c0 n bs hv hown B A m c news hx hr hb hbase fun A' c' w' h1 h2 => hK _ _ (h A' c' w' h1 h2)
theorem run_lit8 (z : UInt8) (w : World) : (Instr.buildSlice 22 1 #[(0, .int .u8 (z.toNat : Int))]).run Try.prog w = .ok (.slice (some ⟨w.heap.size, 0, none⟩) 1 1) (w.alloc (.cells #[.int .u8 (z.toNat : Int)] 5)) := by
  obtain ⟨i0, hi, hz0, hz1, hz2⟩ := info_parts u8info
  simp [Instr.buildSlice, run_underlying Try.underlying22, sizeOf, typeInfo, zeroValue, hi, hz0, hz1, newRow, Instr.fill]
  kernel_rfl
theorem anyd_lit8 {ops : Array Oper} {E : Prop} {o : Oper} {a : Act} {w : World} {K : Act → World → Prop} {Q : Exit → Act → World → Prop} (hwant : Region.wanted o (yielded ops a.tmps) = true) (x0 : Operand) (z : UInt8)
    (ho : o.op = .buildSlice 22 1 #[(0, x0)]) (hx : a.eval x0 = .int .u8 (z.toNat : Int))
    (h : ∀ V q, Rd V V.heap.size 1 (some ⟨q, 0, none⟩) 1 ([z].map bv) → Below w.heap.size w V → K (a.put o.dst (.slice (some ⟨q, 0, none⟩) 1 1)) V) :
    if Region.wanted o (yielded ops a.tmps) = true then Oper.wp Try.prog o a w K Q else E := by
  rw [if_pos hwant]
  unfold Oper.wp execOp
  simp only [ho, List.map_toArray, List.map_cons, List.map_nil, hx, Sem.run_bind, run_lit8, Result.andThen_ok]
  exact h _ _ ((rdOne w z).more (by simp)) ((Below.refl _ _).alloc (Nat.le_refl _) _)

set_option maxRecDepth 100000 in
set_option maxHeartbeats 4000000 in
theorem rFactB_any (p : UInt32) (A : Option Addr) (n c : Nat) (l : List UInt32) (w : World) (h : RdU w w.heap.size A n l) (hn : n ≤ 1000000) :
    Calls Try.prog 14 #[.agg #[nv p, .slice A n c]] w fun e w' => ∃ A' m c', e = .returned (.slice A' m c') ∧ Ow w' w.heap.size A' c' m (factB (p, l)) ∧ Below w.heap.size w w' := by
  have hl : l.length = n := rdU_len h
  obtain ⟨U, hU, hH, hbU⟩ : ∃ U, U = w.alloc (.cells #[nv p, .slice A n c] 26) ∧ Bk U w.heap.size 26 [nv p, .slice A n c] ∧ Below w.heap.size w U :=
    ⟨_, rfl, Bk.new w _ _, (Below.refl _ _).alloc (Nat.le_refl _) _⟩
  have HU := Lib.hid hU
  have HH := Lib.hid hH
  have HB := Lib.hid hbU
  have HR := Lib.hid (h.below hbU)
  have HL := Lib.hid hl
  have hp32 := n32_lt p
  have e0 : IntKind.u64.wrap (p.toNat : Int) = (p.toNat : Int) := by rw [IntKind.wrap_u64] <;> omega
  obtain ⟨z, hz⟩ : ∃ z, z = UInt8.ofNat n := ⟨_, rfl⟩
  have e1 : IntKind.u8.wrap (n : Int) = (z.toNat : Int) := by
    rw [hz, IntKind.wrap_u8]
    simp
  have HZ := Lib.hid hz
  clear hU hH hbU hz h hl
  go_enter Try.func14, Try.ntmps14
  go_upto_region 1 with (fail)
  rw [← HU.out]
  clear HU
  generalize hhb : w.heap.size = hb at HH HR HB ⊢
  rw [← hhb] at HB
  refine wp_region_held_drew (S := fun V => Below U.heap.size U V) (by kernel_rfl) ?_ (fun hHeld => ?_)
  · exact (Below.refl U.heap.size U).drew
  refine wpAnyH_take (i := 0) (oi := ?oid1) (v := ?vd1) ?hod1 (by kernel_rfl) ?hfd1 ?hrd1 ?hQd1 ?hyd1 hHeld ?restd1
  case hod1 => (simp only [List.getElem?_toArray, List.getElem?_cons_succ, List.getElem?_cons_zero]; exact rfl)
  case hfd1 => kernel_rfl
  case hrd1 => kernel_rfl
  case hQd1 => exact fun _ _ _ h => h
  case hyd1 =>
    refine Or.inl ⟨by rfl, ?_⟩
    intro V hSV
    go_simp
    (try with_reducible rfl)
  try simp only [Act.put, List.setIfInBounds_toArray, List.set_cons_zero, List.set_cons_succ]
  refine wpAnyH_take (i := 1) (oi := ?oid2) (v := ?vd2) ?hod2 (by kernel_rfl) ?hfd2 ?hrd2 ?hQd2 ?hyd2 hHeld ?restd2
  case hod2 => (simp only [List.getElem?_toArray, List.getElem?_cons_succ, List.getElem?_cons_zero]; exact rfl)
  case hfd2 => kernel_rfl
  case hrd2 => kernel_rfl
  case hQd2 => exact fun _ _ _ h => h
  case hyd2 =>
    refine Or.inl ⟨by rfl, ?_⟩
    intro V hSV
    have q := HH.out.readT hSV 0 rfl
    go_simp
    (try with_reducible rfl)
  try simp only [Act.put, List.setIfInBounds_toArray, List.set_cons_zero, List.set_cons_succ]
  refine wpAnyH_take (i := 2) (oi := ?oid3) (v := ?vd3) ?hod3 (by kernel_rfl) ?hfd3 ?hrd3 ?hQd3 ?hyd3 hHeld ?restd3
  case hod3 => (simp only [List.getElem?_toArray, List.getElem?_cons_succ, List.getElem?_cons_zero]; exact rfl)
  case hfd3 => kernel_rfl
  case hrd3 => kernel_rfl
  case hQd3 => exact fun _ _ _ h => h
  case hyd3 =>
    refine Or.inl ⟨by rfl, ?_⟩
    intro V hSV
    go_simp
    (try with_reducible rfl)
  try simp only [Act.put, List.setIfInBounds_toArray, List.set_cons_zero, List.set_cons_succ]
  refine wpAnyH_take (i := 4) (oi := ?oid4) (v := ?vd4) ?hod4 (by kernel_rfl) ?hfd4 ?hrd4 ?hQd4 ?hyd4 hHeld ?restd4
  case hod4 => (simp only [List.getElem?_toArray, List.getElem?_cons_succ, List.getElem?_cons_zero]; exact rfl)
  case hfd4 => kernel_rfl
  case hrd4 => kernel_rfl
  case hQd4 => exact fun _ _ _ h => h
  case hyd4 =>
    refine Or.inl ⟨by rfl, ?_⟩
    intro V hSV
    go_simp
    (try with_reducible rfl)
  try simp only [Act.put, List.setIfInBounds_toArray, List.set_cons_zero, List.set_cons_succ]
  refine wpAnyH_take (i := 5) (oi := ?oid5) (v := ?vd5) ?hod5 (by kernel_rfl) ?hfd5 ?hrd5 ?hQd5 ?hyd5 hHeld ?restd5
  case hod5 => (simp only [List.getElem?_toArray, List.getElem?_cons_succ, List.getElem?_cons_zero]; exact rfl)
  case hfd5 => kernel_rfl
  case hrd5 => kernel_rfl
  case hQd5 => exact fun _ _ _ h => h
  case hyd5 =>
    refine Or.inl ⟨by rfl, ?_⟩
    intro V hSV
    have q := HH.out.readT hSV 1 rfl
    go_simp
    (try with_reducible rfl)
  try simp only [Act.put, List.setIfInBounds_toArray, List.set_cons_zero, List.set_cons_succ]
  refine wpAnyH_take (i := 6) (oi := ?oid6) (v := ?vd6) ?hod6 (by kernel_rfl) ?hfd6 ?hrd6 ?hQd6 ?hyd6 hHeld ?restd6
  case hod6 => (simp only [List.getElem?_toArray, List.getElem?_cons_succ, List.getElem?_cons_zero]; exact rfl)
  case hfd6 => kernel_rfl
  case hrd6 => kernel_rfl
  case hQd6 => exact fun _ _ _ h => h
  case hyd6 =>
    refine Or.inl ⟨by rfl, ?_⟩
    intro V hSV
    go_simp
    (try with_reducible rfl)
  try simp only [Act.put, List.setIfInBounds_toArray, List.set_cons_zero, List.set_cons_succ]
  refine wpAnyH_take (i := 7) (oi := ?oid7) (v := ?vd7) ?hod7 (by kernel_rfl) ?hfd7 ?hrd7 ?hQd7 ?hyd7 hHeld ?restd7
  case hod7 => (simp only [List.getElem?_toArray, List.getElem?_cons_succ, List.getElem?_cons_zero]; exact rfl)
  case hfd7 => kernel_rfl
  case hrd7 => kernel_rfl
  case hQd7 => exact fun _ _ _ h => h
  case hyd7 =>
    refine Or.inl ⟨by rfl, ?_⟩
    intro V hSV
    go_simp
    (try with_reducible rfl)
  try simp only [Act.put, List.setIfInBounds_toArray, List.set_cons_zero, List.set_cons_succ]
  refine wpAnyH_ready (rs := [3, 8]) (by kernel_rfl) (by simp) ?_
  refine AllReadyH.cons (o := ?od8) ?hod8 (fun K hK => ?kd8) ?md8
  case hod8 => (simp only [List.getElem?_toArray, List.getElem?_cons_succ, List.getElem?_cons_zero]; exact rfl)
  case kd8 =>
    go_simp
    refine (rVar_any (p.toNat : Int) _ (by omega) (by omega)).mono ?_
    rintro e V3 ⟨A3, m3, c3, rfl, ho3, hb3⟩
    rw [Int.toNat_natCast] at ho3
    have ho3 := ownLower ho3 (show U.heap.size ≤ _ from Below.size (show Below U.heap.size U _ from hHeld))
    (try dsimp only)
    refine hK.out _ _ ?_ (fun hHeld => ?_)
    · exact Below.trans (show Below U.heap.size U _ from hHeld) (hb3.mono (Below.size (show Below U.heap.size U _ from hHeld)))
    clear hK K
    try simp only [Act.put, List.setIfInBounds_toArray, List.set_cons_zero, List.set_cons_succ]
    refine wpAnyH_ready (rs := [8]) (by kernel_rfl) (by simp) ?_
    refine AllReadyH.cons (o := ?od9) ?hod9 (fun K hK => ?kd9) ?md9
    case hod9 => (simp only [List.getElem?_toArray, List.getElem?_cons_succ, List.getElem?_cons_zero]; exact rfl)
    case kd9 =>
      refine anyd_lit8 (by rfl) (.tmp 12) z (by rfl) (by rfl) ?_
      intro V8 q8 hr8 hb8
      have ho3 := ownBelow ho3 hb8 (Nat.le_refl _)
      refine hK.out _ _ ?_ (fun hHeld => ?_)
      · exact Below.trans (show Below U.heap.size U _ from hHeld) (hb8.mono (Below.size (show Below U.heap.size U _ from hHeld)))
      clear hK K
      try simp only [Act.put, List.setIfInBounds_toArray, List.set_cons_zero, List.set_cons_succ]
      refine wpAnyH_ready (rs := [9]) (by kernel_rfl) (by simp) ?_
      refine AllReadyH.cons (o := ?od10) ?hod10 (fun K hK => ?kd10) ?md10
      case hod10 => (simp only [List.getElem?_toArray, List.getElem?_cons_succ, List.getElem?_cons_zero]; exact rfl)
      case kd10 =>
        refine anyd_app8h (by rfl) (.tmp 8) (.tmp 13) (by rfl) U.heap.size A3 c3 m3 _ (by rfl) ho3 _ _ 1 1 [z] (by rfl) hr8 (by have h1 := (var_len p.toNat).2; have h2 := Ow.len ho3; omega) (Below.size (show Below U.heap.size U _ from hHeld)) ?_
        intro A9 c9 V9 ho9 hb9
        refine hK.out _ _ ?_ (fun hHeld => ?_)
        · exact Below.trans (show Below U.heap.size U _ from hHeld) hb9
        clear hK K
        try simp only [Act.put, List.setIfInBounds_toArray, List.set_cons_zero, List.set_cons_succ]
        refine wpAnyH_take (i := 10) (oi := ?oid11) (v := ?vd11) ?hod11 (by kernel_rfl) ?hfd11 ?hrd11 ?hQd11 ?hyd11 hHeld ?restd11
        case hod11 => (simp only [List.getElem?_toArray, List.getElem?_cons_succ, List.getElem?_cons_zero]; exact rfl)
        case hfd11 => kernel_rfl
        case hrd11 => kernel_rfl
        case hQd11 => exact fun _ _ _ h => h
        case hyd11 =>
          refine Or.inl ⟨by rfl, ?_⟩
          intro V hSV
          go_simp
          (try with_reducible rfl)
        try simp only [Act.put, List.setIfInBounds_toArray, List.set_cons_zero, List.set_cons_succ]
        refine wpAnyH_done (by kernel_rfl) ?_ _
        have hv : Below U.heap.size U V9 := hHeld
        clear hHeld hr8 ho3 hb9
        try clear hb3
        try clear hb8
        have hm3 : m3 + 1 ≤ 100 := by have h1 := (var_len p.toNat).2; have h2 := Ow.len ho9; simp only [List.length_append, List.length_cons, List.length_nil] at h2; omega
        have HO9 := Lib.hid ho9
        have HV := Lib.hid hv
        clear ho9 hv
        repeat (first | go_skip | go_guarded | go_step)
        go_loopw [3, 4] (fun b' i' wr => ∃ (i : Nat) (A' : Option Addr) (m c' : Nat), i ≤ n ∧ b' = .slice A' m c' ∧ i' = .int .i64 (i : Int) ∧ Ow wr U.heap.size A' c' m (var p.toNat ++ [z] ++ (l.take i).flatMap u32B) ∧ m ≤ 100 + 10 * i ∧ Below U.heap.size U wr) (fun _ i _ => n - (intOf i).toNat)
        case atStart => exact ⟨0, A9, m3 + 1, c9, Nat.zero_le _, rfl, rfl, by simpa using HO9.out, by omega, HV.out⟩
        case round =>
          obtain ⟨i, A', m, c', hi, rfl, rfl, ho, hmi, hbr⟩ := hrel
          have HO := Lib.hid ho
          have HBR := Lib.hid hbr
          have hus := hbr.size
          have k1 := HH.out.readT hbr 1 rfl
          have k0 := HH.out.readT hbr 0 rfl
          by_cases hlt : i < n
          · have hci : (i : Int) < (n : Int) := by omega
            have hbu := HH.out.lt
            have hil : i < l.length := by rw [HL.out]; exact hlt
            obtain ⟨x, hx⟩ : ∃ x, x = l[i] := ⟨_, rfl⟩
            have htk : (l.take (i + 1)).flatMap u32B = (l.take i).flatMap u32B ++ u32B x := by
              rw [List.take_succ_eq_append_getElem hil, List.flatMap_append, hx]
              simp
            have HTK := Lib.hid htk
            obtain ⟨b, o, hA, hbb, hcl⟩ := (HR.out.below (hbr.mono (Nat.le_of_lt hbu))).2 (by omega)
            subst hA
            have hcx : wr.cell? ⟨b, o + i, none⟩ = some (nv x) := by rw [hx]; exact hcl i _ (by simp [List.getElem?_eq_getElem hil])
            have hx32 := n32_lt x
            have ex : IntKind.u64.wrap (x.toNat : Int) = (x.toNat : Int) := by rw [IntKind.wrap_u64] <;> omega
            clear hcl hbu
            clear ho hbr hx htk hil
            repeat (first | go_skip | go_guarded | go_step)
            refine (rVar_any (x.toNat : Int) _ (by omega) (by omega)).mono ?_
            rintro e V5 ⟨A5, m5, c5, rfl, ho5, hb5⟩
            rw [Int.toNat_natCast] at ho5
            have hm5 : m5 ≤ 10 := by have h1 := (var_len x.toNat).2; have h2 := Ow.len ho5; simp only [u32B] at *; omega
            have hur := Nat.le_trans hus hb5.size
            have HO5 := Lib.hid (ownBelow HO.out hb5 (Nat.le_refl _))
            have HB5 := Lib.hid (HBR.out.trans (hb5.mono hus))
            have HX5 := Lib.hid (Ow.rd ho5)
            clear ho5 hb5
            dsimp only
            repeat (first
              | (at_builtin; refine app8h _ rfl (.tmp 22) (.tmp 29) rfl U.heap.size A' c' m _ rfl HO5.out _ A5 m5 c5 (u32B x) rfl HX5.out (by omega) hur ?_
                 intro A6 c6 V6 ho6 hb6
                 have HO6 := Lib.hid ho6
                 have HB6 := Lib.hid (HB5.out.trans hb6)
                 clear ho6 hb6)
              | go_skip | go_guarded | go_step)
            go_roundw
            case rel => exact ⟨i + 1, A6, m + m5, c6, by omega, rfl, by go_num, by rw [HTK.out, ← List.append_assoc]; exact HO6.out, by omega, HB6.out⟩
            case measure => simp [intOf] <;> omega
          · obtain rfl : i = n := by omega
            have HFIN := Lib.hid ho
            clear ho hbr
            repeat (first | go_skip | go_guarded | go_step)
            go_ret
            refine ⟨A', m, c', rfl, ?_, HB.out.trans (HBR.out.mono HB.out.size)⟩
            have h := ownLower HFIN.out (show hb ≤ U.heap.size by have := HB.out.size; omega)
            rw [List.take_of_length_le (by have := HL.out; omega)] at h
            rw [hhb]
            have e : factB (p, l) = var p.toNat ++ [z] ++ l.flatMap u32B := by
              show var p.toNat ++ (UInt8.ofNat l.length :: l.flatMap u32B) = _
              rw [HL.out, ← HZ.out, List.append_assoc]
              rfl
            rw [e]
            exact h
      exact AllReadyH.nil
    exact AllReadyH.nil
  refine AllReadyH.cons (o := ?od12) ?hod12 (fun K hK => ?kd12) ?md12
  case hod12 => (simp only [List.getElem?_toArray, List.getElem?_cons_succ, List.getElem?_cons_zero]; exact rfl)
  case kd12 =>
    refine anyd_lit8 (by rfl) (.tmp 12) z (by rfl) (by rfl) ?_
    intro V8 q8 hr8 hb8
    refine hK.out _ _ ?_ (fun hHeld => ?_)
    · exact Below.trans (show Below U.heap.size U _ from hHeld) (hb8.mono (Below.size (show Below U.heap.size U _ from hHeld)))
    clear hK K
    try simp only [Act.put, List.setIfInBounds_toArray, List.set_cons_zero, List.set_cons_succ]
    refine wpAnyH_ready (rs := [3]) (by kernel_rfl) (by simp) ?_
    refine AllReadyH.cons (o := ?od13) ?hod13 (fun K hK => ?kd13) ?md13
    case hod13 => (simp only [List.getElem?_toArray, List.getElem?_cons_succ, List.getElem?_cons_zero]; exact rfl)
    case kd13 =>
      go_simp
      refine (rVar_any (p.toNat : Int) _ (by omega) (by omega)).mono ?_
      rintro e V3 ⟨A3, m3, c3, rfl, ho3, hb3⟩
      rw [Int.toNat_natCast] at ho3
      have ho3 := ownLower ho3 (show U.heap.size ≤ _ from Below.size (show Below U.heap.size U _ from hHeld))
      (try dsimp only)
      have hr8 := (hr8.below hb3).more hb3.size
      refine hK.out _ _ ?_ (fun hHeld => ?_)
      · exact Below.trans (show Below U.heap.size U _ from hHeld) (hb3.mono (Below.size (show Below U.heap.size U _ from hHeld)))
      clear hK K
      try simp only [Act.put, List.setIfInBounds_toArray, List.set_cons_zero, List.set_cons_succ]
      refine wpAnyH_ready (rs := [9]) (by kernel_rfl) (by simp) ?_
      refine AllReadyH.cons (o := ?od14) ?hod14 (fun K hK => ?kd14) ?md14
      case hod14 => (simp only [List.getElem?_toArray, List.getElem?_cons_succ, List.getElem?_cons_zero]; exact rfl)
      case kd14 =>
        refine anyd_app8h (by rfl) (.tmp 8) (.tmp 13) (by rfl) U.heap.size A3 c3 m3 _ (by rfl) ho3 _ _ 1 1 [z] (by rfl) hr8 (by have h1 := (var_len p.toNat).2; have h2 := Ow.len ho3; omega) (Below.size (show Below U.heap.size U _ from hHeld)) ?_
        intro A9 c9 V9 ho9 hb9
        refine hK.out _ _ ?_ (fun hHeld => ?_)
        · exact Below.trans (show Below U.heap.size U _ from hHeld) hb9
        clear hK K
        try simp only [Act.put, List.setIfInBounds_toArray, List.set_cons_zero, List.set_cons_succ]
        refine wpAnyH_take (i := 10) (oi := ?oid15) (v := ?vd15) ?hod15 (by kernel_rfl) ?hfd15 ?hrd15 ?hQd15 ?hyd15 hHeld ?restd15
        case hod15 => (simp only [List.getElem?_toArray, List.getElem?_cons_succ, List.getElem?_cons_zero]; exact rfl)
        case hfd15 => kernel_rfl
        case hrd15 => kernel_rfl
        case hQd15 => exact fun _ _ _ h => h
        case hyd15 =>
          refine Or.inl ⟨by rfl, ?_⟩
          intro V hSV
          go_simp
          (try with_reducible rfl)
        try simp only [Act.put, List.setIfInBounds_toArray, List.set_cons_zero, List.set_cons_succ]
        refine wpAnyH_done (by kernel_rfl) ?_ _
        have hv : Below U.heap.size U V9 := hHeld
        clear hHeld hr8 ho3 hb9
        try clear hb3
        try clear hb8
        have hm3 : m3 + 1 ≤ 100 := by have h1 := (var_len p.toNat).2; have h2 := Ow.len ho9; simp only [List.length_append, List.length_cons, List.length_nil] at h2; omega
        have HO9 := Lib.hid ho9
        have HV := Lib.hid hv
        clear ho9 hv
        repeat (first | go_skip | go_guarded | go_step)
        go_loopw [3, 4] (fun b' i' wr => ∃ (i : Nat) (A' : Option Addr) (m c' : Nat), i ≤ n ∧ b' = .slice A' m c' ∧ i' = .int .i64 (i : Int) ∧ Ow wr U.heap.size A' c' m (var p.toNat ++ [z] ++ (l.take i).flatMap u32B) ∧ m ≤ 100 + 10 * i ∧ Below U.heap.size U wr) (fun _ i _ => n - (intOf i).toNat)
        case atStart => exact ⟨0, A9, m3 + 1, c9, Nat.zero_le _, rfl, rfl, by simpa using HO9.out, by omega, HV.out⟩
        case round =>
          obtain ⟨i, A', m, c', hi, rfl, rfl, ho, hmi, hbr⟩ := hrel
          have HO := Lib.hid ho
          have HBR := Lib.hid hbr
          have hus := hbr.size
          have k1 := HH.out.readT hbr 1 rfl
          have k0 := HH.out.readT hbr 0 rfl
          by_cases hlt : i < n
          · have hci : (i : Int) < (n : Int) := by omega
            have hbu := HH.out.lt
            have hil : i < l.length := by rw [HL.out]; exact hlt
            obtain ⟨x, hx⟩ : ∃ x, x = l[i] := ⟨_, rfl⟩
            have htk : (l.take (i + 1)).flatMap u32B = (l.take i).flatMap u32B ++ u32B x := by
              rw [List.take_succ_eq_append_getElem hil, List.flatMap_append, hx]
              simp
            have HTK := Lib.hid htk
            obtain ⟨b, o, hA, hbb, hcl⟩ := (HR.out.below (hbr.mono (Nat.le_of_lt hbu))).2 (by omega)
            subst hA
            have hcx : wr.cell? ⟨b, o + i, none⟩ = some (nv x) := by rw [hx]; exact hcl i _ (by simp [List.getElem?_eq_getElem hil])
            have hx32 := n32_lt x
            have ex : IntKind.u64.wrap (x.toNat : Int) = (x.toNat : Int) := by rw [IntKind.wrap_u64] <;> omega
            clear hcl hbu
            clear ho hbr hx htk hil
            repeat (first | go_skip | go_guarded | go_step)
            refine (rVar_any (x.toNat : Int) _ (by omega) (by omega)).mono ?_
            rintro e V5 ⟨A5, m5, c5, rfl, ho5, hb5⟩
            rw [Int.toNat_natCast] at ho5
            have hm5 : m5 ≤ 10 := by have h1 := (var_len x.toNat).2; have h2 := Ow.len ho5; simp only [u32B] at *; omega
            have hur := Nat.le_trans hus hb5.size
            have HO5 := Lib.hid (ownBelow HO.out hb5 (Nat.le_refl _))
            have HB5 := Lib.hid (HBR.out.trans (hb5.mono hus))
            have HX5 := Lib.hid (Ow.rd ho5)
            clear ho5 hb5
            dsimp only
            repeat (first
              | (at_builtin; refine app8h _ rfl (.tmp 22) (.tmp 29) rfl U.heap.size A' c' m _ rfl HO5.out _ A5 m5 c5 (u32B x) rfl HX5.out (by omega) hur ?_
                 intro A6 c6 V6 ho6 hb6
                 have HO6 := Lib.hid ho6
                 have HB6 := Lib.hid (HB5.out.trans hb6)
                 clear ho6 hb6)
              | go_skip | go_guarded | go_step)
            go_roundw
            case rel => exact ⟨i + 1, A6, m + m5, c6, by omega, rfl, by go_num, by rw [HTK.out, ← List.append_assoc]; exact HO6.out, by omega, HB6.out⟩
            case measure => simp [intOf] <;> omega
          · obtain rfl : i = n := by omega
            have HFIN := Lib.hid ho
            clear ho hbr
            repeat (first | go_skip | go_guarded | go_step)
            go_ret
            refine ⟨A', m, c', rfl, ?_, HB.out.trans (HBR.out.mono HB.out.size)⟩
            have h := ownLower HFIN.out (show hb ≤ U.heap.size by have := HB.out.size; omega)
            rw [List.take_of_length_le (by have := HL.out; omega)] at h
            rw [hhb]
            have e : factB (p, l) = var p.toNat ++ [z] ++ l.flatMap u32B := by
              show var p.toNat ++ (UInt8.ofNat l.length :: l.flatMap u32B) = _
              rw [HL.out, ← HZ.out, List.append_assoc]
              rfl
            rw [e]
            exact h
      exact AllReadyH.nil
    exact AllReadyH.nil
  exact AllReadyH.nil


set_option maxRecDepth 100000 in
set_option maxHeartbeats 4000000 in
theorem rAtomB_any (p : UInt32) (A : Option Addr) (n c : Nat) (l : List Tm) (w : World) (h : RdT w w.heap.size A n l) (hn : n ≤ 1000000) :
    Calls Try.prog 48 #[.agg #[nv p, .slice A n c]] w fun e w' => ∃ A' m c', e = .returned (.slice A' m c') ∧ Ow w' w.heap.size A' c' m (atomB (p, l)) ∧ Below w.heap.size w w' := by
  have hl : l.length = n := rdT_len h
  obtain ⟨U, hU, hH, hbU⟩ : ∃ U, U = w.alloc (.cells #[nv p, .slice A n c] 42) ∧ Bk U w.heap.size 42 [nv p, .slice A n c] ∧ Below w.heap.size w U :=
    ⟨_, rfl, Bk.new w _ _, (Below.refl _ _).alloc (Nat.le_refl _) _⟩
  have HU := Lib.hid hU
  have HH := Lib.hid hH
  have HB := Lib.hid hbU
  have HR := Lib.hid (h.below hbU)
  have HL := Lib.hid hl
  have hp32 := n32_lt p
  have e0 : IntKind.u64.wrap (p.toNat : Int) = (p.toNat : Int) := by rw [IntKind.wrap_u64] <;> omega
  obtain ⟨z, hz⟩ : ∃ z, z = UInt8.ofNat n := ⟨_, rfl⟩
  have e1 : IntKind.u8.wrap (n : Int) = (z.toNat : Int) := by
    rw [hz, IntKind.wrap_u8]
    simp
  have HZ := Lib.hid hz
  clear hU hH hbU hz h hl
  go_enter Try.func48, Try.ntmps48
  go_upto_region 1 with (fail)
  rw [← HU.out]
  clear HU
  generalize hhb : w.heap.size = hb at HH HR HB ⊢
  rw [← hhb] at HB
  refine wp_region_held_drew (S := fun V => Below U.heap.size U V) (by kernel_rfl) ?_ (fun hHeld => ?_)
  · exact (Below.refl U.heap.size U).drew
  refine wpAnyH_take (i := 0) (oi := ?oid16) (v := ?vd16) ?hod16 (by kernel_rfl) ?hfd16 ?hrd16 ?hQd16 ?hyd16 hHeld ?restd16
  case hod16 => (simp only [List.getElem?_toArray, List.getElem?_cons_succ, List.getElem?_cons_zero]; exact rfl)
  case hfd16 => kernel_rfl
  case hrd16 => kernel_rfl
  case hQd16 => exact fun _ _ _ h => h
  case hyd16 =>
    refine Or.inl ⟨by rfl, ?_⟩
    intro V hSV
    go_simp
    (try with_reducible rfl)
  try simp only [Act.put, List.setIfInBounds_toArray, List.set_cons_zero, List.set_cons_succ]
  refine wpAnyH_take (i := 1) (oi := ?oid17) (v := ?vd17) ?hod17 (by kernel_rfl) ?hfd17 ?hrd17 ?hQd17 ?hyd17 hHeld ?restd17
  case hod17 => (simp only [List.getElem?_toArray, List.getElem?_cons_succ, List.getElem?_cons_zero]; exact rfl)
  case hfd17 => kernel_rfl
  case hrd17 => kernel_rfl
  case hQd17 => exact fun _ _ _ h => h
  case hyd17 =>
    refine Or.inl ⟨by rfl, ?_⟩
    intro V hSV
    have q := HH.out.readT hSV 0 rfl
    go_simp
    (try with_reducible rfl)
  try simp only [Act.put, List.setIfInBounds_toArray, List.set_cons_zero, List.set_cons_succ]
  refine wpAnyH_take (i := 2) (oi := ?oid18) (v := ?vd18) ?hod18 (by kernel_rfl) ?hfd18 ?hrd18 ?hQd18 ?hyd18 hHeld ?restd18
  case hod18 => (simp only [List.getElem?_toArray, List.getElem?_cons_succ, List.getElem?_cons_zero]; exact rfl)
  case hfd18 => kernel_rfl
  case hrd18 => kernel_rfl
  case hQd18 => exact fun _ _ _ h => h
  case hyd18 =>
    refine Or.inl ⟨by rfl, ?_⟩
    intro V hSV
    go_simp
    (try with_reducible rfl)
  try simp only [Act.put, List.setIfInBounds_toArray, List.set_cons_zero, List.set_cons_succ]
  refine wpAnyH_take (i := 4) (oi := ?oid19) (v := ?vd19) ?hod19 (by kernel_rfl) ?hfd19 ?hrd19 ?hQd19 ?hyd19 hHeld ?restd19
  case hod19 => (simp only [List.getElem?_toArray, List.getElem?_cons_succ, List.getElem?_cons_zero]; exact rfl)
  case hfd19 => kernel_rfl
  case hrd19 => kernel_rfl
  case hQd19 => exact fun _ _ _ h => h
  case hyd19 =>
    refine Or.inl ⟨by rfl, ?_⟩
    intro V hSV
    go_simp
    (try with_reducible rfl)
  try simp only [Act.put, List.setIfInBounds_toArray, List.set_cons_zero, List.set_cons_succ]
  refine wpAnyH_take (i := 5) (oi := ?oid20) (v := ?vd20) ?hod20 (by kernel_rfl) ?hfd20 ?hrd20 ?hQd20 ?hyd20 hHeld ?restd20
  case hod20 => (simp only [List.getElem?_toArray, List.getElem?_cons_succ, List.getElem?_cons_zero]; exact rfl)
  case hfd20 => kernel_rfl
  case hrd20 => kernel_rfl
  case hQd20 => exact fun _ _ _ h => h
  case hyd20 =>
    refine Or.inl ⟨by rfl, ?_⟩
    intro V hSV
    have q := HH.out.readT hSV 1 rfl
    go_simp
    (try with_reducible rfl)
  try simp only [Act.put, List.setIfInBounds_toArray, List.set_cons_zero, List.set_cons_succ]
  refine wpAnyH_take (i := 6) (oi := ?oid21) (v := ?vd21) ?hod21 (by kernel_rfl) ?hfd21 ?hrd21 ?hQd21 ?hyd21 hHeld ?restd21
  case hod21 => (simp only [List.getElem?_toArray, List.getElem?_cons_succ, List.getElem?_cons_zero]; exact rfl)
  case hfd21 => kernel_rfl
  case hrd21 => kernel_rfl
  case hQd21 => exact fun _ _ _ h => h
  case hyd21 =>
    refine Or.inl ⟨by rfl, ?_⟩
    intro V hSV
    go_simp
    (try with_reducible rfl)
  try simp only [Act.put, List.setIfInBounds_toArray, List.set_cons_zero, List.set_cons_succ]
  refine wpAnyH_take (i := 7) (oi := ?oid22) (v := ?vd22) ?hod22 (by kernel_rfl) ?hfd22 ?hrd22 ?hQd22 ?hyd22 hHeld ?restd22
  case hod22 => (simp only [List.getElem?_toArray, List.getElem?_cons_succ, List.getElem?_cons_zero]; exact rfl)
  case hfd22 => kernel_rfl
  case hrd22 => kernel_rfl
  case hQd22 => exact fun _ _ _ h => h
  case hyd22 =>
    refine Or.inl ⟨by rfl, ?_⟩
    intro V hSV
    go_simp
    (try with_reducible rfl)
  try simp only [Act.put, List.setIfInBounds_toArray, List.set_cons_zero, List.set_cons_succ]
  refine wpAnyH_ready (rs := [3, 8]) (by kernel_rfl) (by simp) ?_
  refine AllReadyH.cons (o := ?od23) ?hod23 (fun K hK => ?kd23) ?md23
  case hod23 => (simp only [List.getElem?_toArray, List.getElem?_cons_succ, List.getElem?_cons_zero]; exact rfl)
  case kd23 =>
    go_simp
    refine (rVar_any (p.toNat : Int) _ (by omega) (by omega)).mono ?_
    rintro e V3 ⟨A3, m3, c3, rfl, ho3, hb3⟩
    rw [Int.toNat_natCast] at ho3
    have ho3 := ownLower ho3 (show U.heap.size ≤ _ from Below.size (show Below U.heap.size U _ from hHeld))
    (try dsimp only)
    refine hK.out _ _ ?_ (fun hHeld => ?_)
    · exact Below.trans (show Below U.heap.size U _ from hHeld) (hb3.mono (Below.size (show Below U.heap.size U _ from hHeld)))
    clear hK K
    try simp only [Act.put, List.setIfInBounds_toArray, List.set_cons_zero, List.set_cons_succ]
    refine wpAnyH_ready (rs := [8]) (by kernel_rfl) (by simp) ?_
    refine AllReadyH.cons (o := ?od24) ?hod24 (fun K hK => ?kd24) ?md24
    case hod24 => (simp only [List.getElem?_toArray, List.getElem?_cons_succ, List.getElem?_cons_zero]; exact rfl)
    case kd24 =>
      refine anyd_lit8 (by rfl) (.tmp 12) z (by rfl) (by rfl) ?_
      intro V8 q8 hr8 hb8
      have ho3 := ownBelow ho3 hb8 (Nat.le_refl _)
      refine hK.out _ _ ?_ (fun hHeld => ?_)
      · exact Below.trans (show Below U.heap.size U _ from hHeld) (hb8.mono (Below.size (show Below U.heap.size U _ from hHeld)))
      clear hK K
      try simp only [Act.put, List.setIfInBounds_toArray, List.set_cons_zero, List.set_cons_succ]
      refine wpAnyH_ready (rs := [9]) (by kernel_rfl) (by simp) ?_
      refine AllReadyH.cons (o := ?od25) ?hod25 (fun K hK => ?kd25) ?md25
      case hod25 => (simp only [List.getElem?_toArray, List.getElem?_cons_succ, List.getElem?_cons_zero]; exact rfl)
      case kd25 =>
        refine anyd_app8h (by rfl) (.tmp 8) (.tmp 13) (by rfl) U.heap.size A3 c3 m3 _ (by rfl) ho3 _ _ 1 1 [z] (by rfl) hr8 (by have h1 := (var_len p.toNat).2; have h2 := Ow.len ho3; omega) (Below.size (show Below U.heap.size U _ from hHeld)) ?_
        intro A9 c9 V9 ho9 hb9
        refine hK.out _ _ ?_ (fun hHeld => ?_)
        · exact Below.trans (show Below U.heap.size U _ from hHeld) hb9
        clear hK K
        try simp only [Act.put, List.setIfInBounds_toArray, List.set_cons_zero, List.set_cons_succ]
        refine wpAnyH_take (i := 10) (oi := ?oid26) (v := ?vd26) ?hod26 (by kernel_rfl) ?hfd26 ?hrd26 ?hQd26 ?hyd26 hHeld ?restd26
        case hod26 => (simp only [List.getElem?_toArray, List.getElem?_cons_succ, List.getElem?_cons_zero]; exact rfl)
        case hfd26 => kernel_rfl
        case hrd26 => kernel_rfl
        case hQd26 => exact fun _ _ _ h => h
        case hyd26 =>
          refine Or.inl ⟨by rfl, ?_⟩
          intro V hSV
          go_simp
          (try with_reducible rfl)
        try simp only [Act.put, List.setIfInBounds_toArray, List.set_cons_zero, List.set_cons_succ]
        refine wpAnyH_done (by kernel_rfl) ?_ _
        have hv : Below U.heap.size U V9 := hHeld
        clear hHeld hr8 ho3 hb9
        try clear hb3
        try clear hb8
        have hm3 : m3 + 1 ≤ 100 := by have h1 := (var_len p.toNat).2; have h2 := Ow.len ho9; simp only [List.length_append, List.length_cons, List.length_nil] at h2; omega
        have HO9 := Lib.hid ho9
        have HV := Lib.hid hv
        clear ho9 hv
        repeat (first | go_skip | go_guarded | go_step)
        go_loopw [3, 4] (fun b' i' wr => ∃ (i : Nat) (A' : Option Addr) (m c' : Nat), i ≤ n ∧ b' = .slice A' m c' ∧ i' = .int .i64 (i : Int) ∧ Ow wr U.heap.size A' c' m (var p.toNat ++ [z] ++ (l.take i).flatMap termB) ∧ m ≤ 100 + 10 * i ∧ Below U.heap.size U wr) (fun _ i _ => n - (intOf i).toNat)
        case atStart => exact ⟨0, A9, m3 + 1, c9, Nat.zero_le _, rfl, rfl, by simpa using HO9.out, by omega, HV.out⟩
        case round =>
          obtain ⟨i, A', m, c', hi, rfl, rfl, ho, hmi, hbr⟩ := hrel
          have HO := Lib.hid ho
          have HBR := Lib.hid hbr
          have hus := hbr.size
          have k1 := HH.out.readT hbr 1 rfl
          have k0 := HH.out.readT hbr 0 rfl
          by_cases hlt : i < n
          · have hci : (i : Int) < (n : Int) := by omega
            have hbu := HH.out.lt
            have hil : i < l.length := by rw [HL.out]; exact hlt
            obtain ⟨x, hx⟩ : ∃ x, x = l[i] := ⟨_, rfl⟩
            have htk : (l.take (i + 1)).flatMap termB = (l.take i).flatMap termB ++ termB x := by
              rw [List.take_succ_eq_append_getElem hil, List.flatMap_append, hx]
              simp
            have HTK := Lib.hid htk
            obtain ⟨b, o, y, hA, hbb, hy, hc0, hc1⟩ := rdT_at (HR.out.below (hbr.mono (Nat.le_of_lt hbu))) hlt
            subst hA
            obtain rfl : x = y := by rw [List.getElem?_eq_getElem hil] at hy; rw [hx]; exact Option.some.inj hy
            clear hy hbu
            clear ho hbr hx htk hil
            repeat (first | go_skip | go_guarded | go_step)
            refine (rTermB_any x _).mono ?_
            rintro e V5 ⟨A5, m5, c5, rfl, ho5, hb5⟩
            skip
            have hm5 : m5 ≤ 10 := by have h1 := (termB_len x).2; have h2 := Ow.len ho5; omega
            have hur := Nat.le_trans hus hb5.size
            have HO5 := Lib.hid (ownBelow HO.out hb5 (Nat.le_refl _))
            have HB5 := Lib.hid (HBR.out.trans (hb5.mono hus))
            have HX5 := Lib.hid (Ow.rd ho5)
            clear ho5 hb5
            dsimp only
            repeat (first
              | (at_builtin; refine app8h _ rfl (.tmp 22) (.tmp 28) rfl U.heap.size A' c' m _ rfl HO5.out _ A5 m5 c5 (termB x) rfl HX5.out (by omega) hur ?_
                 intro A6 c6 V6 ho6 hb6
                 have HO6 := Lib.hid ho6
                 have HB6 := Lib.hid (HB5.out.trans hb6)
                 clear ho6 hb6)
              | go_skip | go_guarded | go_step)
            go_roundw
            case rel => exact ⟨i + 1, A6, m + m5, c6, by omega, rfl, by go_num, by rw [HTK.out, ← List.append_assoc]; exact HO6.out, by omega, HB6.out⟩
            case measure => simp [intOf] <;> omega
          · obtain rfl : i = n := by omega
            have HFIN := Lib.hid ho
            clear ho hbr
            repeat (first | go_skip | go_guarded | go_step)
            go_ret
            refine ⟨A', m, c', rfl, ?_, HB.out.trans (HBR.out.mono HB.out.size)⟩
            have h := ownLower HFIN.out (show hb ≤ U.heap.size by have := HB.out.size; omega)
            rw [List.take_of_length_le (by have := HL.out; omega)] at h
            rw [hhb]
            have e : atomB (p, l) = var p.toNat ++ [z] ++ l.flatMap termB := by
              show var p.toNat ++ (UInt8.ofNat l.length :: l.flatMap termB) = _
              rw [HL.out, ← HZ.out, List.append_assoc]
              rfl
            rw [e]
            exact h
      exact AllReadyH.nil
    exact AllReadyH.nil
  refine AllReadyH.cons (o := ?od27) ?hod27 (fun K hK => ?kd27) ?md27
  case hod27 => (simp only [List.getElem?_toArray, List.getElem?_cons_succ, List.getElem?_cons_zero]; exact rfl)
  case kd27 =>
    refine anyd_lit8 (by rfl) (.tmp 12) z (by rfl) (by rfl) ?_
    intro V8 q8 hr8 hb8
    refine hK.out _ _ ?_ (fun hHeld => ?_)
    · exact Below.trans (show Below U.heap.size U _ from hHeld) (hb8.mono (Below.size (show Below U.heap.size U _ from hHeld)))
    clear hK K
    try simp only [Act.put, List.setIfInBounds_toArray, List.set_cons_zero, List.set_cons_succ]
    refine wpAnyH_ready (rs := [3]) (by kernel_rfl) (by simp) ?_
    refine AllReadyH.cons (o := ?od28) ?hod28 (fun K hK => ?kd28) ?md28
    case hod28 => (simp only [List.getElem?_toArray, List.getElem?_cons_succ, List.getElem?_cons_zero]; exact rfl)
    case kd28 =>
      go_simp
      refine (rVar_any (p.toNat : Int) _ (by omega) (by omega)).mono ?_
      rintro e V3 ⟨A3, m3, c3, rfl, ho3, hb3⟩
      rw [Int.toNat_natCast] at ho3
      have ho3 := ownLower ho3 (show U.heap.size ≤ _ from Below.size (show Below U.heap.size U _ from hHeld))
      (try dsimp only)
      have hr8 := (hr8.below hb3).more hb3.size
      refine hK.out _ _ ?_ (fun hHeld => ?_)
      · exact Below.trans (show Below U.heap.size U _ from hHeld) (hb3.mono (Below.size (show Below U.heap.size U _ from hHeld)))
      clear hK K
      try simp only [Act.put, List.setIfInBounds_toArray, List.set_cons_zero, List.set_cons_succ]
      refine wpAnyH_ready (rs := [9]) (by kernel_rfl) (by simp) ?_
      refine AllReadyH.cons (o := ?od29) ?hod29 (fun K hK => ?kd29) ?md29
      case hod29 => (simp only [List.getElem?_toArray, List.getElem?_cons_succ, List.getElem?_cons_zero]; exact rfl)
      case kd29 =>
        refine anyd_app8h (by rfl) (.tmp 8) (.tmp 13) (by rfl) U.heap.size A3 c3 m3 _ (by rfl) ho3 _ _ 1 1 [z] (by rfl) hr8 (by have h1 := (var_len p.toNat).2; have h2 := Ow.len ho3; omega) (Below.size (show Below U.heap.size U _ from hHeld)) ?_
        intro A9 c9 V9 ho9 hb9
        refine hK.out _ _ ?_ (fun hHeld => ?_)
        · exact Below.trans (show Below U.heap.size U _ from hHeld) hb9
        clear hK K
        try simp only [Act.put, List.setIfInBounds_toArray, List.set_cons_zero, List.set_cons_succ]
        refine wpAnyH_take (i := 10) (oi := ?oid30) (v := ?vd30) ?hod30 (by kernel_rfl) ?hfd30 ?hrd30 ?hQd30 ?hyd30 hHeld ?restd30
        case hod30 => (simp only [List.getElem?_toArray, List.getElem?_cons_succ, List.getElem?_cons_zero]; exact rfl)
        case hfd30 => kernel_rfl
        case hrd30 => kernel_rfl
        case hQd30 => exact fun _ _ _ h => h
        case hyd30 =>
          refine Or.inl ⟨by rfl, ?_⟩
          intro V hSV
          go_simp
          (try with_reducible rfl)
        try simp only [Act.put, List.setIfInBounds_toArray, List.set_cons_zero, List.set_cons_succ]
        refine wpAnyH_done (by kernel_rfl) ?_ _
        have hv : Below U.heap.size U V9 := hHeld
        clear hHeld hr8 ho3 hb9
        try clear hb3
        try clear hb8
        have hm3 : m3 + 1 ≤ 100 := by have h1 := (var_len p.toNat).2; have h2 := Ow.len ho9; simp only [List.length_append, List.length_cons, List.length_nil] at h2; omega
        have HO9 := Lib.hid ho9
        have HV := Lib.hid hv
        clear ho9 hv
        repeat (first | go_skip | go_guarded | go_step)
        go_loopw [3, 4] (fun b' i' wr => ∃ (i : Nat) (A' : Option Addr) (m c' : Nat), i ≤ n ∧ b' = .slice A' m c' ∧ i' = .int .i64 (i : Int) ∧ Ow wr U.heap.size A' c' m (var p.toNat ++ [z] ++ (l.take i).flatMap termB) ∧ m ≤ 100 + 10 * i ∧ Below U.heap.size U wr) (fun _ i _ => n - (intOf i).toNat)
        case atStart => exact ⟨0, A9, m3 + 1, c9, Nat.zero_le _, rfl, rfl, by simpa using HO9.out, by omega, HV.out⟩
        case round =>
          obtain ⟨i, A', m, c', hi, rfl, rfl, ho, hmi, hbr⟩ := hrel
          have HO := Lib.hid ho
          have HBR := Lib.hid hbr
          have hus := hbr.size
          have k1 := HH.out.readT hbr 1 rfl
          have k0 := HH.out.readT hbr 0 rfl
          by_cases hlt : i < n
          · have hci : (i : Int) < (n : Int) := by omega
            have hbu := HH.out.lt
            have hil : i < l.length := by rw [HL.out]; exact hlt
            obtain ⟨x, hx⟩ : ∃ x, x = l[i] := ⟨_, rfl⟩
            have htk : (l.take (i + 1)).flatMap termB = (l.take i).flatMap termB ++ termB x := by
              rw [List.take_succ_eq_append_getElem hil, List.flatMap_append, hx]
              simp
            have HTK := Lib.hid htk
            obtain ⟨b, o, y, hA, hbb, hy, hc0, hc1⟩ := rdT_at (HR.out.below (hbr.mono (Nat.le_of_lt hbu))) hlt
            subst hA
            obtain rfl : x = y := by rw [List.getElem?_eq_getElem hil] at hy; rw [hx]; exact Option.some.inj hy
            clear hy hbu
            clear ho hbr hx htk hil
            repeat (first | go_skip | go_guarded | go_step)
            refine (rTermB_any x _).mono ?_
            rintro e V5 ⟨A5, m5, c5, rfl, ho5, hb5⟩
            skip
            have hm5 : m5 ≤ 10 := by have h1 := (termB_len x).2; have h2 := Ow.len ho5; omega
            have hur := Nat.le_trans hus hb5.size
            have HO5 := Lib.hid (ownBelow HO.out hb5 (Nat.le_refl _))
            have HB5 := Lib.hid (HBR.out.trans (hb5.mono hus))
            have HX5 := Lib.hid (Ow.rd ho5)
            clear ho5 hb5
            dsimp only
            repeat (first
              | (at_builtin; refine app8h _ rfl (.tmp 22) (.tmp 28) rfl U.heap.size A' c' m _ rfl HO5.out _ A5 m5 c5 (termB x) rfl HX5.out (by omega) hur ?_
                 intro A6 c6 V6 ho6 hb6
                 have HO6 := Lib.hid ho6
                 have HB6 := Lib.hid (HB5.out.trans hb6)
                 clear ho6 hb6)
              | go_skip | go_guarded | go_step)
            go_roundw
            case rel => exact ⟨i + 1, A6, m + m5, c6, by omega, rfl, by go_num, by rw [HTK.out, ← List.append_assoc]; exact HO6.out, by omega, HB6.out⟩
            case measure => simp [intOf] <;> omega
          · obtain rfl : i = n := by omega
            have HFIN := Lib.hid ho
            clear ho hbr
            repeat (first | go_skip | go_guarded | go_step)
            go_ret
            refine ⟨A', m, c', rfl, ?_, HB.out.trans (HBR.out.mono HB.out.size)⟩
            have h := ownLower HFIN.out (show hb ≤ U.heap.size by have := HB.out.size; omega)
            rw [List.take_of_length_le (by have := HL.out; omega)] at h
            rw [hhb]
            have e : atomB (p, l) = var p.toNat ++ [z] ++ l.flatMap termB := by
              show var p.toNat ++ (UInt8.ofNat l.length :: l.flatMap termB) = _
              rw [HL.out, ← HZ.out, List.append_assoc]
              rfl
            rw [e]
            exact h
      exact AllReadyH.nil
    exact AllReadyH.nil
  exact AllReadyH.nil

end Go.Proofs.Ytcoafgnbmgndeaa
