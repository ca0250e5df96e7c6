/- GraphTurned: turned round, and with an edge that is there already in effect. No condition. (Written by genGrVg.py.) -/
import Derived.Test.YtbfagejdpbagjaaGrVf
set_option linter.unusedVariables false
set_option linter.unusedSimpArgs false
namespace Go.Proofs.Ytbfagejdpbagjaa.graphTurned
open Go Go.RowKit Go.ChangeShapes Go.WideShapes Go.ChangeAt

theorem anyd_litE {ops : Array Oper} {E : Prop} {o : Oper} {a : Act} {w : World} {K : Act → World → Prop} {Q : Exit → Act → World → Prop} (hwant : Region.wanted o (yielded ops a.tmps) = true) (x0 : Operand)
    (ho : o.op = .buildSlice 22 1 #[(0, x0)]) (x y : Int) (hx0 : a.eval x0 = ag x y)
    (h : K (a.put o.dst (.slice (some ⟨w.heap.size, 0, none⟩) 1 1)) (w.alloc (.cells #[.int .i64 x, .int .i64 y] 31))) :
    if Region.wanted o (yielded ops a.tmps) = true then Oper.wp Try.prog o a w K Q else E := by
  rw [if_pos hwant]
  obtain ⟨i0, hi, hz0, hz1, hz2⟩ := info_parts arr2Info
  refine wp_buildSlice 22 31 1 _ ho #[.int .i64 x, .int .i64 y] i0 _ Try.underlying22 hi hz0 (by rw [hz1]; omega) (by rw [hz1]; omega) ?_ h
  rw [hz1]
  simp only [List.map_toArray, List.map_cons, List.map_nil, hx0, List.toList_toArray]
  kernel_rfl
theorem anyd_litS {ops : Array Oper} {E : Prop} {o : Oper} {a : Act} {w : World} {K : Act → World → Prop} {Q : Exit → Act → World → Prop} (hwant : Region.wanted o (yielded ops a.tmps) = true) (x0 : Operand)
    (ho : o.op = .buildSlice 25 1 #[(0, x0)]) (A : Option Addr) (n c : Nat) (hx0 : a.eval x0 = .slice A n c)
    (h : K (a.put o.dst (.slice (some ⟨w.heap.size, 0, none⟩) 1 1)) (w.alloc (.cells #[.slice A n c] 33))) :
    if Region.wanted o (yielded ops a.tmps) = true then Oper.wp Try.prog o a w K Q else E := by
  rw [if_pos hwant]
  obtain ⟨i0, hi, hz0, hz1, hz2⟩ := info_parts sliInfo
  refine wp_buildSlice 25 33 1 _ ho #[.slice A n c] i0 _ Try.underlying25 hi hz0 (by rw [hz1]; omega) (by rw [hz1]; omega) ?_ h
  rw [hz1]
  simp only [List.map_toArray, List.map_cons, List.map_nil, hx0, List.toList_toArray]
  kernel_rfl
theorem anyd_appE {ops : Array Oper} {E : Prop} {o : Oper} {a : Act} {K : Act → World → Prop} {Q : Exit → Act → World → Prop} {w : World} (hwant : Region.wanted o (yielded ops a.tmps) = true) (p x : Operand)
    (ho : o.op = .call { callee := .builtin .append, args := #[p, x], argTypes := #[22, 22] })
    (base : Nat) (A0 : Option Addr) (c0 n : Nat) (l : List (Int × Int)) (hv : a.eval p = .slice A0 n c0) (hown : OwE w base A0 c0 n l)
    (B : Nat) (A : Option Addr) (m c : Nat) (news : List (Int × Int)) (hx : a.eval x = .slice A m c) (hr : RdE w B A m news) (hb : n + m ≤ 1000000000000) (hbase : base ≤ w.heap.size)
    (h : ∀ A' c' w', OwE w' base A' c' (n + m) (l ++ news) → Turn (fun k => blockOf A0 = some k) w w' → (blockOf A' = blockOf A0 ∨ blockOf A' = some w.heap.size) → K (a.put o.dst (.slice A' (n + m) c')) w') : if Region.wanted o (yielded ops a.tmps) = true then Oper.wp Try.prog o a w K Q else E := by
  rw [if_pos hwant]
  obtain ⟨i0, hi, hz0, hz1, hz2⟩ := info_parts arr2Info
  refine wp_app w p x 22 ho base 31 i0 _ 2 16 Try.underlying22 hi hz0 hz1 hz2 rfl (by decide) _ n _ hv hown B A m c _ hx hr (ed_one news) (by simp only [maxLen]; omega) (by omega) hbase ?_
  intro A' c' w' h1 h2 h3
  rw [ownBlock_slice, ownBlock_slice] at h3
  exact h A' c' w' (by unfold OwE; rw [List.flatMap_append]; exact h1) (Turn.ofGrown h2 fun k hk => by rw [ownBlock_slice] at hk; exact hk) h3
theorem rev_snoc {E : List (Nat × Nat)} {i a b : Nat} (h : E[i]? = some (a, b)) : ei (rev (E.take (i + 1))) = ei (rev (E.take i)) ++ [((b : Int), (a : Int))] := by
  rw [List.take_add_one, h]
  unfold rev ei
  simp
/-- Two single rows, written out one after the other. -/
theorem pair_rdp (X : World) (gA cA gB cB : Nat) (pA pB : List Nat) (hA : gA < X.heap.size) (hB : gB < X.heap.size) (lA : pA.length ≤ cA) (lB : pB.length ≤ cB)
    (kA : ∀ j v, pA[j]? = some v → X.cell? ⟨gA, j, none⟩ = some (ni v)) (kB : ∀ j v, pB[j]? = some v → X.cell? ⟨gB, j, none⟩ = some (ni v)) (W1 W2 : World) (N : Nat) (hN : X.heap.size = N)
    (h1 : W1 = X.alloc (.cells #[.slice (some ⟨gA, 0, none⟩) pA.length cA] 33)) (h2 : W2 = W1.alloc (.cells #[.slice (some ⟨gB, 0, none⟩) pB.length cB] 33)) :
    RdP W2 W2.heap.size (some ⟨N, 0, none⟩) [pA] [(gA, cA)] ∧ RdP W2 W2.heap.size (some ⟨N + 1, 0, none⟩) [pB] [(gB, cB)] := by
  have hN1 : N + 1 = W1.heap.size := by rw [← hN, h1]; exact alloc_sz _ _
  rw [hN1]
  subst hN
  have b1 : Bk W1 X.heap.size 33 [.slice (some ⟨gA, 0, none⟩) pA.length cA] := h1 ▸ Bk.new X _ _
  have b2 : Bk W2 W1.heap.size 33 [.slice (some ⟨gB, 0, none⟩) pB.length cB] := h2 ▸ Bk.new W1 _ _
  have b1' : Bk W2 X.heap.size 33 [.slice (some ⟨gA, 0, none⟩) pA.length cA] := by rw [h2]; exact Bk.alloc b1 _
  have q1 : Below X.heap.size X W1 := by rw [h1]; exact (Below.refl X.heap.size X).alloc (Nat.le_refl _) _
  have q2 : Below X.heap.size X W2 := by rw [h2]; exact q1.alloc q1.size _
  have hs := q2.size
  refine ⟨⟨rfl, b1'.rd 1 (by simp), fun i r p hr hp => ?_⟩, ⟨rfl, b2.rd 1 (by simp), fun i r p hr hp => ?_⟩⟩
  · cases i with
    | zero => cases hr; cases hp; exact ⟨by show gA < _; omega, lA, fun j v hv => (q2.cell (p := ⟨gA, j, none⟩) hA).trans (kA j v hv)⟩
    | succ i => simp at hr
  · cases i with
    | zero => cases hr; cases hp; exact ⟨by show gB < _; omega, lB, fun j v hv => (q2.cell (p := ⟨gB, j, none⟩) hB).trans (kB j v hv)⟩
    | succ i => simp at hr
set_option maxRecDepth 100000 in
set_option maxHeartbeats 1000000 in
theorem walkNot (n : Int) (A : Option Addr) (ne c : Nat) (E0 : List (Int × Int)) (a b : Nat) (w : World) (hr : RdE w w.heap.size A ne E0) (hg : rightB n ne E0 = false) :
    Calls Try.prog 5 #[.int .i64 n, .slice A ne c, .int .u8 (a : Int), .int .u8 (b : Int)] w fun e w' => e = .returned (.bool true) ∧ Below w.heap.size w w' := by
  have hright := right_any n A ne c E0 w hr
  rw [hg] at hright
  clear hr hg
  go_enter Try.func5, Try.ntmps5
  repeat (first | go_skip | go_guarded | go_step)
  refine hright.mono ?_
  rintro e w1 ⟨rfl, rfl⟩
  clear hright
  dsimp only
  repeat (first | go_skip | go_guarded | go_step)
  refine (works_any _).mono ?_
  rintro e wz ⟨rfl, hbz⟩
  have HBZ := Lib.hid hbz
  clear hbz
  dsimp only
  repeat (first | go_skip | go_guarded | go_step)
  go_ret
  exact ⟨rfl, HBZ.out⟩
set_option maxRecDepth 100000 in
set_option maxHeartbeats 1000000 in
theorem walkNone (E : List (Nat × Nat)) (A : Option Addr) (ne c : Nat) (a b : Nat) (w : World) (hr : RdE w w.heap.size A ne (ei E)) (hE : In 0 E) (hne : ne ≤ 300) :
    Calls Try.prog 5 #[.int .i64 0, .slice A ne c, .int .u8 (a : Int), .int .u8 (b : Int)] w fun e w' => e = .returned (.bool true) ∧ Below w.heap.size w w' := by
  have hright := right_ok 0 E A ne c w hr hE (by omega) hne
  clear hr hE
  go_enter Try.func5, Try.ntmps5
  repeat (first | go_skip | go_guarded | go_step)
  refine hright.mono ?_
  rintro e w1 ⟨rfl, rfl⟩
  clear hright
  dsimp only
  repeat (first | go_skip | go_guarded | go_step)
  refine (works_any _).mono ?_
  rintro e wz ⟨rfl, hbz⟩
  have HBZ := Lib.hid hbz
  clear hbz
  dsimp only
  repeat (first | go_skip | go_guarded | go_step)
  go_ret
  exact ⟨rfl, HBZ.out⟩
set_option maxRecDepth 100000 in
set_option maxHeartbeats 1200000 in
theorem walk (k : Nat) (E : List (Nat × Nat)) (A : Option Addr) (ne c : Nat) (a b : Nat) (w : World) (hr : RdE w w.heap.size A ne (ei E)) (hE : In k E) (hk : k ≤ 60) (hk0 : 0 < k) (hne : ne ≤ 300) (ha : a ≤ 255) (hb : b ≤ 255) :
    Calls Try.prog 5 #[ni k, .slice A ne c, .int .u8 (a : Int), .int .u8 (b : Int)] w fun e w' => e = .returned (.bool true) ∧ Below w.heap.size w w' := by
  have hright := right_ok k E A ne c w hr hE hk hne
  have hlen : E.length = ne := by rw [← ei_len]; exact hr.len
  have HR := Lib.hid hr
  have HE := Lib.hid hE
  have HLE := Lib.hid hlen
  have hkz : ¬ (k : Int) = 0 := by omega
  have hkz2 : ((k : Int) == 0) = false := by simp; omega
  have hwa : IntKind.i64.wrap (a : Int) = (a : Int) := by rw [IntKind.wrap_i64]; omega
  have hwb : IntKind.i64.wrap (b : Int) = (b : Int) := by rw [IntKind.wrap_i64]; omega
  obtain ⟨u, hu⟩ : ∃ u : Nat, u = a % k := ⟨_, rfl⟩
  have htu : Int.tmod (a : Int) (k : Int) = (u : Int) := by rw [Int.tmod_eq_emod_of_nonneg (by omega), hu]; simp
  have huk : u < k := by rw [hu]; exact Nat.mod_lt _ hk0
  have hwu : IntKind.i64.wrap (u : Int) = (u : Int) := by rw [IntKind.wrap_i64]; omega
  clear hr hE hu hlen
  go_enter Try.func5, Try.ntmps5
  repeat (first | go_skip | go_guarded | go_step)
  refine hright.mono ?_
  rintro e w1 ⟨rfl, rfl⟩
  clear hright
  dsimp only
  repeat (first | go_skip | go_guarded | go_step)
  go_loopw [9, 10] (fun tv q wr => ∃ (i : Nat) (At : Option Addr) (ct : Nat), i ≤ ne ∧ tv = .slice At i ct ∧ q = .int .i64 (i : Int) ∧ OwE wr w1.heap.size At ct i (ei (rev (E.take i))) ∧ Below w1.heap.size w1 wr) (fun _ q _ => ne - (intOf q).toNat)
  case atStart => exact ⟨0, none, 0, by omega, rfl, rfl, World.ownsRow_nil _ _ _ _, Below.refl _ _⟩
  case round =>
    rename World => wr
    obtain ⟨i, At, ct, hi, rfl, rfl, how, hbw⟩ := hrel
    have HOW := Lib.hid how
    have HBW := Lib.hid hbw
    clear how hbw
    by_cases hlt : i < ne
    · have hii : (i : Int) < (ne : Int) := by omega
      obtain ⟨be, oe, ed, hA, hbe, he, hc0, hc1⟩ := HR.out.at_ hlt
      subst hA
      obtain ⟨⟨p, q⟩, hx, rfl⟩ := ei_at he
      obtain ⟨hp, hq⟩ := HE.out _ (List.mem_of_getElem? hx)
      dsimp only at hp hq hc0 hc1
      have HX := Lib.hid (rev_snoc hx)
      have HE01 := Lib.hid (show ∀ V, Turn (fun x => blockOf At = some x) wr V → V.cell? ⟨be, oe + i * 2, none⟩ = some (.int .i64 (p : Int)) ∧ V.cell? ⟨be, oe + i * 2 + 1, none⟩ = some (.int .i64 (q : Int)) from fun V hV => by
        have hn : ¬ blockOf At = some be := fun e => by have := (owE_low HOW.out e).1; omega
        have hl : be < wr.heap.size := Nat.lt_of_lt_of_le hbe HBW.out.size
        exact ⟨(hV.cell (p := ⟨be, oe + i * 2, none⟩) hl hn).trans ((HBW.out.cell (p := ⟨be, oe + i * 2, none⟩) hbe).trans hc0), (hV.cell (p := ⟨be, oe + i * 2 + 1, none⟩) hl hn).trans ((HBW.out.cell (p := ⟨be, oe + i * 2 + 1, none⟩) hbe).trans hc1)⟩)
      have hZ0 : Below wr.heap.size wr (wr.drew.alloc (.cells #[.int .i64 (q : Int), .int .i64 (p : Int)] 31)) := ((Below.refl wr.heap.size wr).drew).alloc (Nat.le_refl _) _
      have HO1 := Lib.hid (HOW.out.later hZ0)
      have HBZ := Lib.hid (HBW.out.trans (hZ0.mono HBW.out.size))
      clear hZ0 hx he hc0 hc1 hbe
      go_upto_region 7 with (fail)
      refine wp_region_held_drew (S := fun V => Turn (fun x => blockOf At = some x) wr V) (by kernel_rfl) ?_ (fun hHeld => ?_)
      · exact (Turn.refl _ wr).drew
      refine wpAnyH_take (i := 0) (oi := ?oid1) (v := ?vd1) ?hod1 (by kernel_rfl) ?hfd1 ?hrd1 ?hQd1 ?hyd1 hHeld ?restd1
      case hod1 => (simp only [List.getElem?_toArray, List.getElem?_cons_succ, List.getElem?_cons_zero]; exact rfl)
      case hfd1 => kernel_rfl
      case hrd1 => kernel_rfl
      case hQd1 => exact fun _ _ _ h => h
      case hyd1 =>
        refine Or.inl ⟨by rfl, ?_⟩
        intro V hSV
        go_simp
        (try with_reducible rfl)
      try simp only [Act.put, List.setIfInBounds_toArray, List.set_cons_zero, List.set_cons_succ]
      refine wpAnyH_take (i := 1) (oi := ?oid2) (v := ?vd2) ?hod2 (by kernel_rfl) ?hfd2 ?hrd2 ?hQd2 ?hyd2 hHeld ?restd2
      case hod2 => (simp only [List.getElem?_toArray, List.getElem?_cons_succ, List.getElem?_cons_zero]; exact rfl)
      case hfd2 => kernel_rfl
      case hrd2 => kernel_rfl
      case hQd2 => exact fun _ _ _ h => h
      case hyd2 =>
        refine Or.inl ⟨by rfl, ?_⟩
        intro V hSV
        go_simp
        (try with_reducible rfl)
      try simp only [Act.put, List.setIfInBounds_toArray, List.set_cons_zero, List.set_cons_succ]
      refine wpAnyH_take (i := 2) (oi := ?oid3) (v := ?vd3) ?hod3 (by kernel_rfl) ?hfd3 ?hrd3 ?hQd3 ?hyd3 hHeld ?restd3
      case hod3 => (simp only [List.getElem?_toArray, List.getElem?_cons_succ, List.getElem?_cons_zero]; exact rfl)
      case hfd3 => kernel_rfl
      case hrd3 => kernel_rfl
      case hQd3 => exact fun _ _ _ h => h
      case hyd3 =>
        refine Or.inl ⟨by rfl, ?_⟩
        intro V hSV
        go_simp
        (try with_reducible rfl)
      try simp only [Act.put, List.setIfInBounds_toArray, List.set_cons_zero, List.set_cons_succ]
      refine wpAnyH_take (i := 3) (oi := ?oid4) (v := ?vd4) ?hod4 (by kernel_rfl) ?hfd4 ?hrd4 ?hQd4 ?hyd4 hHeld ?restd4
      case hod4 => (simp only [List.getElem?_toArray, List.getElem?_cons_succ, List.getElem?_cons_zero]; exact rfl)
      case hfd4 => kernel_rfl
      case hrd4 => kernel_rfl
      case hQd4 => exact fun _ _ _ h => h
      case hyd4 =>
        refine Or.inl ⟨by rfl, ?_⟩
        intro V hSV
        go_simp
        (try with_reducible rfl)
      try simp only [Act.put, List.setIfInBounds_toArray, List.set_cons_zero, List.set_cons_succ]
      refine wpAnyH_take (i := 4) (oi := ?oid5) (v := ?vd5) ?hod5 (by kernel_rfl) ?hfd5 ?hrd5 ?hQd5 ?hyd5 hHeld ?restd5
      case hod5 => (simp only [List.getElem?_toArray, List.getElem?_cons_succ, List.getElem?_cons_zero]; exact rfl)
      case hfd5 => kernel_rfl
      case hrd5 => kernel_rfl
      case hQd5 => exact fun _ _ _ h => h
      case hyd5 =>
        refine Or.inl ⟨by rfl, ?_⟩
        intro V hSV
        go_simp
        (try with_reducible rfl)
      try simp only [Act.put, List.setIfInBounds_toArray, List.set_cons_zero, List.set_cons_succ]
      refine wpAnyH_take (i := 5) (oi := ?oid6) (v := ?vd6) ?hod6 (by kernel_rfl) ?hfd6 ?hrd6 ?hQd6 ?hyd6 hHeld ?restd6
      case hod6 => (simp only [List.getElem?_toArray, List.getElem?_cons_succ, List.getElem?_cons_zero]; exact rfl)
      case hfd6 => kernel_rfl
      case hrd6 => kernel_rfl
      case hQd6 => exact fun _ _ _ h => h
      case hyd6 =>
        refine Or.inl ⟨by rfl, ?_⟩
        intro V hSV
        have q := (HE01.out V hSV).2
        go_simp
        (try with_reducible rfl)
      try simp only [Act.put, List.setIfInBounds_toArray, List.set_cons_zero, List.set_cons_succ]
      refine wpAnyH_take (i := 6) (oi := ?oid7) (v := ?vd7) ?hod7 (by kernel_rfl) ?hfd7 ?hrd7 ?hQd7 ?hyd7 hHeld ?restd7
      case hod7 => (simp only [List.getElem?_toArray, List.getElem?_cons_succ, List.getElem?_cons_zero]; exact rfl)
      case hfd7 => kernel_rfl
      case hrd7 => kernel_rfl
      case hQd7 => exact fun _ _ _ h => h
      case hyd7 =>
        refine Or.inl ⟨by rfl, ?_⟩
        intro V hSV
        go_simp
        (try with_reducible rfl)
      try simp only [Act.put, List.setIfInBounds_toArray, List.set_cons_zero, List.set_cons_succ]
      refine wpAnyH_take (i := 7) (oi := ?oid8) (v := ?vd8) ?hod8 (by kernel_rfl) ?hfd8 ?hrd8 ?hQd8 ?hyd8 hHeld ?restd8
      case hod8 => (simp only [List.getElem?_toArray, List.getElem?_cons_succ, List.getElem?_cons_zero]; exact rfl)
      case hfd8 => kernel_rfl
      case hrd8 => kernel_rfl
      case hQd8 => exact fun _ _ _ h => h
      case hyd8 =>
        refine Or.inl ⟨by rfl, ?_⟩
        intro V hSV
        go_simp
        (try with_reducible rfl)
      try simp only [Act.put, List.setIfInBounds_toArray, List.set_cons_zero, List.set_cons_succ]
      refine wpAnyH_take (i := 8) (oi := ?oid9) (v := ?vd9) ?hod9 (by kernel_rfl) ?hfd9 ?hrd9 ?hQd9 ?hyd9 hHeld ?restd9
      case hod9 => (simp only [List.getElem?_toArray, List.getElem?_cons_succ, List.getElem?_cons_zero]; exact rfl)
      case hfd9 => kernel_rfl
      case hrd9 => kernel_rfl
      case hQd9 => exact fun _ _ _ h => h
      case hyd9 =>
        refine Or.inl ⟨by rfl, ?_⟩
        intro V hSV
        go_simp
        (try with_reducible rfl)
      try simp only [Act.put, List.setIfInBounds_toArray, List.set_cons_zero, List.set_cons_succ]
      refine wpAnyH_take (i := 9) (oi := ?oid10) (v := ?vd10) ?hod10 (by kernel_rfl) ?hfd10 ?hrd10 ?hQd10 ?hyd10 hHeld ?restd10
      case hod10 => (simp only [List.getElem?_toArray, List.getElem?_cons_succ, List.getElem?_cons_zero]; exact rfl)
      case hfd10 => kernel_rfl
      case hrd10 => kernel_rfl
      case hQd10 => exact fun _ _ _ h => h
      case hyd10 =>
        refine Or.inl ⟨by rfl, ?_⟩
        intro V hSV
        go_simp
        (try with_reducible rfl)
      try simp only [Act.put, List.setIfInBounds_toArray, List.set_cons_zero, List.set_cons_succ]
      refine wpAnyH_take (i := 10) (oi := ?oid11) (v := ?vd11) ?hod11 (by kernel_rfl) ?hfd11 ?hrd11 ?hQd11 ?hyd11 hHeld ?restd11
      case hod11 => (simp only [List.getElem?_toArray, List.getElem?_cons_succ, List.getElem?_cons_zero]; exact rfl)
      case hfd11 => kernel_rfl
      case hrd11 => kernel_rfl
      case hQd11 => exact fun _ _ _ h => h
      case hyd11 =>
        refine Or.inl ⟨by rfl, ?_⟩
        intro V hSV
        have q := (HE01.out V hSV).1
        go_simp
        (try with_reducible rfl)
      try simp only [Act.put, List.setIfInBounds_toArray, List.set_cons_zero, List.set_cons_succ]
      refine wpAnyH_take (i := 11) (oi := ?oid12) (v := ag (q : Int) (p : Int)) ?hod12 (by kernel_rfl) ?hfd12 ?hrd12 ?hQd12 ?hyd12 hHeld ?restd12
      case hod12 => (simp only [List.getElem?_toArray, List.getElem?_cons_succ, List.getElem?_cons_zero]; exact rfl)
      case hfd12 => kernel_rfl
      case hrd12 => kernel_rfl
      case hQd12 => exact fun _ _ _ h => h
      case hyd12 =>
        refine Or.inl ⟨by rfl, ?_⟩
        intro V hSV
        go_simp
        (try with_reducible rfl)
      try simp only [Act.put, List.setIfInBounds_toArray, List.set_cons_zero, List.set_cons_succ]
      refine wpAnyH_ready (rs := [12]) (by kernel_rfl) (by simp) ?_
      refine AllReadyH.cons (o := ?od13) ?hod13 (fun K hK => ?kd13) ?md13
      case hod13 => (simp only [List.getElem?_toArray, List.getElem?_cons_succ, List.getElem?_cons_zero]; exact rfl)
      case kd13 =>
        refine anyd_litE (by rfl) (.tmp 49) rfl (q : Int) (p : Int) (by rfl) ?_
        refine hK.out _ _ ?_ (fun hHeld => ?_)
        · exact Turn.alloc hHeld _
        clear hK K
        try simp only [Act.put, List.setIfInBounds_toArray, List.set_cons_zero, List.set_cons_succ]
        refine wpAnyH_ready (rs := [13]) (by kernel_rfl) (by simp) ?_
        refine AllReadyH.cons (o := ?od14) ?hod14 (fun K hK => ?kd14) ?md14
        case hod14 => (simp only [List.getElem?_toArray, List.getElem?_cons_succ, List.getElem?_cons_zero]; exact rfl)
        case kd14 =>
          refine anyd_appE (by rfl) (.tmp 38) (.tmp 50) rfl w1.heap.size At ct i (ei (rev (E.take i))) (by rfl) HO1.out _ _ 1 1 [((q : Int), (p : Int))] (by rfl) (litE_rd [((q : Int), (p : Int))] wr.drew) (by omega) HBZ.out.size ?_
          intro A3 c3 Z hoZ htZ hfZ
          have HOZ := Lib.hid hoZ
          have HB9 := Lib.hid (HBZ.out.trans (htZ.below (B := w1.heap.size) (fun y _ e => (owE_low HO1.out e).1) HBZ.out.size))
          refine hK.out _ _ ?_ (fun hHeld => ?_)
          · exact Turn.trans hHeld htZ
          clear hK K
          try simp only [Act.put, List.setIfInBounds_toArray, List.set_cons_zero, List.set_cons_succ]
          refine wpAnyH_take (i := 14) (oi := ?oid15) (v := ?vd15) ?hod15 (by kernel_rfl) ?hfd15 ?hrd15 ?hQd15 ?hyd15 hHeld ?restd15
          case hod15 => (simp only [List.getElem?_toArray, List.getElem?_cons_succ, List.getElem?_cons_zero]; exact rfl)
          case hfd15 => kernel_rfl
          case hrd15 => kernel_rfl
          case hQd15 => exact fun _ _ _ h => h
          case hyd15 =>
            refine Or.inl ⟨by rfl, ?_⟩
            intro V hSV
            go_simp
            (try with_reducible rfl)
          try simp only [Act.put, List.setIfInBounds_toArray, List.set_cons_zero, List.set_cons_succ]
          refine wpAnyH_done (by kernel_rfl) ?_ _
          repeat (first | go_skip | go_guarded | go_step)
          go_roundw
          case rel => exact ⟨i + 1, A3, c3, by omega, rfl, by go_num, by rw [HX.out]; exact HOZ.out, HB9.out⟩
          case measure => simp [intOf]; omega
        exact AllReadyH.nil
      exact AllReadyH.nil
    · obtain rfl : ne = i := by omega
      have hii : ¬ (ne : Int) < (ne : Int) := by omega
      have hfull : E.take ne = E := List.take_of_length_le (by rw [HLE.out]; exact Nat.le_refl _)
      have HOT := Lib.hid (show OwE wr w1.heap.size At ct ne (ei (rev E)) by have := HOW.out; rwa [hfull] at this)
      have hrl : (rev E).length = ne := by unfold rev; rw [List.length_map]; exact HLE.out
      clear hfull HOW
      repeat (first | go_skip | go_guarded | go_step)
      refine (parts_nat k E A ne c wr ((HR.out.below HBW.out).more HBW.out.size) (by omega) HE.out (by have := HLE.out; omega)).mono ?_
      rintro e w3 ⟨A1, c1, L1, R1, rfl, hr1, ho1, hl1, hb1⟩
      have HR1 := Lib.hid hr1
      have HO1 := Lib.hid ho1
      have HI1 := Lib.hid (ho1.isParts HE.out)
      have HB13 := Lib.hid (HBW.out.trans (hb1.mono HBW.out.size))
      have HC1 := Lib.hid (order_cls ho1)
      have HRT := Lib.hid ((HOT.out.rd.below hb1).more hb1.size)
      obtain ⟨m1, hm1⟩ : ∃ m1, m1 = L1.length := ⟨_, rfl⟩
      rw [← hm1] at hl1 ⊢
      have HM1 := Lib.hid hm1
      clear hr1 ho1 hb1 hm1
      dsimp only
      repeat (first | go_skip | go_guarded | go_step)
      refine (parts_nat k (rev E) At ne ct w3 HRT.out (by omega) (in_rev HE.out) (by omega)).mono ?_
      rintro e w4 ⟨A2, c2, L2, R2, rfl, hr2, ho2, hl2, hb2⟩
      have HR2 := Lib.hid hr2
      have HI2 := Lib.hid (ho2.isParts (in_rev HE.out))
      have HC2 := Lib.hid (order_cls ho2)
      have HB34 := Lib.hid hb2
      have HR1b := Lib.hid ((HR1.out.below hb2).more hb2.size)
      have HB14 := Lib.hid (HB13.out.trans (hb2.mono HB13.out.size))
      obtain ⟨m2, hm2⟩ : ∃ m2, m2 = L2.length := ⟨_, rfl⟩
      have hmm : m1 = m2 := by
        rw [HM1.out, hm2]
        exact Nat.le_antisymm (HI2.out.le_of HI1.out fun x y _ _ h => both_rev.1 h) (HI1.out.le_of HI2.out fun x y _ _ h => both_rev.2 h)
      rw [← hm2] at hl2 ⊢
      have HM2 := Lib.hid hm2
      have hnn : ((m2 : Int) != (m2 : Int)) = false := by simp
      clear hr2 ho2 hb2 hm2
      obtain rfl : m2 = m1 := hmm.symm
      clear hmm
      dsimp only
      repeat (first | go_skip | go_guarded | go_step)
      go_loopw [15] (fun q w5 => ∃ i : Nat, i ≤ m2 ∧ q = .int .i64 (i : Int) ∧ Below w4.heap.size w4 w5) (fun q _ => m2 - (intOf q).toNat)
      case atStart => exact ⟨0, by omega, rfl, Below.refl _ _⟩
      case round =>
        rename World => w5
        obtain ⟨i, hi2, rfl, hbw⟩ := hrel
        have HB5 := Lib.hid hbw
        clear hbw
        by_cases hlti : i < m2
        · have hii2 : (i : Int) < (m2 : Int) := by omega
          obtain ⟨ba, oa, ra, pa, hA1, hba, _, hpa, hca, hra, hla, hcea⟩ := HR1b.out.at_ (i := i) (by rw [← HM1.out]; exact hlti)
          subst hA1
          have hpa0 : pa ≠ [] := HI1.out.ne (List.mem_of_getElem? hpa)
          obtain ⟨y, py, hpy⟩ := List.exists_cons_of_ne_nil hpa0
          have hyp : y ∈ pa := by rw [hpy]; simp
          have hyk := (HI1.out.of_eq hpa hyp).1
          have hpay := HI1.out.part_of hpa hyp
          obtain ⟨j, hj⟩ : ∃ j, j = ofQ L2 y := ⟨_, rfl⟩
          have hjm : j < m2 := by rw [hj, HM2.out]; exact HI2.out.of_lt hyk
          obtain ⟨bb, ob, rb, pb, hA2, hbb, _, hpb, hcb, hrb, hlb, hceb⟩ := HR2.out.at_ (i := j) (by rw [← HM2.out]; exact hjm)
          subst hA2
          have hpab : pb = pa := by
            obtain ⟨q1, h1, h2⟩ := HI2.out.of_mem hyk
            rw [← hj, hpb] at h1
            cases h1
            rw [hpay, HI2.out.part_of hpb h2]
            exact part_congr fun x => both_rev
          subst hpab
          have HPX := Lib.hid (show partIx L2 (y : Int) = (j : Int) by rw [hj]; exact partIx_at HI2.out hyk)
          have hpl : pb.length ≤ 4096 := by have := HC1.out pb (List.mem_of_getElem? hpa); omega
          obtain ⟨pn, hpn⟩ : ∃ pn, pn = pb.length := ⟨_, rfl⟩
          have hpos : 0 < pn := by rw [hpn, hpy]; simp
          obtain ⟨ga, hga⟩ : ∃ ga, ga = ra.1 := ⟨_, rfl⟩
          obtain ⟨gb, hgb⟩ : ∃ gb, gb = rb.1 := ⟨_, rfl⟩
          obtain ⟨ea, hea⟩ : ∃ ea, ea = ra.2 := ⟨_, rfl⟩
          obtain ⟨eb, heb⟩ : ∃ eb, eb = rb.2 := ⟨_, rfl⟩
          rw [← hga, ← hpn, ← hea] at hca
          rw [← hgb, ← hpn, ← heb] at hcb
          have HCA := Lib.hid (show ∀ V, Below w4.heap.size w4 V → V.cell? ⟨ba, oa + i, none⟩ = some (.slice (some ⟨ga, 0, none⟩) pn ea) from fun V hV => (hV.cell (p := ⟨ba, oa + i, none⟩) hba).trans hca)
          have HCB := Lib.hid (show ∀ V, Below w4.heap.size w4 V → V.cell? ⟨bb, ob + j, none⟩ = some (.slice (some ⟨gb, 0, none⟩) pn eb) from fun V hV => (hV.cell (p := ⟨bb, ob + j, none⟩) hbb).trans hcb)
          have HRA := Lib.hid (show ga < w4.heap.size ∧ pb.length ≤ ea ∧ ∀ V, Below w4.heap.size w4 V → ∀ m x, pb[m]? = some x → V.cell? ⟨ga, m, none⟩ = some (ni x) from ⟨by rw [hga]; exact hra, by rw [hea]; exact hla, fun V hV m x hx => by rw [hga]; exact (hV.cell (p := ⟨ra.1, m, none⟩) hra).trans (hcea m x hx)⟩)
          have HRB := Lib.hid (show gb < w4.heap.size ∧ pb.length ≤ eb ∧ ∀ V, Below w4.heap.size w4 V → ∀ m x, pb[m]? = some x → V.cell? ⟨gb, m, none⟩ = some (ni x) from ⟨by rw [hgb]; exact hrb, by rw [heb]; exact hlb, fun V hV m x hx => by rw [hgb]; exact (hV.cell (p := ⟨rb.1, m, none⟩) hrb).trans (hceb m x hx)⟩)
          have HY0 := Lib.hid (show pb[0]? = some y by rw [hpy]; rfl)
          have HPN := Lib.hid hpn
          have hne0 : ((pn : Int) == 0) = false := by simp; omega
          have hne1 : ¬ (pn : Int) = 0 := by omega
          have hpos2 : (0 : Int) < (pn : Int) := by omega
          clear hba hpa hca hra hla hcea hpa0 hyp hpay hj hbb hpb hcb hrb hlb hceb hpn hga hgb hea heb
          have k0 := HCA.out w5 HB5.out
          have k1 := HRA.out.2.2 w5 HB5.out 0 y HY0.out
          repeat (first | go_skip | go_guarded | go_step)
          refine (part_at c2 _ HR2.out HM2.out.symm (by omega) (fun p hp => by have := HC2.out p hp; omega) HPX.out HB5.out).mono ?_
          rintro e w6 ⟨rfl, hb6, -⟩
          have HB6 := Lib.hid hb6
          have hj0 : ¬ (j : Int) < 0 := by omega
          have hjm2 : ¬ (m2 : Int) ≤ (j : Int) := by omega
          have hji : (j : Int) < (m2 : Int) := by omega
          have hj00 : (0 : Int) ≤ (j : Int) := by omega
          have HDR := Lib.hid (show Below w4.heap.size w4 w6.drew from hb6.drew)
          have hcells := HRA.out.2.2 w6.drew HDR.out
          have hcellsb := HRB.out.2.2 w6.drew HDR.out
          have hga := Nat.lt_of_lt_of_le HRA.out.1 HDR.out.size
          have hgb := Nat.lt_of_lt_of_le HRB.out.1 HDR.out.size
          have HAB := Lib.hid (pair_rdp w6.drew ga ea gb eb pb pb hga hgb HRA.out.2.1 HRB.out.2.1 hcells hcellsb _ _ w6.heap.size rfl rfl rfl)
          have HBA := Lib.hid (pair_rdp w6.drew gb eb ga ea pb pb hgb hga HRB.out.2.1 HRA.out.2.1 hcellsb hcells _ _ w6.heap.size rfl rfl rfl)
          rw [← HPN.out] at HAB HBA
          clear hb6 k0 k1 hcells hcellsb hga hgb
          dsimp only
          go_upto_region 18 with (fail)
          refine wp_region_held_drew (S := fun V => Below w6.heap.size w6 V) (by kernel_rfl) ?_ (fun hHeld => ?_)
          · exact (Below.refl w6.heap.size w6).drew
          refine wpAnyH_take (i := 0) (oi := ?oid16) (v := ?vd16) ?hod16 (by kernel_rfl) ?hfd16 ?hrd16 ?hQd16 ?hyd16 hHeld ?restd16
          case hod16 => (simp only [List.getElem?_toArray, List.getElem?_cons_succ, List.getElem?_cons_zero]; exact rfl)
          case hfd16 => kernel_rfl
          case hrd16 => kernel_rfl
          case hQd16 => exact fun _ _ _ h => h
          case hyd16 =>
            refine Or.inl ⟨by rfl, ?_⟩
            intro V hSV
            go_simp
            (try with_reducible rfl)
          try simp only [Act.put, List.setIfInBounds_toArray, List.set_cons_zero, List.set_cons_succ]
          refine wpAnyH_take (i := 1) (oi := ?oid17) (v := .bool false) ?hod17 (by kernel_rfl) ?hfd17 ?hrd17 ?hQd17 ?hyd17 hHeld ?restd17
          case hod17 => (simp only [List.getElem?_toArray, List.getElem?_cons_succ, List.getElem?_cons_zero]; exact rfl)
          case hfd17 => kernel_rfl
          case hrd17 => kernel_rfl
          case hQd17 => exact fun _ _ _ h => h
          case hyd17 =>
            refine Or.inl ⟨by rfl, ?_⟩
            intro V hSV
            go_simp
            (try with_reducible rfl)
          try simp only [Act.put, List.setIfInBounds_toArray, List.set_cons_zero, List.set_cons_succ]
          refine wpAnyH_take (i := 2) (oi := ?oid18) (v := ?vd18) ?hod18 (by kernel_rfl) ?hfd18 ?hrd18 ?hQd18 ?hyd18 hHeld ?restd18
          case hod18 => (simp only [List.getElem?_toArray, List.getElem?_cons_succ, List.getElem?_cons_zero]; exact rfl)
          case hfd18 => kernel_rfl
          case hrd18 => kernel_rfl
          case hQd18 => exact fun _ _ _ h => h
          case hyd18 =>
            refine Or.inl ⟨by rfl, ?_⟩
            intro V hSV
            go_simp
            (try with_reducible rfl)
          try simp only [Act.put, List.setIfInBounds_toArray, List.set_cons_zero, List.set_cons_succ]
          refine wpAnyH_take (i := 3) (oi := ?oid19) (v := ?vd19) ?hod19 (by kernel_rfl) ?hfd19 ?hrd19 ?hQd19 ?hyd19 hHeld ?restd19
          case hod19 => (simp only [List.getElem?_toArray, List.getElem?_cons_succ, List.getElem?_cons_zero]; exact rfl)
          case hfd19 => kernel_rfl
          case hrd19 => kernel_rfl
          case hQd19 => exact fun _ _ _ h => h
          case hyd19 =>
            refine Or.inl ⟨by rfl, ?_⟩
            intro V hSV
            go_simp
            (try with_reducible rfl)
          try simp only [Act.put, List.setIfInBounds_toArray, List.set_cons_zero, List.set_cons_succ]
          refine wpAnyH_take (i := 4) (oi := ?oid20) (v := ?vd20) ?hod20 (by kernel_rfl) ?hfd20 ?hrd20 ?hQd20 ?hyd20 hHeld ?restd20
          case hod20 => (simp only [List.getElem?_toArray, List.getElem?_cons_succ, List.getElem?_cons_zero]; exact rfl)
          case hfd20 => kernel_rfl
          case hrd20 => kernel_rfl
          case hQd20 => exact fun _ _ _ h => h
          case hyd20 =>
            refine Or.inl ⟨by rfl, ?_⟩
            intro V hSV
            go_simp
            (try with_reducible rfl)
          try simp only [Act.put, List.setIfInBounds_toArray, List.set_cons_zero, List.set_cons_succ]
          refine wpAnyH_take (i := 5) (oi := ?oid21) (v := ?vd21) ?hod21 (by kernel_rfl) ?hfd21 ?hrd21 ?hQd21 ?hyd21 hHeld ?restd21
          case hod21 => (simp only [List.getElem?_toArray, List.getElem?_cons_succ, List.getElem?_cons_zero]; exact rfl)
          case hfd21 => kernel_rfl
          case hrd21 => kernel_rfl
          case hQd21 => exact fun _ _ _ h => h
          case hyd21 =>
            refine Or.inl ⟨by rfl, ?_⟩
            intro V hSV
            go_simp
            (try with_reducible rfl)
          try simp only [Act.put, List.setIfInBounds_toArray, List.set_cons_zero, List.set_cons_succ]
          refine wpAnyH_take (i := 6) (oi := ?oid22) (v := .bool false) ?hod22 (by kernel_rfl) ?hfd22 ?hrd22 ?hQd22 ?hyd22 hHeld ?restd22
          case hod22 => (simp only [List.getElem?_toArray, List.getElem?_cons_succ, List.getElem?_cons_zero]; exact rfl)
          case hfd22 => kernel_rfl
          case hrd22 => kernel_rfl
          case hQd22 => exact fun _ _ _ h => h
          case hyd22 =>
            refine Or.inl ⟨by rfl, ?_⟩
            intro V hSV
            go_simp
            (try with_reducible rfl)
          try simp only [Act.put, List.setIfInBounds_toArray, List.set_cons_zero, List.set_cons_succ]
          refine wpAnyH_take (i := 7) (oi := ?oid23) (v := ?vd23) ?hod23 (by kernel_rfl) ?hfd23 ?hrd23 ?hQd23 ?hyd23 hHeld ?restd23
          case hod23 => (simp only [List.getElem?_toArray, List.getElem?_cons_succ, List.getElem?_cons_zero]; exact rfl)
          case hfd23 => kernel_rfl
          case hrd23 => kernel_rfl
          case hQd23 => exact fun _ _ _ h => h
          case hyd23 =>
            refine Or.inl ⟨by rfl, ?_⟩
            intro V hSV
            go_simp
            (try with_reducible rfl)
          try simp only [Act.put, List.setIfInBounds_toArray, List.set_cons_zero, List.set_cons_succ]
          refine wpAnyH_take (i := 8) (oi := ?oid24) (v := ?vd24) ?hod24 (by kernel_rfl) ?hfd24 ?hrd24 ?hQd24 ?hyd24 hHeld ?restd24
          case hod24 => (simp only [List.getElem?_toArray, List.getElem?_cons_succ, List.getElem?_cons_zero]; exact rfl)
          case hfd24 => kernel_rfl
          case hrd24 => kernel_rfl
          case hQd24 => exact fun _ _ _ h => h
          case hyd24 =>
            refine Or.inl ⟨by rfl, ?_⟩
            intro V hSV
            go_simp
            (try with_reducible rfl)
          try simp only [Act.put, List.setIfInBounds_toArray, List.set_cons_zero, List.set_cons_succ]
          refine wpAnyH_take (i := 9) (oi := ?oid25) (v := ?vd25) ?hod25 (by kernel_rfl) ?hfd25 ?hrd25 ?hQd25 ?hyd25 hHeld ?restd25
          case hod25 => (simp only [List.getElem?_toArray, List.getElem?_cons_succ, List.getElem?_cons_zero]; exact rfl)
          case hfd25 => kernel_rfl
          case hrd25 => kernel_rfl
          case hQd25 => exact fun _ _ _ h => h
          case hyd25 =>
            refine Or.inl ⟨by rfl, ?_⟩
            intro V hSV
            go_simp
            (try with_reducible rfl)
          try simp only [Act.put, List.setIfInBounds_toArray, List.set_cons_zero, List.set_cons_succ]
          refine wpAnyH_take (i := 10) (oi := ?oid26) (v := ?vd26) ?hod26 (by kernel_rfl) ?hfd26 ?hrd26 ?hQd26 ?hyd26 hHeld ?restd26
          case hod26 => (simp only [List.getElem?_toArray, List.getElem?_cons_succ, List.getElem?_cons_zero]; exact rfl)
          case hfd26 => kernel_rfl
          case hrd26 => kernel_rfl
          case hQd26 => exact fun _ _ _ h => h
          case hyd26 =>
            refine Or.inl ⟨by rfl, ?_⟩
            intro V hSV
            go_simp
            (try with_reducible rfl)
          try simp only [Act.put, List.setIfInBounds_toArray, List.set_cons_zero, List.set_cons_succ]
          refine wpAnyH_take (i := 11) (oi := ?oid27) (v := ?vd27) ?hod27 (by kernel_rfl) ?hfd27 ?hrd27 ?hQd27 ?hyd27 hHeld ?restd27
          case hod27 => (simp only [List.getElem?_toArray, List.getElem?_cons_succ, List.getElem?_cons_zero]; exact rfl)
          case hfd27 => kernel_rfl
          case hrd27 => kernel_rfl
          case hQd27 => exact fun _ _ _ h => h
          case hyd27 =>
            refine Or.inl ⟨by rfl, ?_⟩
            intro V hSV
            go_simp
            (try with_reducible rfl)
          try simp only [Act.put, List.setIfInBounds_toArray, List.set_cons_zero, List.set_cons_succ]
          refine wpAnyH_take (i := 12) (oi := ?oid28) (v := ?vd28) ?hod28 (by kernel_rfl) ?hfd28 ?hrd28 ?hQd28 ?hyd28 hHeld ?restd28
          case hod28 => (simp only [List.getElem?_toArray, List.getElem?_cons_succ, List.getElem?_cons_zero]; exact rfl)
          case hfd28 => kernel_rfl
          case hrd28 => kernel_rfl
          case hQd28 => exact fun _ _ _ h => h
          case hyd28 =>
            refine Or.inl ⟨by rfl, ?_⟩
            intro V hSV
            have qv := HCA.out V (HB6.out.trans (Below.mono hSV HB6.out.size))
            go_simp
            (try with_reducible rfl)
          try simp only [Act.put, List.setIfInBounds_toArray, List.set_cons_zero, List.set_cons_succ]
          refine wpAnyH_take (i := 14) (oi := ?oid29) (v := ?vd29) ?hod29 (by kernel_rfl) ?hfd29 ?hrd29 ?hQd29 ?hyd29 hHeld ?restd29
          case hod29 => (simp only [List.getElem?_toArray, List.getElem?_cons_succ, List.getElem?_cons_zero]; exact rfl)
          case hfd29 => kernel_rfl
          case hrd29 => kernel_rfl
          case hQd29 => exact fun _ _ _ h => h
          case hyd29 =>
            refine Or.inl ⟨by rfl, ?_⟩
            intro V hSV
            go_simp
            (try with_reducible rfl)
          try simp only [Act.put, List.setIfInBounds_toArray, List.set_cons_zero, List.set_cons_succ]
          refine wpAnyH_take (i := 15) (oi := ?oid30) (v := ?vd30) ?hod30 (by kernel_rfl) ?hfd30 ?hrd30 ?hQd30 ?hyd30 hHeld ?restd30
          case hod30 => (simp only [List.getElem?_toArray, List.getElem?_cons_succ, List.getElem?_cons_zero]; exact rfl)
          case hfd30 => kernel_rfl
          case hrd30 => kernel_rfl
          case hQd30 => exact fun _ _ _ h => h
          case hyd30 =>
            refine Or.inl ⟨by rfl, ?_⟩
            intro V hSV
            go_simp
            (try with_reducible rfl)
          try simp only [Act.put, List.setIfInBounds_toArray, List.set_cons_zero, List.set_cons_succ]
          refine wpAnyH_take (i := 16) (oi := ?oid31) (v := ?vd31) ?hod31 (by kernel_rfl) ?hfd31 ?hrd31 ?hQd31 ?hyd31 hHeld ?restd31
          case hod31 => (simp only [List.getElem?_toArray, List.getElem?_cons_succ, List.getElem?_cons_zero]; exact rfl)
          case hfd31 => kernel_rfl
          case hrd31 => kernel_rfl
          case hQd31 => exact fun _ _ _ h => h
          case hyd31 =>
            refine Or.inl ⟨by rfl, ?_⟩
            intro V hSV
            go_simp
            (try with_reducible rfl)
          try simp only [Act.put, List.setIfInBounds_toArray, List.set_cons_zero, List.set_cons_succ]
          refine wpAnyH_take (i := 17) (oi := ?oid32) (v := ?vd32) ?hod32 (by kernel_rfl) ?hfd32 ?hrd32 ?hQd32 ?hyd32 hHeld ?restd32
          case hod32 => (simp only [List.getElem?_toArray, List.getElem?_cons_succ, List.getElem?_cons_zero]; exact rfl)
          case hfd32 => kernel_rfl
          case hrd32 => kernel_rfl
          case hQd32 => exact fun _ _ _ h => h
          case hyd32 =>
            refine Or.inl ⟨by rfl, ?_⟩
            intro V hSV
            have qv := HCB.out V (HB6.out.trans (Below.mono hSV HB6.out.size))
            go_simp
            (try with_reducible rfl)
          try simp only [Act.put, List.setIfInBounds_toArray, List.set_cons_zero, List.set_cons_succ]
          refine wpAnyH_ready (rs := [13, 18]) (by kernel_rfl) (by simp) ?_
          refine AllReadyH.cons (o := ?od33) ?hod33 (fun K hK => ?kd33) ?md33
          case hod33 => (simp only [List.getElem?_toArray, List.getElem?_cons_succ, List.getElem?_cons_zero]; exact rfl)
          case kd33 =>
            refine anyd_litS (by rfl) (.tmp 109) rfl (some ⟨ga, 0, none⟩) pn ea (by rfl) ?_
            refine hK.out _ _ ?_ (fun hHeld => ?_)
            · exact Below.alloc hHeld (Below.size hHeld) _
            clear hK K
            try simp only [Act.put, List.setIfInBounds_toArray, List.set_cons_zero, List.set_cons_succ]
            refine wpAnyH_ready (rs := [18]) (by kernel_rfl) (by simp) ?_
            refine AllReadyH.cons (o := ?od34) ?hod34 (fun K hK => ?kd34) ?md34
            case hod34 => (simp only [List.getElem?_toArray, List.getElem?_cons_succ, List.getElem?_cons_zero]; exact rfl)
            case kd34 =>
              refine anyd_litS (by rfl) (.tmp 114) rfl (some ⟨gb, 0, none⟩) pn eb (by rfl) ?_
              refine hK.out _ _ ?_ (fun hHeld => ?_)
              · exact Below.alloc hHeld (Below.size hHeld) _
              clear hK K
              try simp only [Act.put, List.setIfInBounds_toArray, List.set_cons_zero, List.set_cons_succ]
              refine wpAnyH_ready (rs := [19]) (by kernel_rfl) (by simp) ?_
              refine AllReadyH.cons (o := ?od35) ?hod35 (fun K hK => ?kd35) ?md35
              case hod35 => (simp only [List.getElem?_toArray, List.getElem?_cons_succ, List.getElem?_cons_zero]; exact rfl)
              case kd35 =>
                go_simp
                refine (rSame_any _ _ 1 1 1 1 [pb] [pb] _ _ _ HAB.out.1 HAB.out.2 rfl rfl (by omega) (by omega) (by intro p hp; simp only [List.mem_singleton] at hp; subst hp; omega) (by intro p hp; simp only [List.mem_singleton] at hp; subst hp; omega)).mono ?_
                rintro e Vd35 ⟨rfl, hbd35⟩
                rw [decide_eq_true (rfl : [pb] = [pb])]
                (try dsimp only)
                refine hK.out _ _ ?_ (fun hHeld => ?_)
                · exact Below.trans hHeld (hbd35.mono (Below.size hHeld))
                clear hK K
                try simp only [Act.put, List.setIfInBounds_toArray, List.set_cons_zero, List.set_cons_succ]
                refine wpAnyH_take (i := 20) (oi := ?oid36) (v := .bool false) ?hod36 (by kernel_rfl) ?hfd36 ?hrd36 ?hQd36 ?hyd36 hHeld ?restd36
                case hod36 => (simp only [List.getElem?_toArray, List.getElem?_cons_succ, List.getElem?_cons_zero]; exact rfl)
                case hfd36 => kernel_rfl
                case hrd36 => kernel_rfl
                case hQd36 => exact fun _ _ _ h => h
                case hyd36 =>
                  refine Or.inl ⟨by rfl, ?_⟩
                  intro V hSV
                  go_simp
                  (try with_reducible rfl)
                try simp only [Act.put, List.setIfInBounds_toArray, List.set_cons_zero, List.set_cons_succ]
                refine wpAnyH_take (i := 21) (oi := ?oid37) (v := ?vd37) ?hod37 (by kernel_rfl) ?hfd37 ?hrd37 ?hQd37 ?hyd37 hHeld ?restd37
                case hod37 => (simp only [List.getElem?_toArray, List.getElem?_cons_succ, List.getElem?_cons_zero]; exact rfl)
                case hfd37 => kernel_rfl
                case hrd37 => kernel_rfl
                case hQd37 => exact fun _ _ _ h => h
                case hyd37 =>
                  refine Or.inl ⟨by rfl, ?_⟩
                  intro V hSV
                  go_simp
                  (try with_reducible rfl)
                try simp only [Act.put, List.setIfInBounds_toArray, List.set_cons_zero, List.set_cons_succ]
                refine wpAnyH_done (by kernel_rfl) ?_ _
                have hb9 := HB6.out.trans (Below.mono hHeld HB6.out.size)
                repeat (first | go_skip | go_guarded | go_step)
                go_roundw
                case rel => exact ⟨i + 1, by omega, by go_num, hb9⟩
                case measure => simp [intOf]; omega
              exact AllReadyH.nil
            exact AllReadyH.nil
          refine AllReadyH.cons (o := ?od38) ?hod38 (fun K hK => ?kd38) ?md38
          case hod38 => (simp only [List.getElem?_toArray, List.getElem?_cons_succ, List.getElem?_cons_zero]; exact rfl)
          case kd38 =>
            refine anyd_litS (by rfl) (.tmp 114) rfl (some ⟨gb, 0, none⟩) pn eb (by rfl) ?_
            refine hK.out _ _ ?_ (fun hHeld => ?_)
            · exact Below.alloc hHeld (Below.size hHeld) _
            clear hK K
            try simp only [Act.put, List.setIfInBounds_toArray, List.set_cons_zero, List.set_cons_succ]
            refine wpAnyH_ready (rs := [13]) (by kernel_rfl) (by simp) ?_
            refine AllReadyH.cons (o := ?od39) ?hod39 (fun K hK => ?kd39) ?md39
            case hod39 => (simp only [List.getElem?_toArray, List.getElem?_cons_succ, List.getElem?_cons_zero]; exact rfl)
            case kd39 =>
              refine anyd_litS (by rfl) (.tmp 109) rfl (some ⟨ga, 0, none⟩) pn ea (by rfl) ?_
              refine hK.out _ _ ?_ (fun hHeld => ?_)
              · exact Below.alloc hHeld (Below.size hHeld) _
              clear hK K
              try simp only [Act.put, List.setIfInBounds_toArray, List.set_cons_zero, List.set_cons_succ]
              refine wpAnyH_ready (rs := [19]) (by kernel_rfl) (by simp) ?_
              refine AllReadyH.cons (o := ?od40) ?hod40 (fun K hK => ?kd40) ?md40
              case hod40 => (simp only [List.getElem?_toArray, List.getElem?_cons_succ, List.getElem?_cons_zero]; exact rfl)
              case kd40 =>
                go_simp
                refine (rSame_any _ _ 1 1 1 1 [pb] [pb] _ _ _ HBA.out.2 HBA.out.1 rfl rfl (by omega) (by omega) (by intro p hp; simp only [List.mem_singleton] at hp; subst hp; omega) (by intro p hp; simp only [List.mem_singleton] at hp; subst hp; omega)).mono ?_
                rintro e Vd40 ⟨rfl, hbd40⟩
                rw [decide_eq_true (rfl : [pb] = [pb])]
                (try dsimp only)
                refine hK.out _ _ ?_ (fun hHeld => ?_)
                · exact Below.trans hHeld (hbd40.mono (Below.size hHeld))
                clear hK K
                try simp only [Act.put, List.setIfInBounds_toArray, List.set_cons_zero, List.set_cons_succ]
                refine wpAnyH_take (i := 20) (oi := ?oid41) (v := .bool false) ?hod41 (by kernel_rfl) ?hfd41 ?hrd41 ?hQd41 ?hyd41 hHeld ?restd41
                case hod41 => (simp only [List.getElem?_toArray, List.getElem?_cons_succ, List.getElem?_cons_zero]; exact rfl)
                case hfd41 => kernel_rfl
                case hrd41 => kernel_rfl
                case hQd41 => exact fun _ _ _ h => h
                case hyd41 =>
                  refine Or.inl ⟨by rfl, ?_⟩
                  intro V hSV
                  go_simp
                  (try with_reducible rfl)
                try simp only [Act.put, List.setIfInBounds_toArray, List.set_cons_zero, List.set_cons_succ]
                refine wpAnyH_take (i := 21) (oi := ?oid42) (v := ?vd42) ?hod42 (by kernel_rfl) ?hfd42 ?hrd42 ?hQd42 ?hyd42 hHeld ?restd42
                case hod42 => (simp only [List.getElem?_toArray, List.getElem?_cons_succ, List.getElem?_cons_zero]; exact rfl)
                case hfd42 => kernel_rfl
                case hrd42 => kernel_rfl
                case hQd42 => exact fun _ _ _ h => h
                case hyd42 =>
                  refine Or.inl ⟨by rfl, ?_⟩
                  intro V hSV
                  go_simp
                  (try with_reducible rfl)
                try simp only [Act.put, List.setIfInBounds_toArray, List.set_cons_zero, List.set_cons_succ]
                refine wpAnyH_done (by kernel_rfl) ?_ _
                have hb9 := HB6.out.trans (Below.mono hHeld HB6.out.size)
                repeat (first | go_skip | go_guarded | go_step)
                go_roundw
                case rel => exact ⟨i + 1, by omega, by go_num, hb9⟩
                case measure => simp [intOf]; omega
              exact AllReadyH.nil
            exact AllReadyH.nil
          exact AllReadyH.nil
        · obtain rfl : m2 = i := by omega
          have hii2 : ¬ (m2 : Int) < (m2 : Int) := by omega
          obtain ⟨p, hp⟩ : ∃ p, p = ofQ L1 u := ⟨_, rfl⟩
          have hpm : p < m2 := by rw [hp, HM1.out]; exact HI1.out.of_lt huk
          have HPX := Lib.hid (show partIx L1 (u : Int) = (p : Int) by rw [hp]; exact partIx_at HI1.out huk)
          obtain ⟨ba, oa, ra, pa, hA1, hba, _, hpa, hca, hra, hla, hcea⟩ := HR1b.out.at_ (i := p) (by rw [← HM1.out]; exact hpm)
          subst hA1
          have hup : u ∈ pa := by
            obtain ⟨q1, h1, h2⟩ := HI1.out.of_mem huk
            rw [← hp, hpa] at h1
            cases h1
            exact h2
          have hpau := HI1.out.part_of hpa hup
          have hpl : pa.length ≤ 4096 := by have := HC1.out pa (List.mem_of_getElem? hpa); omega
          obtain ⟨pn, hpn⟩ : ∃ pn, pn = pa.length := ⟨_, rfl⟩
          have hpos : 0 < pn := by rw [hpn]; exact List.length_pos_of_mem hup
          obtain ⟨s, hs⟩ : ∃ s : Nat, s = b % pn := ⟨_, rfl⟩
          have hsn : s < pn := by rw [hs]; exact Nat.mod_lt _ hpos
          have hts : Int.tmod (b : Int) (pn : Int) = (s : Int) := by rw [Int.tmod_eq_emod_of_nonneg (by omega), hs]; simp
          have hws : IntKind.i64.wrap (s : Int) = (s : Int) := by rw [IntKind.wrap_i64]; omega
          obtain ⟨x, hx⟩ : ∃ x, pa[s]? = some x := ⟨_, List.getElem?_eq_getElem (by rw [← hpn]; exact hsn)⟩
          have hxk := (HI1.out.of_eq hpa (List.mem_of_getElem? hx)).1
          have hcom : Com E u x := by
            have := List.mem_of_getElem? hx
            rw [hpau] at this
            exact (mem_part.1 this).2.1
          have HCOM := Lib.hid hcom
          obtain ⟨ga, hga⟩ : ∃ ga, ga = ra.1 := ⟨_, rfl⟩
          obtain ⟨ea, hea⟩ : ∃ ea, ea = ra.2 := ⟨_, rfl⟩
          rw [← hga, ← hpn, ← hea] at hca
          have HCA := Lib.hid (show ∀ V, Below w4.heap.size w4 V → V.cell? ⟨ba, oa + p, none⟩ = some (.slice (some ⟨ga, 0, none⟩) pn ea) from fun V hV => (hV.cell (p := ⟨ba, oa + p, none⟩) hba).trans hca)
          have HCX := Lib.hid (show ∀ V, Below w4.heap.size w4 V → V.cell? ⟨ga, s, none⟩ = some (ni x) from fun V hV => by rw [hga]; exact (hV.cell (p := ⟨ra.1, s, none⟩) hra).trans (hcea s x hx))
          have hp0 : ¬ (p : Int) < 0 := by omega
          have hpm2 : ¬ (m2 : Int) ≤ (p : Int) := by omega
          have hpi : (p : Int) < (m2 : Int) := by omega
          have hp00 : (0 : Int) ≤ (p : Int) := by omega
          have hsi : (s : Int) < (pn : Int) := by omega
          have hs0 : (0 : Int) ≤ (s : Int) := by omega
          have hpnz : ¬ (pn : Int) = 0 := by omega
          have hpnz2 : ((pn : Int) == 0) = false := by simp; omega
          clear hp hba hpa hca hra hla hcea hup hpau hpn hs hx hcom hga hea
          repeat (first | go_skip | go_guarded | go_step)
          refine (part_at c1 _ HR1b.out HM1.out.symm (by omega) (fun p hp => by have := HC1.out p hp; omega) HPX.out HB5.out).mono ?_
          rintro e w6 ⟨rfl, hb6, -⟩
          have HB6 := Lib.hid hb6
          have qa := fun q => HCA.out (w6.drewN q) (belowDrews hb6 q)
          have qx := fun q => HCX.out (w6.drewN q) (belowDrews hb6 q)
          clear hb6
          dsimp only
          go_upto_region 24 with (fail)
          go_quiet (fail)
          obtain ⟨w7, hw7⟩ : ∃ w7, w7 = w6.drewN nq := ⟨_, rfl⟩
          rw [← hw7]
          have HB7 := Lib.hid (show Below w4.heap.size w4 w7 by rw [hw7]; exact belowDrews HB6.out nq)
          clear hw7 qa qx
          have HB17 := Lib.hid (HB14.out.trans (HB7.out.mono HB14.out.size))
          have HRE7 := Lib.hid ((HR.out.below HB17.out).more HB17.out.size)
          obtain ⟨w0, hw0⟩ : ∃ w0, w0 = w7.alloc (.cells #[] 31) := ⟨_, rfl⟩
          have HO0 := Lib.hid (show OwE w0 w7.heap.size (some ⟨w7.heap.size, 0, none⟩) 0 0 [] from hw0 ▸ OwE.lit0 w7)
          have HB0 := Lib.hid (show Below w7.heap.size w7 w0 from hw0 ▸ (Below.refl w7.heap.size w7).alloc (Nat.le_refl _) _)
          have HW0 := Lib.hid hw0
          have HRZ := Lib.hid ((HRE7.out.below HB0.out).more HB0.out.size)
          clear hw0
          repeat (first
            | (at_builtin; rw [← HW0.out]
               refine appE0 _ rfl (.tmp 148) (.tmp 149) rfl w7.heap.size (some ⟨w7.heap.size, 0, none⟩) 0 rfl HO0.out _ A ne c (ei E) rfl HRZ.out (by omega) HB0.out.size ?_
               intro Ak ck w8 hok htk hfk
               have hB78 : Below w7.heap.size w7 w8 := HB0.out.trans (htk.below (B := w7.heap.size) (fun y _ e => by cases e; exact Nat.le_refl _) HB0.out.size)
               have hZ : Below w8.heap.size w8 (w8.alloc (.cells #[.int .i64 (u : Int), .int .i64 (x : Int)] 31)) := (Below.refl _ _).alloc (Nat.le_refl _) _
               have HOK := Lib.hid (hok.later hZ)
               have HB8 := Lib.hid (hB78.trans (hZ.mono hB78.size))
               clear hok htk hfk hB78 hZ)
            | (at_builtin
               refine appE _ rfl (.tmp 150) (.tmp 154) rfl w7.heap.size Ak ck ne (ei E) rfl HOK.out _ _ 1 1 [((u : Int), (x : Int))] rfl (litE_rd [((u : Int), (x : Int))] w8) (by omega) HB8.out.size ?_
               intro A5 c5 w9 ho9 ht9 hf9
               have HO9 := Lib.hid ho9
               have HB79 := Lib.hid (HB8.out.trans (ht9.below (B := w7.heap.size) (fun y _ e => (owE_low HOK.out e).1) HB8.out.size))
               clear ho9 ht9 hf9)
            | go_skip | go_guarded | go_step)
          refine (parts_nat k (E ++ [(u, x)]) A5 (ne + 1) c5 w9 (by rw [ei_app]; exact HO9.out.rd) (by omega) (in_app HE.out huk hxk) (by simp; have := HLE.out; omega)).mono ?_
          rintro e w10 ⟨A6, c6, L6, R6, rfl, hr6, ho6, hl6, hb6⟩
          obtain rfl : L6 = L1 := (ho6.congr (E' := E) fun y z _ => com_more HCOM.out).unique HO1.out
          have HB7a := Lib.hid (HB79.out.trans (hb6.mono HB79.out.size))
          have HB4a := Lib.hid (HB7.out.trans (HB7a.out.mono HB7.out.size))
          have HB1a := Lib.hid (HB14.out.trans (HB4a.out.mono HB14.out.size))
          have hs := rSame_any _ A6 m2 c1 m2 c6 L6 L6 _ R6 w10 ((HR1b.out.below HB4a.out).more HB4a.out.size) hr6 HM1.out.symm HM1.out.symm (by omega) (by omega) (fun p hp => by have := HC1.out p hp; omega) (fun p hp => by have := HC1.out p hp; omega)
          rw [decide_eq_true (rfl : L6 = L6)] at hs
          rw [← HM1.out]
          clear hr6 ho6 hb6
          dsimp only
          repeat (first | go_skip | go_guarded | go_step)
          refine hs.mono ?_
          rintro e w11 ⟨rfl, hb11⟩
          have HB11 := Lib.hid (HB1a.out.trans (hb11.mono HB1a.out.size))
          clear hs hb11
          dsimp only
          repeat (first | go_skip | go_guarded | go_step)
          refine (works_any _).mono ?_
          rintro e wz ⟨rfl, hbz⟩
          have HBZ := Lib.hid (HB11.out.trans (hbz.mono HB11.out.size))
          clear hbz
          dsimp only
          repeat (first | go_skip | go_guarded | go_step)
          go_ret
          exact ⟨rfl, HBZ.out⟩

theorem both (n : Int) (A : Option Addr) (ne c : Nat) (E0 : List (Int × Int)) (a b : Nat) (w : World) (hr : RdE w w.heap.size A ne E0) (ha : a ≤ 255) (hb : b ≤ 255) :
    Calls Try.prog 5 #[.int .i64 n, .slice A ne c, .int .u8 (a : Int), .int .u8 (b : Int)] w fun e w' => e = .returned (.bool true) ∧ Below w.heap.size w w' := by
  cases hg : rightB n ne E0 with
  | false => exact walkNot n A ne c E0 a b w hr hg
  | true =>
    obtain ⟨k, E, rfl, rfl, hE, h1, h2⟩ := rightB_open hg
    by_cases hk : k = 0
    · subst hk
      exact walkNone E A ne c a b w hr hE h2
    · exact walk k E A ne c a b w hr hE h1 (by omega) h2 ha hb

set_option maxRecDepth 100000 in
theorem lifted (os : Os) (started : os.Started) (H : Type) (enc : TypeId × Value → H) :
    ReturnsInHanded {} Try.checked os 5 .any (Rows.graphTurnedSpec.pre6 enc Try.prog Try.f5 Rows.graphTurnedRow.domain false) (Rows.graphTurnedSpec.post enc Try.prog Try.f5 false true false false) := by
  refine returnsInHanded_of_change_sized (C := Try.checked) ownK started (by kernel_rfl) Try.func5
    (ChangeSpec.witness6 (enc := enc) (C := Try.checked) false ⟨#[], #[.int .i64 0, .slice none 0 0, .int .u8 0, .int .u8 0], []⟩ 8 (by kernel_rfl) (by kernel_rfl) (by kernel_rfl) (by kernel_rfl)) ?_
  intro W base args ds gs before hval0 hW hcnd hsz0 _
  have hval : ∀ (j : Nat) t v, Try.f5.params[j]? = some t → args[j]? = some v → Value.okWide Try.prog W .any base t v := hval0
  have hlt : ∀ x ∈ before, x.block < W.heap.size := fun x hx => by simpa using hW.lt x hx
  have hW' := hW
  obtain ⟨p, q, hA0, hV, rfl, hfz, hnd⟩ := hW
  have hA : DataW.TrodAll enc Try.prog W 0 (fun _ => true) true Try.f5.params.toList args.toList ds p := hA0
  rw [Try.params5] at hA hval
  obtain ⟨v0, vs0, d0, ds0, p0, q0, hargs, rfl, rfl, h0, r0⟩ := trodAll_cons hA
  obtain ⟨v1, vs1, d1, ds1, p1, q1, rfl, rfl, rfl, h1, r1⟩ := trodAll_cons r0
  obtain ⟨v2, vs2, d2, ds2, p2, q2, rfl, rfl, rfl, h2, r2⟩ := trodAll_cons r1
  obtain ⟨v3, vs3, d3, ds3, p3, q3, rfl, rfl, rfl, h3, r3⟩ := trodAll_cons r2
  obtain ⟨rfl, rfl, rfl⟩ := trodAll_nil r3
  obtain rfl : args = #[v0, v1, v2, v3] := by cases args; simp_all
  obtain ⟨rfl, rfl⟩ := trodVars_none hV
  obtain ⟨zb, rfl, rfl, rfl, wzb⟩ := open_int Try.underlying5 (hval 3 5 v3 rfl rfl) h3
  have bzb := bounds_u8 wzb
  obtain ⟨b, rfl⟩ : ∃ m : Nat, zb = (m : Int) := ⟨zb.toNat, by omega⟩
  obtain ⟨za, rfl, rfl, rfl, wza⟩ := open_int Try.underlying5 (hval 2 5 v2 rfl rfl) h2
  have bza := bounds_u8 wza
  obtain ⟨a, rfl⟩ : ∃ m : Nat, za = (m : Int) := ⟨za.toNat, by omega⟩
  obtain ⟨A1, n1, c1, E0, rfl, hk1, hm1, hr1⟩ := open_edges (hval 1 22 v1 rfl rfl) h1 (fun x hx => hlt x (by simp [hx]))
  obtain ⟨n, rfl, rfl, rfl, _⟩ := open_int Try.underlying3 (hval 0 3 v0 rfl rfl) h0
  refine (both n A1 n1 c1 E0 a b W hr1 (by omega) (by omega)).mono fun e W' ⟨he, hg⟩ => ?_
  subst he
  exact ⟨_, rfl, post_law laidOut rfl (by kernel_rfl) hW' hg rfl Try.underlying4 rfl rfl rfl⟩

theorem proved : Rows.GraphTurnedSaid :=
  OpenClaim.holds_of_wide 5 Try.f5 rfl rfl rfl rfl rfl rfl rfl ⟨rfl, rfl, rfl, rfl, rfl⟩ rfl rfl rfl rfl rfl (by kernel_rfl) Try.func5 (by kernel_rfl)
    (of_decide_eq_true (by kernel_rfl)) (by unfold Func.isWrapper; first | (rw [if_pos (by decide +kernel)]; kernel_rfl) | (rw [if_neg (by decide +kernel)]; exact ⟨rfl, rfl⟩))
    (fun os started H enc _ => lifted os started H enc)
#print axioms proved
end Go.Proofs.Ytbfagejdpbagjaa.graphTurned
