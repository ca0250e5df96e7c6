/- Layer 6 (wire), what the program appends: who says what; conditions. -/
import Derived.Test.YtcoafgnbmgndeaaWqQ
set_option linter.unusedVariables false
set_option linter.unusedSimpArgs false
namespace Go.Proofs.Ytcoafgnbmgndeaa
open Go Go.RowKit

set_option maxRecDepth 100000 in
set_option maxHeartbeats 4000000 in
theorem appSay_any (B : Nat) (A0 : Option Addr) (c0 m : Nat) (bs : List UInt8) (s : Bool) (x : Tm) (q : UInt32) (A : Option Addr) (n c : Nat) (l : List Tm) (w : World) (hown : Ow w B A0 c0 m bs) (hB : B ≤ w.heap.size) (hr : RdT w B A n l) (hm : m + (sayB (s, x, (q, l))).length ≤ 1000000000) :
    Calls Try.prog 82 #[.slice A0 m c0, .agg #[.bool s, .bool x.1, nv x.2, nv q, .slice A n c]] w fun e w' => Puts B A0 c0 m bs (sayB (s, x, (q, l))) w e w' := by
  have HE := Lib.hid (show sayB (s, x, (q, l)) = bitB s ++ ((if s then termB x else []) ++ atomB (q, l)) from rfl)
  rw [HE.out, List.length_append] at hm
  have hm0 := Ow.len hown
  have hnot : (Value.slice A0 m c0).ownBlock ≠ some w.heap.size := fun h => by have := (hown.lt _ h).2; omega
  have hge := fun k h => (hown.lt k h).1
  obtain ⟨U, hU, hH, hb, hO⟩ : ∃ U, U = w.alloc (.cells #[.bool s, .bool x.1, nv x.2, nv q, .slice A n c] 56) ∧ Bk U w.heap.size 56 [.bool s, .bool x.1, nv x.2, nv q, .slice A n c] ∧ Below w.heap.size w U ∧ Ow U B A0 c0 m bs :=
    ⟨_, rfl, Bk.new w _ _, (Below.refl _ _).alloc (Nat.le_refl _) _, Ow.alloc hown _⟩
  have HU := Lib.hid hU
  have HH := Lib.hid hH
  have HB := Lib.hid hb
  have HO := Lib.hid hO
  have HN := Lib.hid hnot
  have HGE := Lib.hid hge
  have HR := Lib.hid (hr.below (hb.mono hB))

  have hsU : B ≤ U.heap.size := Nat.le_trans hB hb.size
  clear hU hH hb hO hr hown hnot hge
  go_enter Try.func82, Try.ntmps82
  go_upto_region 1 with (fail)
  rw [← HU.out]
  clear HU
  generalize hhb : w.heap.size = hb at HH HN HB ⊢
  have k0 := HH.out.readT (Below.refl _ _) 0 rfl
  repeat (first | go_skip | go_guarded | go_step)
  refine (appSo_any B A0 c0 m bs s U HO.out hsU (by omega)).mono ?_
  rintro e V1 ⟨A1, m1, c1, rfl, ho1, ht1, hf1⟩
  have hb1 : Below B U V1 := ht1.below (fun k _ h => HGE.out k h) hsU
  have hs1 : B ≤ V1.heap.size := Nat.le_trans hsU hb1.size
  have hl1 := Ow.len ho1
  rw [List.length_append] at hl1
  have hh1 := ht1.bk HH.out HN.out
  have j0 := hh1.readT (Below.refl _ _) 0 rfl
  have j1 := hh1.readT (Below.refl _ _) 1 rfl
  have j2 := hh1.readT (Below.refl _ _) 2 rfl
  have j3 := hh1.readT (Below.refl _ _) 3 rfl
  have j4 := hh1.readT (Below.refl _ _) 4 rfl
  have HH1 := Lib.hid hh1
  have HO1 := Lib.hid ho1
  have HT1 := Lib.hid ht1
  have HF1 := Lib.hid hf1
  have HR1 := Lib.hid (HR.out.below hb1)
  have HWU := Lib.hid (show Turn (fun k => (Value.slice A0 m c0).ownBlock = some k) w U from Turn.ofBelow (show Below w.heap.size w U by rw [hhb]; exact HB.out))
  clear ho1 ht1 hf1 hh1 hb1 k0
  dsimp only
  cases s with
  | false =>
    have HE2 := Lib.hid (show sayB (false, x, (q, l)) = bitB false ++ atomB (q, l) from rfl)
    repeat (first | go_skip | go_guarded | go_step)
    refine (appAtom_any B A1 c1 m1 _ q A n c l V1 HO1.out hs1 HR1.out (by simp only [Bool.false_eq_true, if_false, List.nil_append] at hm; omega)).mono ?_
    rintro e V2 ⟨A2, m2, c2, rfl, ho2, ht2, hf2⟩
    have HFin := Lib.hid (show Puts B A0 c0 m bs (sayB (false, x, (q, l))) w (.returned (.slice A2 m2 c2)) V2 from by
      rw [HE2.out]
      exact Puts.then_ (HWU.out.trans HT1.out) (fun k hk => (HF1.out k hk).imp id (fun h => Nat.le_trans HWU.out.size h)) ⟨A2, m2, c2, rfl, ho2, ht2, hf2⟩)
    clear ho2 ht2 hf2
    dsimp only
    repeat (first | go_skip | go_guarded | go_step)
    go_ret
    exact HFin.out
  | true =>
    have HE2 := Lib.hid (show sayB (true, x, (q, l)) = bitB true ++ (termB x ++ atomB (q, l)) from rfl)
    simp only [if_true, List.length_append] at hm
    repeat (first | go_skip | go_guarded | go_step)
    refine (appTerm_any B A1 c1 m1 _ x V1 HO1.out hs1 (by omega)).mono ?_
    rintro e V2 ⟨A2, m2, c2, rfl, ho2, ht2, hf2⟩
    have hh2 := ht2.bk HH1.out (fun h => by
      rcases HF1.out _ h with h | h
      · exact HN.out h
      · have := HH.out.lt; omega)
    have i3 := hh2.readT (Below.refl _ _) 3 rfl
    have i4 := hh2.readT (Below.refl _ _) 4 rfl
    have hge1 : ∀ k, (Value.slice A1 m1 c1).ownBlock = some k → B ≤ k := fun k h => (HO1.out.lt k h).1
    have hb2 : Below B V1 V2 := ht2.below (fun k _ h => hge1 k h) hs1
    have hs2 : B ≤ V2.heap.size := Nat.le_trans hs1 hb2.size
    have hl2 := Ow.len ho2
    rw [List.length_append, List.length_append] at hl2
    have HO2 := Lib.hid ho2
    have HT2 := Lib.hid ht2
    have HF2 := Lib.hid hf2
    have HR2 := Lib.hid (HR1.out.below hb2)
    clear ho2 ht2 hf2 hh2 hb2 hge1 j0 j1 j2 j3 j4
    dsimp only
    repeat (first | go_skip | go_guarded | go_step)
    refine (appAtom_any B A2 c2 m2 _ q A n c l V2 HO2.out hs2 HR2.out (by omega)).mono ?_
    rintro e V3 ⟨A3, m3, c3, rfl, ho3, ht3, hf3⟩
    have HFin := Lib.hid (show Puts B A0 c0 m bs (sayB (true, x, (q, l))) w (.returned (.slice A3 m3 c3)) V3 from by
      rw [HE2.out]
      refine Puts.then_ (HWU.out.trans HT1.out) (fun k hk => (HF1.out k hk).imp id (fun h => Nat.le_trans HWU.out.size h)) ?_
      exact Puts.then_ HT2.out HF2.out ⟨A3, m3, c3, rfl, ho3, ht3, hf3⟩)
    clear ho3 ht3 hf3
    dsimp only
    repeat (first | go_skip | go_guarded | go_step)
    go_ret
    exact HFin.out

set_option maxRecDepth 100000 in
set_option maxHeartbeats 4000000 in
theorem appLit_any (B : Nat) (A0 : Option Addr) (c0 m : Nat) (bs : List UInt8) (g : Bool) (q : UInt32) (A : Option Addr) (n c : Nat) (l : List Tm) (w : World) (hown : Ow w B A0 c0 m bs) (hB : B ≤ w.heap.size) (hr : RdT w B A n l) (hm : m + (litB (g, (q, l))).length ≤ 1000000000) :
    Calls Try.prog 74 #[.slice A0 m c0, .agg #[.bool g, nv q, .slice A n c]] w fun e w' => Puts B A0 c0 m bs (litB (g, (q, l))) w e w' := by
  have HE := Lib.hid (show litB (g, (q, l)) = bitB g ++ atomB (q, l) from rfl)
  rw [HE.out, List.length_append] at hm
  have hm0 := Ow.len hown
  have hnot : (Value.slice A0 m c0).ownBlock ≠ some w.heap.size := fun h => by have := (hown.lt _ h).2; omega
  have hge := fun k h => (hown.lt k h).1
  obtain ⟨U, hU, hH, hb, hO⟩ : ∃ U, U = w.alloc (.cells #[.bool g, nv q, .slice A n c] 71) ∧ Bk U w.heap.size 71 [.bool g, nv q, .slice A n c] ∧ Below w.heap.size w U ∧ Ow U B A0 c0 m bs :=
    ⟨_, rfl, Bk.new w _ _, (Below.refl _ _).alloc (Nat.le_refl _) _, Ow.alloc hown _⟩
  have HU := Lib.hid hU
  have HH := Lib.hid hH
  have HB := Lib.hid hb
  have HO := Lib.hid hO
  have HN := Lib.hid hnot
  have HGE := Lib.hid hge
  have HR := Lib.hid (hr.below (hb.mono hB))

  have hsU : B ≤ U.heap.size := Nat.le_trans hB hb.size
  clear hU hH hb hO hr hown hnot hge
  go_enter Try.func74, Try.ntmps74
  go_upto_region 1 with (fail)
  rw [← HU.out]
  clear HU
  generalize hhb : w.heap.size = hb at HH HN HB ⊢
  have HOD := Lib.hid (show Ow U.drew B A0 c0 m bs from HO.out)
  have HRD := Lib.hid (show RdT U.drew B A n l from HR.out)
  refine wp_region_held_drew (S := fun V => Turn (fun k => (Value.slice A0 m c0).ownBlock = some k) U V) (by kernel_rfl) ?_ (fun hHeld => ?_)
  · exact (Turn.refl _ _).drew
  refine wpAnyH_take (i := 0) (oi := ?oid17) (v := ?vd17) ?hod17 (by kernel_rfl) ?hfd17 ?hrd17 ?hQd17 ?hyd17 hHeld ?restd17
  case hod17 => (simp only [List.getElem?_toArray, List.getElem?_cons_succ, List.getElem?_cons_zero]; exact rfl)
  case hfd17 => kernel_rfl
  case hrd17 => kernel_rfl
  case hQd17 => exact fun _ _ _ h => h
  case hyd17 =>
    refine Or.inl ⟨by rfl, ?_⟩
    intro V hSV
    go_simp
    (try with_reducible rfl)
  try simp only [Act.put, List.setIfInBounds_toArray, List.set_cons_zero, List.set_cons_succ]
  refine wpAnyH_take (i := 1) (oi := ?oid18) (v := ?vd18) ?hod18 (by kernel_rfl) ?hfd18 ?hrd18 ?hQd18 ?hyd18 hHeld ?restd18
  case hod18 => (simp only [List.getElem?_toArray, List.getElem?_cons_succ, List.getElem?_cons_zero]; exact rfl)
  case hfd18 => kernel_rfl
  case hrd18 => kernel_rfl
  case hQd18 => exact fun _ _ _ h => h
  case hyd18 =>
    refine Or.inl ⟨by rfl, ?_⟩
    intro V hSV
    go_simp
    (try with_reducible rfl)
  try simp only [Act.put, List.setIfInBounds_toArray, List.set_cons_zero, List.set_cons_succ]
  refine wpAnyH_take (i := 2) (oi := ?oid19) (v := ?vd19) ?hod19 (by kernel_rfl) ?hfd19 ?hrd19 ?hQd19 ?hyd19 hHeld ?restd19
  case hod19 => (simp only [List.getElem?_toArray, List.getElem?_cons_succ, List.getElem?_cons_zero]; exact rfl)
  case hfd19 => kernel_rfl
  case hrd19 => kernel_rfl
  case hQd19 => exact fun _ _ _ h => h
  case hyd19 =>
    refine Or.inl ⟨by rfl, ?_⟩
    intro V hSV
    have q0 := (hSV.bk HH.out HN.out).readT (Below.refl _ _) 0 rfl
    go_simp
    (try with_reducible rfl)
  try simp only [Act.put, List.setIfInBounds_toArray, List.set_cons_zero, List.set_cons_succ]
  refine wpAnyH_take (i := 4) (oi := ?oid20) (v := ?vd20) ?hod20 (by kernel_rfl) ?hfd20 ?hrd20 ?hQd20 ?hyd20 hHeld ?restd20
  case hod20 => (simp only [List.getElem?_toArray, List.getElem?_cons_succ, List.getElem?_cons_zero]; exact rfl)
  case hfd20 => kernel_rfl
  case hrd20 => kernel_rfl
  case hQd20 => exact fun _ _ _ h => h
  case hyd20 =>
    refine Or.inl ⟨by rfl, ?_⟩
    intro V hSV
    go_simp
    (try with_reducible rfl)
  try simp only [Act.put, List.setIfInBounds_toArray, List.set_cons_zero, List.set_cons_succ]
  refine wpAnyH_take (i := 5) (oi := ?oid21) (v := ?vd21) ?hod21 (by kernel_rfl) ?hfd21 ?hrd21 ?hQd21 ?hyd21 hHeld ?restd21
  case hod21 => (simp only [List.getElem?_toArray, List.getElem?_cons_succ, List.getElem?_cons_zero]; exact rfl)
  case hfd21 => kernel_rfl
  case hrd21 => kernel_rfl
  case hQd21 => exact fun _ _ _ h => h
  case hyd21 =>
    refine Or.inl ⟨by rfl, ?_⟩
    intro V hSV
    have q1 := (hSV.bk HH.out HN.out).readT (Below.refl _ _) 1 rfl
    have q2 := (hSV.bk HH.out HN.out).readT (Below.refl _ _) 2 rfl
    go_simp
    (try with_reducible rfl)
  try simp only [Act.put, List.setIfInBounds_toArray, List.set_cons_zero, List.set_cons_succ]
  refine wpAnyH_ready (rs := [3]) (by kernel_rfl) (by simp) ?_
  refine AllReadyH.cons (o := ?od22) ?hod22 (fun K hK => ?kd22) ?md22
  case hod22 => (simp only [List.getElem?_toArray, List.getElem?_cons_succ, List.getElem?_cons_zero]; exact rfl)
  case kd22 =>
    go_simp
    refine (appSo_any B A0 c0 m bs g _ HOD.out hsU (by omega)).mono ?_
    rintro e V1 ⟨A1, m1, c1, rfl, ho1, ht1, hf1⟩
    have TT1 := Turn.trans hHeld ht1
    have hb1 : Below B U V1 := Turn.below (B := B) TT1 (fun k _ h => HGE.out k h) hsU
    have hs1 : B ≤ V1.heap.size := Nat.le_trans hsU hb1.size
    have hl1 := Ow.len ho1
    rw [List.length_append] at hl1
    (try dsimp only)
    refine hK.out _ _ ?_ (fun hHeld => ?_)
    · exact Turn.trans hHeld ht1
    clear hK K
    try simp only [Act.put, List.setIfInBounds_toArray, List.set_cons_zero, List.set_cons_succ]
    refine wpAnyH_ready (rs := [6]) (by kernel_rfl) (by simp) ?_
    refine AllReadyH.cons (o := ?od23) ?hod23 (fun K hK => ?kd23) ?md23
    case hod23 => (simp only [List.getElem?_toArray, List.getElem?_cons_succ, List.getElem?_cons_zero]; exact rfl)
    case kd23 =>
      go_simp
      refine (appAtom_any B A1 c1 m1 _ q A n c l _ ho1 hs1 (HR.out.below hb1) (by omega)).mono ?_
      rintro e V2 ⟨A2', m2', c2', rfl, ho2, ht2, hf2⟩
      have htt := Turn.then_ (G := fun k => (Value.slice A0 m c0).ownBlock = some k) hHeld ht2 (fun k hk h => by
        rcases hf1 k h with h | h
        · exact h
        · exact absurd hk (by have := (show U.heap.size ≤ k from h); omega))
      (try dsimp only)
      refine hK.out _ _ ?_ (fun hHeld => ?_)
      · exact htt
      clear hK K
      try simp only [Act.put, List.setIfInBounds_toArray, List.set_cons_zero, List.set_cons_succ]
      refine wpAnyH_take (i := 7) (oi := ?oid24) (v := ?vd24) ?hod24 (by kernel_rfl) ?hfd24 ?hrd24 ?hQd24 ?hyd24 hHeld ?restd24
      case hod24 => (simp only [List.getElem?_toArray, List.getElem?_cons_succ, List.getElem?_cons_zero]; exact rfl)
      case hfd24 => kernel_rfl
      case hrd24 => kernel_rfl
      case hQd24 => exact fun _ _ _ h => h
      case hyd24 =>
        refine Or.inl ⟨by rfl, ?_⟩
        intro V hSV
        go_simp
        (try with_reducible rfl)
      try simp only [Act.put, List.setIfInBounds_toArray, List.set_cons_zero, List.set_cons_succ]
      have HFin := Lib.hid (show Puts B A0 c0 m bs (litB (g, (q, l))) w (.returned (.slice A2' m2' c2')) V2 from by
        have hwU : Turn (fun k => (Value.slice A0 m c0).ownBlock = some k) w U := Turn.ofBelow (show Below w.heap.size w U by rw [hhb]; exact HB.out)
        rw [HE.out]
        refine Puts.then_ (hwU.trans (show Turn _ U V1 from TT1)) (fun k hk => (hf1 k hk).imp id (fun h => Nat.le_trans hwU.size h)) ⟨A2', m2', c2', rfl, ho2, ht2, hf2⟩)
      refine wpAnyH_done (by kernel_rfl) ?_ _
      repeat (first | go_skip | go_guarded | go_step)
      go_ret
      exact HFin.out
    exact AllReadyH.nil
  exact AllReadyH.nil

set_option maxRecDepth 100000 in
set_option maxHeartbeats 4000000 in
theorem appCond_any (B : Nat) (A0 : Option Addr) (c0 m : Nat) (bs : List UInt8) (g s : Bool) (x : Tm) (q : UInt32) (A : Option Addr) (n c : Nat) (l : List Tm) (w : World) (hown : Ow w B A0 c0 m bs) (hB : B ≤ w.heap.size) (hr : RdT w B A n l) (hm : m + (condB (g, (s, x, (q, l)))).length ≤ 1000000000) :
    Calls Try.prog 83 #[.slice A0 m c0, .agg #[.bool g, .bool s, .bool x.1, nv x.2, nv q, .slice A n c]] w fun e w' => Puts B A0 c0 m bs (condB (g, (s, x, (q, l)))) w e w' := by
  have HE := Lib.hid (show condB (g, (s, x, (q, l))) = bitB g ++ sayB (s, x, (q, l)) from rfl)
  rw [HE.out, List.length_append] at hm
  have hm0 := Ow.len hown
  have hnot : (Value.slice A0 m c0).ownBlock ≠ some w.heap.size := fun h => by have := (hown.lt _ h).2; omega
  have hge := fun k h => (hown.lt k h).1
  obtain ⟨U, hU, hH, hb, hO⟩ : ∃ U, U = w.alloc (.cells #[.bool g, .bool s, .bool x.1, nv x.2, nv q, .slice A n c] 99) ∧ Bk U w.heap.size 99 [.bool g, .bool s, .bool x.1, nv x.2, nv q, .slice A n c] ∧ Below w.heap.size w U ∧ Ow U B A0 c0 m bs :=
    ⟨_, rfl, Bk.new w _ _, (Below.refl _ _).alloc (Nat.le_refl _) _, Ow.alloc hown _⟩
  have HU := Lib.hid hU
  have HH := Lib.hid hH
  have HB := Lib.hid hb
  have HO := Lib.hid hO
  have HN := Lib.hid hnot
  have HGE := Lib.hid hge
  have HR := Lib.hid (hr.below (hb.mono hB))

  have hsU : B ≤ U.heap.size := Nat.le_trans hB hb.size
  clear hU hH hb hO hr hown hnot hge
  go_enter Try.func83, Try.ntmps83
  go_upto_region 1 with (fail)
  rw [← HU.out]
  clear HU
  generalize hhb : w.heap.size = hb at HH HN HB ⊢
  have HOD := Lib.hid (show Ow U.drew B A0 c0 m bs from HO.out)
  have HRD := Lib.hid (show RdT U.drew B A n l from HR.out)
  refine wp_region_held_drew (S := fun V => Turn (fun k => (Value.slice A0 m c0).ownBlock = some k) U V) (by kernel_rfl) ?_ (fun hHeld => ?_)
  · exact (Turn.refl _ _).drew
  refine wpAnyH_take (i := 0) (oi := ?oid25) (v := ?vd25) ?hod25 (by kernel_rfl) ?hfd25 ?hrd25 ?hQd25 ?hyd25 hHeld ?restd25
  case hod25 => (simp only [List.getElem?_toArray, List.getElem?_cons_succ, List.getElem?_cons_zero]; exact rfl)
  case hfd25 => kernel_rfl
  case hrd25 => kernel_rfl
  case hQd25 => exact fun _ _ _ h => h
  case hyd25 =>
    refine Or.inl ⟨by rfl, ?_⟩
    intro V hSV
    go_simp
    (try with_reducible rfl)
  try simp only [Act.put, List.setIfInBounds_toArray, List.set_cons_zero, List.set_cons_succ]
  refine wpAnyH_take (i := 1) (oi := ?oid26) (v := ?vd26) ?hod26 (by kernel_rfl) ?hfd26 ?hrd26 ?hQd26 ?hyd26 hHeld ?restd26
  case hod26 => (simp only [List.getElem?_toArray, List.getElem?_cons_succ, List.getElem?_cons_zero]; exact rfl)
  case hfd26 => kernel_rfl
  case hrd26 => kernel_rfl
  case hQd26 => exact fun _ _ _ h => h
  case hyd26 =>
    refine Or.inl ⟨by rfl, ?_⟩
    intro V hSV
    go_simp
    (try with_reducible rfl)
  try simp only [Act.put, List.setIfInBounds_toArray, List.set_cons_zero, List.set_cons_succ]
  refine wpAnyH_take (i := 2) (oi := ?oid27) (v := ?vd27) ?hod27 (by kernel_rfl) ?hfd27 ?hrd27 ?hQd27 ?hyd27 hHeld ?restd27
  case hod27 => (simp only [List.getElem?_toArray, List.getElem?_cons_succ, List.getElem?_cons_zero]; exact rfl)
  case hfd27 => kernel_rfl
  case hrd27 => kernel_rfl
  case hQd27 => exact fun _ _ _ h => h
  case hyd27 =>
    refine Or.inl ⟨by rfl, ?_⟩
    intro V hSV
    have q0 := (hSV.bk HH.out HN.out).readT (Below.refl _ _) 0 rfl
    go_simp
    (try with_reducible rfl)
  try simp only [Act.put, List.setIfInBounds_toArray, List.set_cons_zero, List.set_cons_succ]
  refine wpAnyH_take (i := 4) (oi := ?oid28) (v := ?vd28) ?hod28 (by kernel_rfl) ?hfd28 ?hrd28 ?hQd28 ?hyd28 hHeld ?restd28
  case hod28 => (simp only [List.getElem?_toArray, List.getElem?_cons_succ, List.getElem?_cons_zero]; exact rfl)
  case hfd28 => kernel_rfl
  case hrd28 => kernel_rfl
  case hQd28 => exact fun _ _ _ h => h
  case hyd28 =>
    refine Or.inl ⟨by rfl, ?_⟩
    intro V hSV
    go_simp
    (try with_reducible rfl)
  try simp only [Act.put, List.setIfInBounds_toArray, List.set_cons_zero, List.set_cons_succ]
  refine wpAnyH_take (i := 5) (oi := ?oid29) (v := ?vd29) ?hod29 (by kernel_rfl) ?hfd29 ?hrd29 ?hQd29 ?hyd29 hHeld ?restd29
  case hod29 => (simp only [List.getElem?_toArray, List.getElem?_cons_succ, List.getElem?_cons_zero]; exact rfl)
  case hfd29 => kernel_rfl
  case hrd29 => kernel_rfl
  case hQd29 => exact fun _ _ _ h => h
  case hyd29 =>
    refine Or.inl ⟨by rfl, ?_⟩
    intro V hSV
    have q1 := (hSV.bk HH.out HN.out).readT (Below.refl _ _) 1 rfl
    have q2 := (hSV.bk HH.out HN.out).readT (Below.refl _ _) 2 rfl
    have q3 := (hSV.bk HH.out HN.out).readT (Below.refl _ _) 3 rfl
    have q4 := (hSV.bk HH.out HN.out).readT (Below.refl _ _) 4 rfl
    have q5 := (hSV.bk HH.out HN.out).readT (Below.refl _ _) 5 rfl
    go_simp
    (try with_reducible rfl)
  try simp only [Act.put, List.setIfInBounds_toArray, List.set_cons_zero, List.set_cons_succ]
  refine wpAnyH_ready (rs := [3]) (by kernel_rfl) (by simp) ?_
  refine AllReadyH.cons (o := ?od30) ?hod30 (fun K hK => ?kd30) ?md30
  case hod30 => (simp only [List.getElem?_toArray, List.getElem?_cons_succ, List.getElem?_cons_zero]; exact rfl)
  case kd30 =>
    go_simp
    refine (appSo_any B A0 c0 m bs g _ HOD.out hsU (by omega)).mono ?_
    rintro e V1 ⟨A1, m1, c1, rfl, ho1, ht1, hf1⟩
    have TT1 := Turn.trans hHeld ht1
    have hb1 : Below B U V1 := Turn.below (B := B) TT1 (fun k _ h => HGE.out k h) hsU
    have hs1 : B ≤ V1.heap.size := Nat.le_trans hsU hb1.size
    have hl1 := Ow.len ho1
    rw [List.length_append] at hl1
    (try dsimp only)
    refine hK.out _ _ ?_ (fun hHeld => ?_)
    · exact Turn.trans hHeld ht1
    clear hK K
    try simp only [Act.put, List.setIfInBounds_toArray, List.set_cons_zero, List.set_cons_succ]
    refine wpAnyH_ready (rs := [6]) (by kernel_rfl) (by simp) ?_
    refine AllReadyH.cons (o := ?od31) ?hod31 (fun K hK => ?kd31) ?md31
    case hod31 => (simp only [List.getElem?_toArray, List.getElem?_cons_succ, List.getElem?_cons_zero]; exact rfl)
    case kd31 =>
      go_simp
      refine (appSay_any B A1 c1 m1 _ s x q A n c l _ ho1 hs1 (HR.out.below hb1) (by omega)).mono ?_
      rintro e V2 ⟨A2', m2', c2', rfl, ho2, ht2, hf2⟩
      have htt := Turn.then_ (G := fun k => (Value.slice A0 m c0).ownBlock = some k) hHeld ht2 (fun k hk h => by
        rcases hf1 k h with h | h
        · exact h
        · exact absurd hk (by have := (show U.heap.size ≤ k from h); omega))
      (try dsimp only)
      refine hK.out _ _ ?_ (fun hHeld => ?_)
      · exact htt
      clear hK K
      try simp only [Act.put, List.setIfInBounds_toArray, List.set_cons_zero, List.set_cons_succ]
      refine wpAnyH_take (i := 7) (oi := ?oid32) (v := ?vd32) ?hod32 (by kernel_rfl) ?hfd32 ?hrd32 ?hQd32 ?hyd32 hHeld ?restd32
      case hod32 => (simp only [List.getElem?_toArray, List.getElem?_cons_succ, List.getElem?_cons_zero]; exact rfl)
      case hfd32 => kernel_rfl
      case hrd32 => kernel_rfl
      case hQd32 => exact fun _ _ _ h => h
      case hyd32 =>
        refine Or.inl ⟨by rfl, ?_⟩
        intro V hSV
        go_simp
        (try with_reducible rfl)
      try simp only [Act.put, List.setIfInBounds_toArray, List.set_cons_zero, List.set_cons_succ]
      have HFin := Lib.hid (show Puts B A0 c0 m bs (condB (g, (s, x, (q, l)))) w (.returned (.slice A2' m2' c2')) V2 from by
        have hwU : Turn (fun k => (Value.slice A0 m c0).ownBlock = some k) w U := Turn.ofBelow (show Below w.heap.size w U by rw [hhb]; exact HB.out)
        rw [HE.out]
        refine Puts.then_ (hwU.trans (show Turn _ U V1 from TT1)) (fun k hk => (hf1 k hk).imp id (fun h => Nat.le_trans hwU.size h)) ⟨A2', m2', c2', rfl, ho2, ht2, hf2⟩)
      refine wpAnyH_done (by kernel_rfl) ?_ _
      repeat (first | go_skip | go_guarded | go_step)
      go_ret
      exact HFin.out
    exact AllReadyH.nil
  exact AllReadyH.nil
end Go.Proofs.Ytcoafgnbmgndeaa
