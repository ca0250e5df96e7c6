/- GraphMore: one edge more joins parts, and never parts them. No condition. (Written by genGrVd.py.) -/
import Derived.Test.YtbfagejdpbagjaaGrVf
set_option linter.unusedVariables false
set_option linter.unusedSimpArgs false
namespace Go.Proofs.Ytbfagejdpbagjaa.graphMore
open Go Go.RowKit Go.ChangeShapes Go.WideShapes Go.ChangeAt

def Closed (E : List (Nat × Nat)) (f : Nat → Bool) : Prop := ∀ e ∈ E, f e.1 = true → f e.2 = true
theorem both_app {E : List (Nat × Nat)} {a b u v : Nat} (h : Both E u v) : Both (E ++ [(a, b)]) u v := ⟨h.1.mono fun e he => List.mem_append_left _ he, h.2.mono fun e he => List.mem_append_left _ he⟩
theorem both_new {E : List (Nat × Nat)} {a b : Nat} : Both (E ++ [(a, b)]) a b ↔ Com E b a :=
  ⟨fun h => com_back h.2, fun h => ⟨Com.one (List.mem_append_right _ (by simp)), h.mono fun e he => List.mem_append_left _ he⟩⟩
theorem order_twice {n : Nat} {E : List (Nat × Nat)} {a b : Nat} {L M : List (List Nat)} (h : Order n (E ++ [(a, b)]) [] L) (k : Order n ((E ++ [(a, b)]) ++ [(a, b)]) [] M) : M = L := by
  have h1 : Com (E ++ [(a, b)]) a b := Com.one (List.mem_append_right _ (by simp))
  exact (k.congr (E' := E ++ [(a, b)]) fun u v _ => com_more h1).unique h
set_option maxRecDepth 100000 in
set_option maxHeartbeats 1000000 in
theorem walkFew (n : Int) (A : Option Addr) (ne c : Nat) (E0 : List (Int × Int)) (a b : Nat) (w : World) (hr : RdE w w.heap.size A ne E0) (hf : ¬ (n ≤ 60 ∧ ne ≤ 300)) :
    Calls Try.prog 7 #[.int .i64 n, .slice A ne c, .int .u8 (a : Int), .int .u8 (b : Int)] w fun e w' => e = .returned (.bool true) ∧ Below w.heap.size w w' := by
  have hfew := few_any n A ne c w
  rw [decide_eq_false hf] at hfew
  clear hr hf
  go_enter Try.func7, Try.ntmps7
  repeat (first | go_skip | go_guarded | go_step)
  refine hfew.mono ?_
  rintro e w1 ⟨rfl, rfl⟩
  clear hfew
  dsimp only
  repeat (first | go_skip | go_guarded | go_step)
  refine (works_any _).mono ?_
  rintro e wz ⟨rfl, hbz⟩
  have HBZ := Lib.hid hbz
  clear hbz
  dsimp only
  repeat (first | go_skip | go_guarded | go_step)
  go_ret
  exact ⟨rfl, HBZ.out⟩
set_option maxRecDepth 100000 in
set_option maxHeartbeats 1000000 in
theorem walkNot (n : Int) (A : Option Addr) (ne c : Nat) (E0 : List (Int × Int)) (a b : Nat) (w : World) (hr : RdE w w.heap.size A ne E0) (hf : n ≤ 60 ∧ ne ≤ 300) (hg : rightB n ne E0 = false) :
    Calls Try.prog 7 #[.int .i64 n, .slice A ne c, .int .u8 (a : Int), .int .u8 (b : Int)] w fun e w' => e = .returned (.bool true) ∧ Below w.heap.size w w' := by
  have hfew := few_any n A ne c w
  rw [decide_eq_true hf] at hfew
  have hright := right_any n A ne c E0 w hr
  rw [hg] at hright
  clear hr hf hg
  go_enter Try.func7, Try.ntmps7
  repeat (first | go_skip | go_guarded | go_step)
  refine hfew.mono ?_
  rintro e w1 ⟨rfl, rfl⟩
  clear hfew
  dsimp only
  repeat (first | go_skip | go_guarded | go_step)
  refine hright.mono ?_
  rintro e w1 ⟨rfl, rfl⟩
  clear hright
  dsimp only
  repeat (first | go_skip | go_guarded | go_step)
  refine (works_any _).mono ?_
  rintro e wz ⟨rfl, hbz⟩
  have HBZ := Lib.hid hbz
  clear hbz
  dsimp only
  repeat (first | go_skip | go_guarded | go_step)
  go_ret
  exact ⟨rfl, HBZ.out⟩
set_option maxRecDepth 100000 in
set_option maxHeartbeats 1000000 in
theorem walkNone (E : List (Nat × Nat)) (A : Option Addr) (ne c : Nat) (a b : Nat) (w : World) (hr : RdE w w.heap.size A ne (ei E)) (hE : In 0 E) (hne : ne ≤ 300) :
    Calls Try.prog 7 #[.int .i64 0, .slice A ne c, .int .u8 (a : Int), .int .u8 (b : Int)] w fun e w' => e = .returned (.bool true) ∧ Below w.heap.size w w' := by
  have hfew := few_any 0 A ne c w
  rw [decide_eq_true (by omega)] at hfew
  have hright := right_ok 0 E A ne c w hr hE (by omega) hne
  clear hr hE
  go_enter Try.func7, Try.ntmps7
  repeat (first | go_skip | go_guarded | go_step)
  refine hfew.mono ?_
  rintro e w1 ⟨rfl, rfl⟩
  clear hfew
  dsimp only
  repeat (first | go_skip | go_guarded | go_step)
  refine hright.mono ?_
  rintro e w1 ⟨rfl, rfl⟩
  clear hright
  dsimp only
  repeat (first | go_skip | go_guarded | go_step)
  refine (works_any _).mono ?_
  rintro e wz ⟨rfl, hbz⟩
  have HBZ := Lib.hid hbz
  clear hbz
  dsimp only
  repeat (first | go_skip | go_guarded | go_step)
  go_ret
  exact ⟨rfl, HBZ.out⟩
set_option maxRecDepth 100000 in
set_option maxHeartbeats 8000000 in
theorem walk (k : Nat) (E : List (Nat × Nat)) (A : Option Addr) (ne c : Nat) (a b : Nat) (w : World) (hr : RdE w w.heap.size A ne (ei E)) (hE : In k E) (hk : k ≤ 60) (hk0 : 0 < k) (hne : ne ≤ 300) (ha : a ≤ 255) (hb : b ≤ 255) :
    Calls Try.prog 7 #[ni k, .slice A ne c, .int .u8 (a : Int), .int .u8 (b : Int)] w fun e w' => e = .returned (.bool true) ∧ Below w.heap.size w w' := by
  have hfew := few_any (k : Int) A ne c w
  rw [decide_eq_true (by omega)] at hfew
  have hright := right_ok k E A ne c w hr hE hk hne
  have hlen : E.length = ne := by rw [← ei_len]; exact hr.len
  have HR := Lib.hid hr
  have HE := Lib.hid hE
  obtain ⟨i0, hi0, hz0, hz1, hz2⟩ := info_parts boolInfo
  have hb4 : i0.bytes * k ≤ 281474976710656 := by rw [hz2]; omega
  have hmx : k ≤ maxLen := by simp only [maxLen]; omega
  have hkz : ¬ (k : Int) = 0 := by omega
  have hkz2 : ((k : Int) == 0) = false := by simp; omega
  have hk1 : ¬ (k : Int) < 1 := by omega
  have hwa : IntKind.i64.wrap (a : Int) = (a : Int) := by rw [IntKind.wrap_i64]; omega
  have hwb : IntKind.i64.wrap (b : Int) = (b : Int) := by rw [IntKind.wrap_i64]; omega
  obtain ⟨u, hu⟩ : ∃ u : Nat, u = a % k := ⟨_, rfl⟩
  obtain ⟨v, hv⟩ : ∃ v : Nat, v = b % k := ⟨_, rfl⟩
  have htu : Int.tmod (a : Int) (k : Int) = (u : Int) := by rw [Int.tmod_eq_emod_of_nonneg (by omega), hu]; simp
  have htv : Int.tmod (b : Int) (k : Int) = (v : Int) := by rw [Int.tmod_eq_emod_of_nonneg (by omega), hv]; simp
  have huk : u < k := by rw [hu]; exact Nat.mod_lt _ hk0
  have hvk : v < k := by rw [hv]; exact Nat.mod_lt _ hk0
  have hwu : IntKind.i64.wrap (u : Int) = (u : Int) := by rw [IntKind.wrap_i64]; omega
  have hwv : IntKind.i64.wrap (v : Int) = (v : Int) := by rw [IntKind.wrap_i64]; omega
  clear hr hE hu hv
  go_enter Try.func7, Try.ntmps7
  repeat (first | go_skip | go_guarded | go_step)
  refine hfew.mono ?_
  rintro e w1 ⟨rfl, rfl⟩
  clear hfew
  dsimp only
  repeat (first | go_skip | go_guarded | go_step)
  refine hright.mono ?_
  rintro e w1 ⟨rfl, rfl⟩
  clear hright
  dsimp only
  repeat (first | go_skip | go_guarded | go_step)
  refine (parts_nat k E A ne c w1 HR.out (by omega) HE.out (by omega)).mono ?_
  rintro e w2 ⟨A1, c1, L1, R1, rfl, hr1, ho1, hl1, hb1⟩
  have HR1 := Lib.hid hr1
  have HI1 := Lib.hid (ho1.isParts HE.out)
  have HB12 := Lib.hid hb1
  have HC1 := Lib.hid (order_cls ho1)
  have HRE2 := Lib.hid ((HR.out.below hb1).more hb1.size)
  obtain ⟨m1, hm1⟩ : ∃ m1, m1 = L1.length := ⟨_, rfl⟩
  rw [← hm1] at hl1 ⊢
  have HM1 := Lib.hid hm1
  clear hr1 ho1 hb1 hm1
  dsimp only
  obtain ⟨w0, hw0⟩ : ∃ w0, w0 = w2.alloc (.cells #[] 31) := ⟨_, rfl⟩
  have HO0 := Lib.hid (show OwE w0 w2.heap.size (some ⟨w2.heap.size, 0, none⟩) 0 0 [] from hw0 ▸ OwE.lit0 w2)
  have HB0 := Lib.hid (show Below w2.heap.size w2 w0 from hw0 ▸ (Below.refl w2.heap.size w2).alloc (Nat.le_refl _) _)
  have HW0 := Lib.hid hw0
  have HRZ := Lib.hid ((HRE2.out.below HB0.out).more HB0.out.size)
  clear hw0
  repeat (first
    | (at_builtin; rw [← HW0.out]
       refine appE0 _ rfl (.tmp 54) (.tmp 55) rfl w2.heap.size (some ⟨w2.heap.size, 0, none⟩) 0 rfl HO0.out _ A ne c (ei E) rfl HRZ.out (by omega) HB0.out.size ?_
       intro Ak ck w3 hok htk hfk
       have hB23 : Below w2.heap.size w2 w3 := HB0.out.trans (htk.below (B := w2.heap.size) (fun y _ e => by cases e; exact Nat.le_refl _) HB0.out.size)
       have hZ : Below w3.heap.size w3 (w3.alloc (.cells #[.int .i64 (u : Int), .int .i64 (v : Int)] 31)) := (Below.refl _ _).alloc (Nat.le_refl _) _
       have HOK := Lib.hid (hok.later hZ)
       have HB3 := Lib.hid (hB23.trans (hZ.mono hB23.size))
       clear hok htk hfk hB23 hZ)
    | (at_builtin
       refine appE _ rfl (.tmp 56) (.tmp 60) rfl w2.heap.size Ak ck ne (ei E) rfl HOK.out _ _ 1 1 [((u : Int), (v : Int))] rfl (litE_rd [((u : Int), (v : Int))] w3) (by omega) HB3.out.size ?_
       intro A3 c3 w5 ho5 ht5 hf5
       have HO5 := Lib.hid ho5
       have HB25 := Lib.hid (HB3.out.trans (ht5.below (B := w2.heap.size) (fun y _ e => (owE_low HOK.out e).1) HB3.out.size))
       clear ho5 ht5 hf5)
    | go_skip | go_guarded | go_step)
  refine (parts_fresh k (E ++ [(u, v)]) A3 (ne + 1) c3 w5 (by rw [ei_app]; exact HO5.out.rd) (by omega) (in_app HE.out huk hvk) (by omega)).mono ?_
  rintro e w6 ⟨A2, c2, L2, R2, rfl, hr2, ho2, hl2, hb2, hf2, hf2b⟩
  have HR2 := Lib.hid hr2
  have HO2 := Lib.hid ho2
  have HI2 := Lib.hid (ho2.isParts (in_app HE.out huk hvk))
  have HB56 := Lib.hid hb2
  have HC2 := Lib.hid (order_cls ho2)
  have HF2 := Lib.hid hf2
  have HF2B := Lib.hid hf2b
  obtain ⟨m2, hm2⟩ : ∃ m2, m2 = L2.length := ⟨_, rfl⟩
  rw [← hm2] at hl2 ⊢
  have HM2 := Lib.hid hm2
  have hle : m2 ≤ m1 := by
    rw [HM1.out, hm2]
    exact HI1.out.le_of HI2.out fun x y _ _ h => both_app h
  have hZ : Below w6.heap.size w6 (w6.alloc (.cells #[.int .i64 (u : Int), .int .i64 (v : Int)] 31)) := (Below.refl _ _).alloc (Nat.le_refl _) _
  have HO6 := Lib.hid ((HO5.out.later hb2).later hZ)
  have HB26 := Lib.hid (HB25.out.trans (hb2.mono HB25.out.size))
  have HB2Z := Lib.hid (HB26.out.trans (hZ.mono HB26.out.size))
  have HZ6 := Lib.hid hZ
  clear hr2 ho2 hb2 hf2 hf2b hm2 hZ
  dsimp only
  repeat (first
    | (at_builtin
       refine appE _ rfl (.tmp 70) (.tmp 74) rfl w2.heap.size A3 c3 (ne + 1) (ei E ++ [((u : Int), (v : Int))]) rfl HO6.out _ _ 1 1 [((u : Int), (v : Int))] rfl (litE_rd [((u : Int), (v : Int))] w6) (by omega) HB2Z.out.size ?_
       intro A4 c4 w8 ho8 ht8 hf8
       have HO8 := Lib.hid ho8
       have HT8 := Lib.hid ht8
       have HB28 := Lib.hid (HB2Z.out.trans (ht8.below (B := w2.heap.size) (fun y _ e => (owE_low HO6.out e).1) HB2Z.out.size))
       clear ho8 ht8 hf8)
    | go_skip | go_guarded | go_step)
  refine (parts_nat k ((E ++ [(u, v)]) ++ [(u, v)]) A4 (ne + 1 + 1) c4 w8 (by rw [ei_app, ei_app]; exact HO8.out.rd) (by omega) (in_app (in_app HE.out huk hvk) huk hvk) (by simp; omega)).mono ?_
  rintro e w9 ⟨A5, c5, L3, R3, rfl, hr3, ho3, hl3, hb3⟩
  obtain rfl : L3 = L2 := order_twice HO2.out ho3
  have HR3 := Lib.hid hr3
  have HR2a := Lib.hid (show RdP w8 w6.heap.size A2 L3 R2 from (HR2.out.below HZ6.out).turn HT8.out HZ6.out.size (fun r hr e => by
      have h1 := (owE_low HO5.out e).2
      have h2 := HF2.out r hr
      omega) (fun x hx e => by
      have h1 := (owE_low HO5.out e).2
      have h2 := HF2B.out x hx
      omega))
  have h68 : w6.heap.size ≤ w8.heap.size := Nat.le_trans HZ6.out.size HT8.out.size
  have HR2c := Lib.hid (((HR2a.out.more h68).below hb3).more hb3.size)
  have HB29 := Lib.hid (HB28.out.trans (hb3.mono HB28.out.size))
  have HR1c := Lib.hid ((HR1.out.below HB29.out).more HB29.out.size)
  have HRE9 := Lib.hid ((HRE2.out.below HB29.out).more HB29.out.size)
  have HB19 := Lib.hid (HB12.out.trans (HB29.out.mono HB12.out.size))
  have hgt : ¬ (m1 : Int) < (m2 : Int) := by omega
  have hnn : ((m2 : Int) != (m2 : Int)) = false := by simp
  rw [← HM2.out]
  clear hr3 ho3 hb3 h68
  dsimp only
  repeat (first | go_skip | go_guarded | go_step)
  go_loopw [18] (fun q wr => ∃ i : Nat, i ≤ k ∧ q = .int .i64 (i : Int) ∧ Below w9.heap.size w9 wr) (fun q _ => k - (intOf q).toNat)
  case atStart => exact ⟨0, by omega, rfl, Below.refl _ _⟩
  case round =>
    rename World => wi
    obtain ⟨i, hi, rfl, hbw⟩ := hrel
    have HBI := Lib.hid hbw
    clear hbw
    by_cases hlti : i < k
    · have hii : (i : Int) < (k : Int) := by omega
      repeat (first | go_skip | go_guarded | go_step)
      go_loopw [19] (fun q wr => ∃ j : Nat, j ≤ k ∧ q = .int .i64 (j : Int) ∧ Below w9.heap.size w9 wr) (fun q _ => k - (intOf q).toNat)
      case atStart => exact ⟨0, by omega, rfl, HBI.out⟩
      case round =>
        rename World => wj
        obtain ⟨j, hj, rfl, hbw⟩ := hrel
        have HBJ := Lib.hid hbw
        clear hbw
        by_cases hltj : j < k
        · have hji : (j : Int) < (k : Int) := by omega
          obtain ⟨x1, hx1⟩ : ∃ x1, x1 = ofQ L1 i := ⟨_, rfl⟩
          obtain ⟨y1, hy1⟩ : ∃ y1, y1 = ofQ L1 j := ⟨_, rfl⟩
          obtain ⟨x2, hx2⟩ : ∃ x2, x2 = ofQ L3 i := ⟨_, rfl⟩
          obtain ⟨y2, hy2⟩ : ∃ y2, y2 = ofQ L3 j := ⟨_, rfl⟩
          have HX1 := Lib.hid (show partIx L1 (i : Int) = (x1 : Int) by rw [hx1]; exact partIx_at HI1.out hlti)
          have HY1 := Lib.hid (show partIx L1 (j : Int) = (y1 : Int) by rw [hy1]; exact partIx_at HI1.out hltj)
          have HX2 := Lib.hid (show partIx L3 (i : Int) = (x2 : Int) by rw [hx2]; exact partIx_at HI2.out hlti)
          have HY2 := Lib.hid (show partIx L3 (j : Int) = (y2 : Int) by rw [hy2]; exact partIx_at HI2.out hltj)
          have himp : x1 = y1 → x2 = y2 := fun e => by
            rw [hx1, hy1] at e
            rw [hx2, hy2]
            exact (HI2.out.both_iff hlti hltj).2 (both_app ((HI1.out.both_iff hlti hltj).1 e))
          clear hx1 hy1 hx2 hy2
          repeat (first | go_skip | go_guarded | go_step)
          refine (part_at c1 _ HR1c.out HM1.out.symm (by omega) (fun p hp => by have := HC1.out p hp; omega) HX1.out HBJ.out).mono ?_
          rintro e wq1 ⟨rfl, hq1, -⟩
          have HBa := Lib.hid hq1
          clear hq1
          dsimp only
          repeat (first | go_skip | go_guarded | go_step)
          refine (part_at c1 _ HR1c.out HM1.out.symm (by omega) (fun p hp => by have := HC1.out p hp; omega) HY1.out HBa.out).mono ?_
          rintro e wq2 ⟨rfl, hq2, -⟩
          have HBb := Lib.hid hq2
          clear hq2
          dsimp only
          repeat (first | go_skip | go_guarded | go_step)
          by_cases e1 : x1 = y1
          · have he1 : ((x1 : Int) == (y1 : Int)) = true := by simp; omega
            have he2 : ((x2 : Int) == (y2 : Int)) = true := by have := himp e1; simp; omega
            repeat (first | go_skip | go_guarded | go_step)
            refine (part_at c2 _ HR2c.out HM2.out.symm (by omega) (fun p hp => by have := HC2.out p hp; omega) HX2.out HBb.out).mono ?_
            rintro e wq3 ⟨rfl, hq3, -⟩
            have HBc := Lib.hid hq3
            clear hq3
            dsimp only
            repeat (first | go_skip | go_guarded | go_step)
            refine (part_at c2 _ HR2c.out HM2.out.symm (by omega) (fun p hp => by have := HC2.out p hp; omega) HY2.out HBc.out).mono ?_
            rintro e wq4 ⟨rfl, hq4, -⟩
            have HBd := Lib.hid hq4
            clear hq4
            dsimp only
            repeat (first | go_skip | go_guarded | go_step)
            refine (part_at c5 _ HR3.out HM2.out.symm (by omega) (fun p hp => by have := HC2.out p hp; omega) HX2.out HBd.out).mono ?_
            rintro e wq5 ⟨rfl, hq5, -⟩
            have HBe := Lib.hid hq5
            clear hq5
            dsimp only
            repeat (first | go_skip | go_guarded | go_step)
            refine (part_at c5 _ HR3.out HM2.out.symm (by omega) (fun p hp => by have := HC2.out p hp; omega) HY2.out HBe.out).mono ?_
            rintro e wq6 ⟨rfl, hq6, -⟩
            have HBf := Lib.hid hq6
            clear hq6
            dsimp only
            repeat (first | go_skip | go_guarded | go_step)
            go_roundw
            case rel => exact ⟨j + 1, by omega, by go_num, HBf.out⟩
            case measure => simp [intOf]; omega
          · have he1 : ((x1 : Int) == (y1 : Int)) = false := by simp; omega
            by_cases e2 : x2 = y2
            · have he2 : ((x2 : Int) == (y2 : Int)) = true := by simp; omega
              repeat (first | go_skip | go_guarded | go_step)
              refine (part_at c2 _ HR2c.out HM2.out.symm (by omega) (fun p hp => by have := HC2.out p hp; omega) HX2.out HBb.out).mono ?_
              rintro e wq7 ⟨rfl, hq7, -⟩
              have HBc := Lib.hid hq7
              clear hq7
              dsimp only
              repeat (first | go_skip | go_guarded | go_step)
              refine (part_at c2 _ HR2c.out HM2.out.symm (by omega) (fun p hp => by have := HC2.out p hp; omega) HY2.out HBc.out).mono ?_
              rintro e wq8 ⟨rfl, hq8, -⟩
              have HBd := Lib.hid hq8
              clear hq8
              dsimp only
              repeat (first | go_skip | go_guarded | go_step)
              refine (part_at c5 _ HR3.out HM2.out.symm (by omega) (fun p hp => by have := HC2.out p hp; omega) HX2.out HBd.out).mono ?_
              rintro e wq9 ⟨rfl, hq9, -⟩
              have HBe := Lib.hid hq9
              clear hq9
              dsimp only
              repeat (first | go_skip | go_guarded | go_step)
              refine (part_at c5 _ HR3.out HM2.out.symm (by omega) (fun p hp => by have := HC2.out p hp; omega) HY2.out HBe.out).mono ?_
              rintro e wq10 ⟨rfl, hq10, -⟩
              have HBf := Lib.hid hq10
              clear hq10
              dsimp only
              repeat (first | go_skip | go_guarded | go_step)
              go_roundw
              case rel => exact ⟨j + 1, by omega, by go_num, HBf.out⟩
              case measure => simp [intOf]; omega
            · have he2 : ((x2 : Int) == (y2 : Int)) = false := by simp; omega
              repeat (first | go_skip | go_guarded | go_step)
              refine (part_at c2 _ HR2c.out HM2.out.symm (by omega) (fun p hp => by have := HC2.out p hp; omega) HX2.out HBb.out).mono ?_
              rintro e wq11 ⟨rfl, hq11, -⟩
              have HBc := Lib.hid hq11
              clear hq11
              dsimp only
              repeat (first | go_skip | go_guarded | go_step)
              refine (part_at c2 _ HR2c.out HM2.out.symm (by omega) (fun p hp => by have := HC2.out p hp; omega) HY2.out HBc.out).mono ?_
              rintro e wq12 ⟨rfl, hq12, -⟩
              have HBd := Lib.hid hq12
              clear hq12
              dsimp only
              repeat (first | go_skip | go_guarded | go_step)
              refine (part_at c5 _ HR3.out HM2.out.symm (by omega) (fun p hp => by have := HC2.out p hp; omega) HX2.out HBd.out).mono ?_
              rintro e wq13 ⟨rfl, hq13, -⟩
              have HBe := Lib.hid hq13
              clear hq13
              dsimp only
              repeat (first | go_skip | go_guarded | go_step)
              refine (part_at c5 _ HR3.out HM2.out.symm (by omega) (fun p hp => by have := HC2.out p hp; omega) HY2.out HBe.out).mono ?_
              rintro e wq14 ⟨rfl, hq14, -⟩
              have HBf := Lib.hid hq14
              clear hq14
              dsimp only
              repeat (first | go_skip | go_guarded | go_step)
              go_roundw
              case rel => exact ⟨j + 1, by omega, by go_num, HBf.out⟩
              case measure => simp [intOf]; omega
        · obtain rfl : k = j := by omega
          have hji : ¬ (k : Int) < (k : Int) := by omega
          repeat (first | go_skip | go_guarded | go_step)
          go_roundw
          case rel => exact ⟨i + 1, by omega, by go_num, HBJ.out⟩
          case measure => simp [intOf]; omega
    · obtain rfl : k = i := by omega
      have hii : ¬ (k : Int) < (k : Int) := by omega
      repeat (first
        | (at_make; refine wpList_make_bk _ rfl (.tmp 143) (.tmp 143) 34 rfl 4 i0 _ Try.underlying34 hi0 hz0 hz1 rfl .i64 .i64 (k : Int) (k : Int) k k rfl rfl rfl rfl (Nat.le_refl _) hb4 hmx ?_
           intro W1 hb1 hbw1 hs1
           have hbk : Bk W1 wi.heap.size 4 (bC k fun _ => false) := by rw [← bC_false]; exact hb1
           have cG := (hbk.cell v).trans (bC_at _ hvk)
           have fG := hbk.frozen v
           have hvi : (v : Int) < (k : Int) := by omega
           have hv0 : (0 : Int) ≤ (v : Int) := by omega
           have HW1 := Lib.hid (HBI.out.trans (hbw1.mono HBI.out.size))
           have HBK := Lib.hid hbk
           clear hb1 hbw1 hs1 hbk)
        | go_skip | go_guarded | go_step)
      obtain ⟨gR, hgR⟩ : ∃ gR, gR = wi.heap.size := ⟨_, rfl⟩
      rw [← hgR]
      have hgl : w9.heap.size ≤ gR := by rw [hgR]; exact HBI.out.size
      obtain ⟨W2, hW2, hbk2, hbw2⟩ : ∃ W2, W2 = W1.setCell ⟨gR, v, none⟩ (.bool true) ∧ Bk W2 gR 4 (bC k (upd (fun _ => false) v true)) ∧ Below w9.heap.size w9 W2 :=
        ⟨_, rfl, by rw [hgR, ← bC_set]; exact HBK.out.set_ _ _, HW1.out.setCell (p := ⟨gR, v, none⟩) hgl _⟩
      rw [← hW2]
      have HBK2 := Lib.hid hbk2
      have HBW2 := Lib.hid hbw2
      have HGL := Lib.hid hgl
      clear hgR hW2 hbk2 hbw2 cG fG HBK HW1 hgl
      go_loopw [23] (fun q wr => ∃ (r : Nat) (f : Nat → Bool), r ≤ k ∧ q = .int .i64 (r : Int) ∧ Bk wr gR 4 (bC k f) ∧ f v = true ∧ (∀ x, f x = true → Com E v x) ∧ (Closed E f ∨ cntF k f + r + 1 ≤ k) ∧ Below w9.heap.size w9 wr) (fun q _ => k - (intOf q).toNat)
      case atStart => exact ⟨0, _, by omega, rfl, HBK2.out, upd_same, (fun x hx => by
        by_cases e : x = v
        · subst e; exact .refl
        · rw [upd_other e] at hx; cases hx), .inr (by have h1 := cntF_upd (f := fun _ => false) hvk rfl; have h2 := cntF_le k (fun _ => false); omega), HBW2.out⟩
      case round =>
        rename World => wr
        obtain ⟨r, f, hr, rfl, hbk, hfv, hso, hcl, hbw⟩ := hrel
        have HBKr := Lib.hid hbk
        have HFV := Lib.hid hfv
        have HSO := Lib.hid hso
        have HCL := Lib.hid hcl
        have HBr := Lib.hid hbw
        clear hbk hfv hso hcl hbw
        by_cases hltr : r < k
        · have hri : (r : Int) < (k : Int) := by omega
          repeat (first | go_skip | go_guarded | go_step)
          go_loopw [24] (fun q w4 => ∃ (i : Nat) (f2 : Nat → Bool), i ≤ ne ∧ q = .int .i64 (i : Int) ∧ Bk w4 gR 4 (bC k f2) ∧ f2 v = true ∧ (∀ x, f2 x = true → Com E v x) ∧ (∀ x, f x = true → f2 x = true) ∧ (∀ e ∈ E.take i, f e.1 = true → f2 e.2 = true) ∧ (Closed E f → f2 = f) ∧ Below w9.heap.size w9 w4) (fun q _ => ne - (intOf q).toNat)
          case atStart => exact ⟨0, f, by omega, rfl, HBKr.out, HFV.out, HSO.out, fun _ h => h, by simp, fun _ => rfl, HBr.out⟩
          case round =>
            rename World => w4
            obtain ⟨i, f2, hi, rfl, hbk, hfv, hso, hmo, hed, hcl, hbw⟩ := hrel
            have HBK4 := Lib.hid hbk
            have HFV4 := Lib.hid hfv
            have HSO4 := Lib.hid hso
            have HMO4 := Lib.hid hmo
            have HED4 := Lib.hid hed
            have HCL4 := Lib.hid hcl
            have HB4 := Lib.hid hbw
            clear hbk hfv hso hmo hed hcl hbw
            by_cases hlti2 : i < ne
            · have hii2 : (i : Int) < (ne : Int) := by omega
              obtain ⟨be, oe, ed, hA, hbe, he, hc0, hc1⟩ := HRE9.out.at_ hlti2
              subst hA
              obtain ⟨⟨p, q⟩, hx, rfl⟩ := ei_at he
              obtain ⟨hp, hq⟩ := HE.out _ (List.mem_of_getElem? hx)
              dsimp only at hp hq hc0 hc1
              have k0 := (HB4.out.cell (p := ⟨be, oe + i * 2, none⟩) hbe).trans hc0
              have k1 := (HB4.out.cell (p := ⟨be, oe + i * 2 + 1, none⟩) hbe).trans hc1
              have HX := Lib.hid hx
              have HTK := Lib.hid (show E.take (i + 1) = E.take i ++ [(p, q)] by rw [List.take_add_one, hx]; rfl)
              clear hx he hc0 hc1 hbe
              have cp := (HBK4.out.cell p).trans (bC_at _ hp)
              have cq := (HBK4.out.cell q).trans (bC_at _ hq)
              have fq := HBK4.out.frozen q
              have hpi : (p : Int) < (k : Int) := by omega
              have hp0 : (0 : Int) ≤ (p : Int) := by omega
              have hqi : (q : Int) < (k : Int) := by omega
              have hq0 : (0 : Int) ≤ (q : Int) := by omega
              cases hfp : f2 p with
              | false =>
                rw [hfp] at cp
                have HFP := Lib.hid hfp
                clear hfp
                repeat (first | go_skip | go_guarded | go_step)
                go_roundw
                case rel => exact ⟨i + 1, f2, by omega, by go_num, HBK4.out, HFV4.out, HSO4.out, HMO4.out, (fun e he h1 => by
                  rw [HTK.out] at he
                  rcases List.mem_append.1 he with he | he
                  · exact HED4.out e he h1
                  · simp only [List.mem_singleton] at he
                    subst he
                    have := HMO4.out _ h1
                    rw [HFP.out] at this
                    cases this), HCL4.out, HB4.out⟩
                case measure => simp [intOf]; omega
              | true =>
                rw [hfp] at cp
                have HFP := Lib.hid hfp
                clear hfp
                repeat (first | go_skip | go_guarded | go_step)
                have hset := HBK4.out.set_ q (.bool true)
                rw [bC_set] at hset
                have hbl := HB4.out.setCell (p := ⟨gR, q, none⟩) HGL.out (.bool true)
                have hup : ∀ x, f2 x = true → upd f2 q true x = true := fun x hx => by
                  by_cases e : x = q
                  · subst e; exact upd_same
                  · rw [upd_other e]; exact hx
                go_roundw
                case rel => exact ⟨i + 1, _, by omega, by go_num, hset, hup _ HFV4.out, (fun x hx => by
                  by_cases e : x = q
                  · subst e; exact (HSO4.out p HFP.out).step (List.mem_of_getElem? HX.out)
                  · rw [upd_other e] at hx; exact HSO4.out x hx), (fun x hx => hup x (HMO4.out x hx)), (fun e he h1 => by
                  rw [HTK.out] at he
                  rcases List.mem_append.1 he with he | he
                  · exact hup _ (HED4.out e he h1)
                  · simp only [List.mem_singleton] at he
                    subst he
                    exact upd_same), (fun hc => by
                  have e2 := HCL4.out hc
                  have hfp := HFP.out
                  rw [e2] at hfp ⊢
                  have hq2 := hc (p, q) (List.mem_of_getElem? HX.out) hfp
                  funext x
                  by_cases e : x = q
                  · subst e; rw [upd_same]; exact hq2.symm
                  · rw [upd_other e]), hbl⟩
                case measure => simp [intOf]; omega
            · obtain rfl : ne = i := by omega
              have hii2 : ¬ (ne : Int) < (ne : Int) := by omega
              have hnext : Closed E f2 ∨ cntF k f2 + (r + 1) + 1 ≤ k := by
                by_cases hc : Closed E f
                · exact .inl (by rw [HCL4.out hc]; exact hc)
                · have hc2 := hc
                  unfold Closed at hc2
                  have : ∃ e, e ∈ E ∧ f e.1 = true ∧ ¬ f e.2 = true := Classical.byContradiction fun hne => hc2 fun e he h1 => Classical.byContradiction fun h2 => hne ⟨e, he, h1, h2⟩
                  obtain ⟨e, he, h1, h2⟩ := this
                  have hfull : E.take ne = E := List.take_of_length_le (by rw [hlen]; exact Nat.le_refl _)
                  have h3 := HED4.out e (by rw [hfull]; exact he) h1
                  have h4 := cntF_lt (n := k) (fun x _ hx => HMO4.out x hx) (HE.out e he).2 (by simpa using h2) h3
                  rcases HCL.out with q | q
                  · exact absurd q hc
                  · exact .inr (by omega)
              repeat (first | go_skip | go_guarded | go_step)
              go_roundw
              case rel => exact ⟨r + 1, f2, by omega, by go_num, HBK4.out, HFV4.out, HSO4.out, hnext, HB4.out⟩
              case measure => simp [intOf]; omega
        · obtain rfl : k = r := by omega
          have hri : ¬ (k : Int) < (k : Int) := by omega
          have hclosed : Closed E f := by
            rcases HCL.out with q | q
            · exact q
            · omega
          have hiff : f u = true ↔ Com E v u := ⟨HSO.out u, fun h => h.closed (S := fun x => f x = true) (fun a b ha he => hclosed (a, b) he ha) HFV.out⟩
          obtain ⟨x2, hx2⟩ : ∃ x2, x2 = ofQ L3 u := ⟨_, rfl⟩
          obtain ⟨y2, hy2⟩ : ∃ y2, y2 = ofQ L3 v := ⟨_, rfl⟩
          have HX2 := Lib.hid (show partIx L3 (u : Int) = (x2 : Int) by rw [hx2]; exact partIx_at HI2.out huk)
          have HY2 := Lib.hid (show partIx L3 (v : Int) = (y2 : Int) by rw [hy2]; exact partIx_at HI2.out hvk)
          have hxy : x2 = y2 ↔ Com E v u := by rw [hx2, hy2, HI2.out.both_iff huk hvk, both_new]
          have hui : (u : Int) < (k : Int) := by omega
          have hu0 : (0 : Int) ≤ (u : Int) := by omega
          have HLT := Lib.hid HBKr.out.lt
          clear hclosed hx2 hy2
          cases hfu : f u with
          | true =>
            have he2 : ((x2 : Int) == (y2 : Int)) = true := by have := hxy.2 (hiff.1 hfu); simp; omega
            have HCU := Lib.hid (show wr.cell? ⟨gR, u, none⟩ = some (.bool true) by rw [HBKr.out.cell u, bC_at _ huk, hfu])
            clear hfu hiff hxy
            go_upto_region 31 with (fail)
            refine wp_region_held_drew (S := fun V => Below wr.heap.size wr V) (by kernel_rfl) ?_ (fun hHeld => ?_)
            · exact (Below.refl wr.heap.size wr).drew
            refine wpAnyH_take (i := 0) (oi := ?oid1) (v := ?vd1) ?hod1 (by kernel_rfl) ?hfd1 ?hrd1 ?hQd1 ?hyd1 hHeld ?restd1
            case hod1 => (simp only [List.getElem?_toArray, List.getElem?_cons_succ, List.getElem?_cons_zero]; exact rfl)
            case hfd1 => kernel_rfl
            case hrd1 => kernel_rfl
            case hQd1 => exact fun _ _ _ h => h
            case hyd1 =>
              refine Or.inl ⟨by rfl, ?_⟩
              intro V hSV
              go_simp
              (try with_reducible rfl)
            try simp only [Act.put, List.setIfInBounds_toArray, List.set_cons_zero, List.set_cons_succ]
            refine wpAnyH_take (i := 1) (oi := ?oid2) (v := ?vd2) ?hod2 (by kernel_rfl) ?hfd2 ?hrd2 ?hQd2 ?hyd2 hHeld ?restd2
            case hod2 => (simp only [List.getElem?_toArray, List.getElem?_cons_succ, List.getElem?_cons_zero]; exact rfl)
            case hfd2 => kernel_rfl
            case hrd2 => kernel_rfl
            case hQd2 => exact fun _ _ _ h => h
            case hyd2 =>
              refine Or.inl ⟨by rfl, ?_⟩
              intro V hSV
              go_simp
              (try with_reducible rfl)
            try simp only [Act.put, List.setIfInBounds_toArray, List.set_cons_zero, List.set_cons_succ]
            refine wpAnyH_take (i := 3) (oi := ?oid3) (v := ?vd3) ?hod3 (by kernel_rfl) ?hfd3 ?hrd3 ?hQd3 ?hyd3 hHeld ?restd3
            case hod3 => (simp only [List.getElem?_toArray, List.getElem?_cons_succ, List.getElem?_cons_zero]; exact rfl)
            case hfd3 => kernel_rfl
            case hrd3 => kernel_rfl
            case hQd3 => exact fun _ _ _ h => h
            case hyd3 =>
              refine Or.inl ⟨by rfl, ?_⟩
              intro V hSV
              go_simp
              (try with_reducible rfl)
            try simp only [Act.put, List.setIfInBounds_toArray, List.set_cons_zero, List.set_cons_succ]
            refine wpAnyH_take (i := 4) (oi := ?oid4) (v := ?vd4) ?hod4 (by kernel_rfl) ?hfd4 ?hrd4 ?hQd4 ?hyd4 hHeld ?restd4
            case hod4 => (simp only [List.getElem?_toArray, List.getElem?_cons_succ, List.getElem?_cons_zero]; exact rfl)
            case hfd4 => kernel_rfl
            case hrd4 => kernel_rfl
            case hQd4 => exact fun _ _ _ h => h
            case hyd4 =>
              refine Or.inl ⟨by rfl, ?_⟩
              intro V hSV
              go_simp
              (try with_reducible rfl)
            try simp only [Act.put, List.setIfInBounds_toArray, List.set_cons_zero, List.set_cons_succ]
            refine wpAnyH_take (i := 7) (oi := ?oid5) (v := ?vd5) ?hod5 (by kernel_rfl) ?hfd5 ?hrd5 ?hQd5 ?hyd5 hHeld ?restd5
            case hod5 => (simp only [List.getElem?_toArray, List.getElem?_cons_succ, List.getElem?_cons_zero]; exact rfl)
            case hfd5 => kernel_rfl
            case hrd5 => kernel_rfl
            case hQd5 => exact fun _ _ _ h => h
            case hyd5 =>
              refine Or.inl ⟨by rfl, ?_⟩
              intro V hSV
              go_simp
              (try with_reducible rfl)
            try simp only [Act.put, List.setIfInBounds_toArray, List.set_cons_zero, List.set_cons_succ]
            refine wpAnyH_take (i := 8) (oi := ?oid6) (v := ?vd6) ?hod6 (by kernel_rfl) ?hfd6 ?hrd6 ?hQd6 ?hyd6 hHeld ?restd6
            case hod6 => (simp only [List.getElem?_toArray, List.getElem?_cons_succ, List.getElem?_cons_zero]; exact rfl)
            case hfd6 => kernel_rfl
            case hrd6 => kernel_rfl
            case hQd6 => exact fun _ _ _ h => h
            case hyd6 =>
              refine Or.inl ⟨by rfl, ?_⟩
              intro V hSV
              go_simp
              (try with_reducible rfl)
            try simp only [Act.put, List.setIfInBounds_toArray, List.set_cons_zero, List.set_cons_succ]
            refine wpAnyH_take (i := 9) (oi := ?oid7) (v := ?vd7) ?hod7 (by kernel_rfl) ?hfd7 ?hrd7 ?hQd7 ?hyd7 hHeld ?restd7
            case hod7 => (simp only [List.getElem?_toArray, List.getElem?_cons_succ, List.getElem?_cons_zero]; exact rfl)
            case hfd7 => kernel_rfl
            case hrd7 => kernel_rfl
            case hQd7 => exact fun _ _ _ h => h
            case hyd7 =>
              refine Or.inl ⟨by rfl, ?_⟩
              intro V hSV
              go_simp
              (try with_reducible rfl)
            try simp only [Act.put, List.setIfInBounds_toArray, List.set_cons_zero, List.set_cons_succ]
            refine wpAnyH_take (i := 10) (oi := ?oid8) (v := ?vd8) ?hod8 (by kernel_rfl) ?hfd8 ?hrd8 ?hQd8 ?hyd8 hHeld ?restd8
            case hod8 => (simp only [List.getElem?_toArray, List.getElem?_cons_succ, List.getElem?_cons_zero]; exact rfl)
            case hfd8 => kernel_rfl
            case hrd8 => kernel_rfl
            case hQd8 => exact fun _ _ _ h => h
            case hyd8 =>
              refine Or.inl ⟨by rfl, ?_⟩
              intro V hSV
              have qv := (hSV.cell (p := ⟨gR, u, none⟩) HLT.out).trans HCU.out
              go_simp
              (try with_reducible rfl)
            try simp only [Act.put, List.setIfInBounds_toArray, List.set_cons_zero, List.set_cons_succ]
            refine wpAnyH_ready (rs := [2]) (by kernel_rfl) (by simp) ?_
            refine AllReadyH.cons (o := ?od9) ?hod9 (fun K hK => ?kd9) ?md9
            case hod9 => (simp only [List.getElem?_toArray, List.getElem?_cons_succ, List.getElem?_cons_zero]; exact rfl)
            case kd9 =>
              go_simp
              refine (part_at c2 _ HR2c.out HM2.out.symm (by omega) (fun p hp => by have := HC2.out p hp; omega) HX2.out (HBr.out.trans (Below.mono hHeld HBr.out.size))).mono ?_
              rintro e Vd9 ⟨rfl, -, hbd9⟩
              (try dsimp only)
              refine hK.out _ _ ?_ (fun hHeld => ?_)
              · exact Below.trans hHeld (hbd9.mono (Below.size hHeld))
              clear hK K
              try simp only [Act.put, List.setIfInBounds_toArray, List.set_cons_zero, List.set_cons_succ]
              refine wpAnyH_ready (rs := [5]) (by kernel_rfl) (by simp) ?_
              refine AllReadyH.cons (o := ?od10) ?hod10 (fun K hK => ?kd10) ?md10
              case hod10 => (simp only [List.getElem?_toArray, List.getElem?_cons_succ, List.getElem?_cons_zero]; exact rfl)
              case kd10 =>
                go_simp
                refine (part_at c2 _ HR2c.out HM2.out.symm (by omega) (fun p hp => by have := HC2.out p hp; omega) HY2.out (HBr.out.trans (Below.mono hHeld HBr.out.size))).mono ?_
                rintro e Vd10 ⟨rfl, -, hbd10⟩
                (try dsimp only)
                refine hK.out _ _ ?_ (fun hHeld => ?_)
                · exact Below.trans hHeld (hbd10.mono (Below.size hHeld))
                clear hK K
                try simp only [Act.put, List.setIfInBounds_toArray, List.set_cons_zero, List.set_cons_succ]
                refine wpAnyH_take (i := 6) (oi := ?oid11) (v := .bool true) ?hod11 (by kernel_rfl) ?hfd11 ?hrd11 ?hQd11 ?hyd11 hHeld ?restd11
                case hod11 => (simp only [List.getElem?_toArray, List.getElem?_cons_succ, List.getElem?_cons_zero]; exact rfl)
                case hfd11 => kernel_rfl
                case hrd11 => kernel_rfl
                case hQd11 => exact fun _ _ _ h => h
                case hyd11 =>
                  refine Or.inl ⟨by rfl, ?_⟩
                  intro V hSV
                  go_simp
                  (try with_reducible rfl)
                try simp only [Act.put, List.setIfInBounds_toArray, List.set_cons_zero, List.set_cons_succ]
                refine wpAnyH_take (i := 11) (oi := ?oid12) (v := .bool true) ?hod12 (by kernel_rfl) ?hfd12 ?hrd12 ?hQd12 ?hyd12 hHeld ?restd12
                case hod12 => (simp only [List.getElem?_toArray, List.getElem?_cons_succ, List.getElem?_cons_zero]; exact rfl)
                case hfd12 => kernel_rfl
                case hrd12 => kernel_rfl
                case hQd12 => exact fun _ _ _ h => h
                case hyd12 =>
                  refine Or.inl ⟨by rfl, ?_⟩
                  intro V hSV
                  go_simp
                  (try with_reducible rfl)
                try simp only [Act.put, List.setIfInBounds_toArray, List.set_cons_zero, List.set_cons_succ]
                refine wpAnyH_take (i := 12) (oi := ?oid13) (v := ?vd13) ?hod13 (by kernel_rfl) ?hfd13 ?hrd13 ?hQd13 ?hyd13 hHeld ?restd13
                case hod13 => (simp only [List.getElem?_toArray, List.getElem?_cons_succ, List.getElem?_cons_zero]; exact rfl)
                case hfd13 => kernel_rfl
                case hrd13 => kernel_rfl
                case hQd13 => exact fun _ _ _ h => h
                case hyd13 =>
                  refine Or.inl ⟨by rfl, ?_⟩
                  intro V hSV
                  go_simp
                  (try with_reducible rfl)
                try simp only [Act.put, List.setIfInBounds_toArray, List.set_cons_zero, List.set_cons_succ]
                refine wpAnyH_ready (rs := [13]) (by kernel_rfl) (by simp) ?_
                refine AllReadyH.cons (o := ?od14) ?hod14 (fun K hK => ?kd14) ?md14
                case hod14 => (simp only [List.getElem?_toArray, List.getElem?_cons_succ, List.getElem?_cons_zero]; exact rfl)
                case kd14 =>
                  go_simp
                  refine (works_any _).mono ?_
                  rintro e Vd14 ⟨rfl, hbd14⟩
                  (try dsimp only)
                  refine hK.out _ _ ?_ (fun hHeld => ?_)
                  · exact Below.trans hHeld (hbd14.mono (Below.size hHeld))
                  clear hK K
                  try simp only [Act.put, List.setIfInBounds_toArray, List.set_cons_zero, List.set_cons_succ]
                  refine wpAnyH_take (i := 14) (oi := ?oid15) (v := ?vd15) ?hod15 (by kernel_rfl) ?hfd15 ?hrd15 ?hQd15 ?hyd15 hHeld ?restd15
                  case hod15 => (simp only [List.getElem?_toArray, List.getElem?_cons_succ, List.getElem?_cons_zero]; exact rfl)
                  case hfd15 => kernel_rfl
                  case hrd15 => kernel_rfl
                  case hQd15 => exact fun _ _ _ h => h
                  case hyd15 =>
                    refine Or.inl ⟨by rfl, ?_⟩
                    intro V hSV
                    go_simp
                    (try with_reducible rfl)
                  try simp only [Act.put, List.setIfInBounds_toArray, List.set_cons_zero, List.set_cons_succ]
                  refine wpAnyH_take (i := 15) (oi := ?oid16) (v := ?vd16) ?hod16 (by kernel_rfl) ?hfd16 ?hrd16 ?hQd16 ?hyd16 hHeld ?restd16
                  case hod16 => (simp only [List.getElem?_toArray, List.getElem?_cons_succ, List.getElem?_cons_zero]; exact rfl)
                  case hfd16 => kernel_rfl
                  case hrd16 => kernel_rfl
                  case hQd16 => exact fun _ _ _ h => h
                  case hyd16 =>
                    refine Or.inl ⟨by rfl, ?_⟩
                    intro V hSV
                    go_simp
                    (try with_reducible rfl)
                  try simp only [Act.put, List.setIfInBounds_toArray, List.set_cons_zero, List.set_cons_succ]
                  refine wpAnyH_done (by kernel_rfl) ?_ _
                  repeat (first | go_skip | go_guarded | go_step)
                  go_ret
                  exact ⟨rfl, HB19.out.trans ((HBr.out.trans (Below.mono hHeld HBr.out.size)).mono HB19.out.size)⟩
                exact AllReadyH.nil
              exact AllReadyH.nil
            exact AllReadyH.nil
          | false =>
            have he2 : ((x2 : Int) == (y2 : Int)) = false := by
              have : ¬ x2 = y2 := fun e => by have := hiff.2 (hxy.1 e); rw [hfu] at this; cases this
              simp; omega
            have HCU := Lib.hid (show wr.cell? ⟨gR, u, none⟩ = some (.bool false) by rw [HBKr.out.cell u, bC_at _ huk, hfu])
            clear hfu hiff hxy
            go_upto_region 31 with (fail)
            refine wp_region_held_drew (S := fun V => Below wr.heap.size wr V) (by kernel_rfl) ?_ (fun hHeld => ?_)
            · exact (Below.refl wr.heap.size wr).drew
            refine wpAnyH_take (i := 0) (oi := ?oid17) (v := ?vd17) ?hod17 (by kernel_rfl) ?hfd17 ?hrd17 ?hQd17 ?hyd17 hHeld ?restd17
            case hod17 => (simp only [List.getElem?_toArray, List.getElem?_cons_succ, List.getElem?_cons_zero]; exact rfl)
            case hfd17 => kernel_rfl
            case hrd17 => kernel_rfl
            case hQd17 => exact fun _ _ _ h => h
            case hyd17 =>
              refine Or.inl ⟨by rfl, ?_⟩
              intro V hSV
              go_simp
              (try with_reducible rfl)
            try simp only [Act.put, List.setIfInBounds_toArray, List.set_cons_zero, List.set_cons_succ]
            refine wpAnyH_take (i := 1) (oi := ?oid18) (v := ?vd18) ?hod18 (by kernel_rfl) ?hfd18 ?hrd18 ?hQd18 ?hyd18 hHeld ?restd18
            case hod18 => (simp only [List.getElem?_toArray, List.getElem?_cons_succ, List.getElem?_cons_zero]; exact rfl)
            case hfd18 => kernel_rfl
            case hrd18 => kernel_rfl
            case hQd18 => exact fun _ _ _ h => h
            case hyd18 =>
              refine Or.inl ⟨by rfl, ?_⟩
              intro V hSV
              go_simp
              (try with_reducible rfl)
            try simp only [Act.put, List.setIfInBounds_toArray, List.set_cons_zero, List.set_cons_succ]
            refine wpAnyH_take (i := 3) (oi := ?oid19) (v := ?vd19) ?hod19 (by kernel_rfl) ?hfd19 ?hrd19 ?hQd19 ?hyd19 hHeld ?restd19
            case hod19 => (simp only [List.getElem?_toArray, List.getElem?_cons_succ, List.getElem?_cons_zero]; exact rfl)
            case hfd19 => kernel_rfl
            case hrd19 => kernel_rfl
            case hQd19 => exact fun _ _ _ h => h
            case hyd19 =>
              refine Or.inl ⟨by rfl, ?_⟩
              intro V hSV
              go_simp
              (try with_reducible rfl)
            try simp only [Act.put, List.setIfInBounds_toArray, List.set_cons_zero, List.set_cons_succ]
            refine wpAnyH_take (i := 4) (oi := ?oid20) (v := ?vd20) ?hod20 (by kernel_rfl) ?hfd20 ?hrd20 ?hQd20 ?hyd20 hHeld ?restd20
            case hod20 => (simp only [List.getElem?_toArray, List.getElem?_cons_succ, List.getElem?_cons_zero]; exact rfl)
            case hfd20 => kernel_rfl
            case hrd20 => kernel_rfl
            case hQd20 => exact fun _ _ _ h => h
            case hyd20 =>
              refine Or.inl ⟨by rfl, ?_⟩
              intro V hSV
              go_simp
              (try with_reducible rfl)
            try simp only [Act.put, List.setIfInBounds_toArray, List.set_cons_zero, List.set_cons_succ]
            refine wpAnyH_take (i := 7) (oi := ?oid21) (v := ?vd21) ?hod21 (by kernel_rfl) ?hfd21 ?hrd21 ?hQd21 ?hyd21 hHeld ?restd21
            case hod21 => (simp only [List.getElem?_toArray, List.getElem?_cons_succ, List.getElem?_cons_zero]; exact rfl)
            case hfd21 => kernel_rfl
            case hrd21 => kernel_rfl
            case hQd21 => exact fun _ _ _ h => h
            case hyd21 =>
              refine Or.inl ⟨by rfl, ?_⟩
              intro V hSV
              go_simp
              (try with_reducible rfl)
            try simp only [Act.put, List.setIfInBounds_toArray, List.set_cons_zero, List.set_cons_succ]
            refine wpAnyH_take (i := 8) (oi := ?oid22) (v := ?vd22) ?hod22 (by kernel_rfl) ?hfd22 ?hrd22 ?hQd22 ?hyd22 hHeld ?restd22
            case hod22 => (simp only [List.getElem?_toArray, List.getElem?_cons_succ, List.getElem?_cons_zero]; exact rfl)
            case hfd22 => kernel_rfl
            case hrd22 => kernel_rfl
            case hQd22 => exact fun _ _ _ h => h
            case hyd22 =>
              refine Or.inl ⟨by rfl, ?_⟩
              intro V hSV
              go_simp
              (try with_reducible rfl)
            try simp only [Act.put, List.setIfInBounds_toArray, List.set_cons_zero, List.set_cons_succ]
            refine wpAnyH_take (i := 9) (oi := ?oid23) (v := ?vd23) ?hod23 (by kernel_rfl) ?hfd23 ?hrd23 ?hQd23 ?hyd23 hHeld ?restd23
            case hod23 => (simp only [List.getElem?_toArray, List.getElem?_cons_succ, List.getElem?_cons_zero]; exact rfl)
            case hfd23 => kernel_rfl
            case hrd23 => kernel_rfl
            case hQd23 => exact fun _ _ _ h => h
            case hyd23 =>
              refine Or.inl ⟨by rfl, ?_⟩
              intro V hSV
              go_simp
              (try with_reducible rfl)
            try simp only [Act.put, List.setIfInBounds_toArray, List.set_cons_zero, List.set_cons_succ]
            refine wpAnyH_take (i := 10) (oi := ?oid24) (v := ?vd24) ?hod24 (by kernel_rfl) ?hfd24 ?hrd24 ?hQd24 ?hyd24 hHeld ?restd24
            case hod24 => (simp only [List.getElem?_toArray, List.getElem?_cons_succ, List.getElem?_cons_zero]; exact rfl)
            case hfd24 => kernel_rfl
            case hrd24 => kernel_rfl
            case hQd24 => exact fun _ _ _ h => h
            case hyd24 =>
              refine Or.inl ⟨by rfl, ?_⟩
              intro V hSV
              have qv := (hSV.cell (p := ⟨gR, u, none⟩) HLT.out).trans HCU.out
              go_simp
              (try with_reducible rfl)
            try simp only [Act.put, List.setIfInBounds_toArray, List.set_cons_zero, List.set_cons_succ]
            refine wpAnyH_ready (rs := [2]) (by kernel_rfl) (by simp) ?_
            refine AllReadyH.cons (o := ?od25) ?hod25 (fun K hK => ?kd25) ?md25
            case hod25 => (simp only [List.getElem?_toArray, List.getElem?_cons_succ, List.getElem?_cons_zero]; exact rfl)
            case kd25 =>
              go_simp
              refine (part_at c2 _ HR2c.out HM2.out.symm (by omega) (fun p hp => by have := HC2.out p hp; omega) HX2.out (HBr.out.trans (Below.mono hHeld HBr.out.size))).mono ?_
              rintro e Vd25 ⟨rfl, -, hbd25⟩
              (try dsimp only)
              refine hK.out _ _ ?_ (fun hHeld => ?_)
              · exact Below.trans hHeld (hbd25.mono (Below.size hHeld))
              clear hK K
              try simp only [Act.put, List.setIfInBounds_toArray, List.set_cons_zero, List.set_cons_succ]
              refine wpAnyH_ready (rs := [5]) (by kernel_rfl) (by simp) ?_
              refine AllReadyH.cons (o := ?od26) ?hod26 (fun K hK => ?kd26) ?md26
              case hod26 => (simp only [List.getElem?_toArray, List.getElem?_cons_succ, List.getElem?_cons_zero]; exact rfl)
              case kd26 =>
                go_simp
                refine (part_at c2 _ HR2c.out HM2.out.symm (by omega) (fun p hp => by have := HC2.out p hp; omega) HY2.out (HBr.out.trans (Below.mono hHeld HBr.out.size))).mono ?_
                rintro e Vd26 ⟨rfl, -, hbd26⟩
                (try dsimp only)
                refine hK.out _ _ ?_ (fun hHeld => ?_)
                · exact Below.trans hHeld (hbd26.mono (Below.size hHeld))
                clear hK K
                try simp only [Act.put, List.setIfInBounds_toArray, List.set_cons_zero, List.set_cons_succ]
                refine wpAnyH_take (i := 6) (oi := ?oid27) (v := .bool false) ?hod27 (by kernel_rfl) ?hfd27 ?hrd27 ?hQd27 ?hyd27 hHeld ?restd27
                case hod27 => (simp only [List.getElem?_toArray, List.getElem?_cons_succ, List.getElem?_cons_zero]; exact rfl)
                case hfd27 => kernel_rfl
                case hrd27 => kernel_rfl
                case hQd27 => exact fun _ _ _ h => h
                case hyd27 =>
                  refine Or.inl ⟨by rfl, ?_⟩
                  intro V hSV
                  go_simp
                  (try with_reducible rfl)
                try simp only [Act.put, List.setIfInBounds_toArray, List.set_cons_zero, List.set_cons_succ]
                refine wpAnyH_take (i := 11) (oi := ?oid28) (v := .bool true) ?hod28 (by kernel_rfl) ?hfd28 ?hrd28 ?hQd28 ?hyd28 hHeld ?restd28
                case hod28 => (simp only [List.getElem?_toArray, List.getElem?_cons_succ, List.getElem?_cons_zero]; exact rfl)
                case hfd28 => kernel_rfl
                case hrd28 => kernel_rfl
                case hQd28 => exact fun _ _ _ h => h
                case hyd28 =>
                  refine Or.inl ⟨by rfl, ?_⟩
                  intro V hSV
                  go_simp
                  (try with_reducible rfl)
                try simp only [Act.put, List.setIfInBounds_toArray, List.set_cons_zero, List.set_cons_succ]
                refine wpAnyH_take (i := 12) (oi := ?oid29) (v := ?vd29) ?hod29 (by kernel_rfl) ?hfd29 ?hrd29 ?hQd29 ?hyd29 hHeld ?restd29
                case hod29 => (simp only [List.getElem?_toArray, List.getElem?_cons_succ, List.getElem?_cons_zero]; exact rfl)
                case hfd29 => kernel_rfl
                case hrd29 => kernel_rfl
                case hQd29 => exact fun _ _ _ h => h
                case hyd29 =>
                  refine Or.inl ⟨by rfl, ?_⟩
                  intro V hSV
                  go_simp
                  (try with_reducible rfl)
                try simp only [Act.put, List.setIfInBounds_toArray, List.set_cons_zero, List.set_cons_succ]
                refine wpAnyH_ready (rs := [13]) (by kernel_rfl) (by simp) ?_
                refine AllReadyH.cons (o := ?od30) ?hod30 (fun K hK => ?kd30) ?md30
                case hod30 => (simp only [List.getElem?_toArray, List.getElem?_cons_succ, List.getElem?_cons_zero]; exact rfl)
                case kd30 =>
                  go_simp
                  refine (works_any _).mono ?_
                  rintro e Vd30 ⟨rfl, hbd30⟩
                  (try dsimp only)
                  refine hK.out _ _ ?_ (fun hHeld => ?_)
                  · exact Below.trans hHeld (hbd30.mono (Below.size hHeld))
                  clear hK K
                  try simp only [Act.put, List.setIfInBounds_toArray, List.set_cons_zero, List.set_cons_succ]
                  refine wpAnyH_take (i := 14) (oi := ?oid31) (v := ?vd31) ?hod31 (by kernel_rfl) ?hfd31 ?hrd31 ?hQd31 ?hyd31 hHeld ?restd31
                  case hod31 => (simp only [List.getElem?_toArray, List.getElem?_cons_succ, List.getElem?_cons_zero]; exact rfl)
                  case hfd31 => kernel_rfl
                  case hrd31 => kernel_rfl
                  case hQd31 => exact fun _ _ _ h => h
                  case hyd31 =>
                    refine Or.inl ⟨by rfl, ?_⟩
                    intro V hSV
                    go_simp
                    (try with_reducible rfl)
                  try simp only [Act.put, List.setIfInBounds_toArray, List.set_cons_zero, List.set_cons_succ]
                  refine wpAnyH_take (i := 15) (oi := ?oid32) (v := ?vd32) ?hod32 (by kernel_rfl) ?hfd32 ?hrd32 ?hQd32 ?hyd32 hHeld ?restd32
                  case hod32 => (simp only [List.getElem?_toArray, List.getElem?_cons_succ, List.getElem?_cons_zero]; exact rfl)
                  case hfd32 => kernel_rfl
                  case hrd32 => kernel_rfl
                  case hQd32 => exact fun _ _ _ h => h
                  case hyd32 =>
                    refine Or.inl ⟨by rfl, ?_⟩
                    intro V hSV
                    go_simp
                    (try with_reducible rfl)
                  try simp only [Act.put, List.setIfInBounds_toArray, List.set_cons_zero, List.set_cons_succ]
                  refine wpAnyH_done (by kernel_rfl) ?_ _
                  repeat (first | go_skip | go_guarded | go_step)
                  go_ret
                  exact ⟨rfl, HB19.out.trans ((HBr.out.trans (Below.mono hHeld HBr.out.size)).mono HB19.out.size)⟩
                exact AllReadyH.nil
              exact AllReadyH.nil
            exact AllReadyH.nil

theorem both (n : Int) (A : Option Addr) (ne c : Nat) (E0 : List (Int × Int)) (a b : Nat) (w : World) (hr : RdE w w.heap.size A ne E0) (ha : a ≤ 255) (hb : b ≤ 255) :
    Calls Try.prog 7 #[.int .i64 n, .slice A ne c, .int .u8 (a : Int), .int .u8 (b : Int)] w fun e w' => e = .returned (.bool true) ∧ Below w.heap.size w w' := by
  by_cases hf : n ≤ 60 ∧ ne ≤ 300
  · cases hg : rightB n ne E0 with
    | false => exact walkNot n A ne c E0 a b w hr hf hg
    | true =>
      obtain ⟨k, E, rfl, rfl, hE, h1, h2⟩ := rightB_open hg
      by_cases hk : k = 0
      · subst hk
        exact walkNone E A ne c a b w hr hE h2
      · exact walk k E A ne c a b w hr hE h1 (by omega) h2 ha hb
  · exact walkFew n A ne c E0 a b w hr hf

set_option maxRecDepth 100000 in
theorem lifted (os : Os) (started : os.Started) (H : Type) (enc : TypeId × Value → H) :
    ReturnsInHanded {} Try.checked os 7 .any (Rows.graphMoreSpec.pre6 enc Try.prog Try.f7 Rows.graphMoreRow.domain false) (Rows.graphMoreSpec.post enc Try.prog Try.f7 false true false false) := by
  refine returnsInHanded_of_change_sized (C := Try.checked) ownK started (by kernel_rfl) Try.func7
    (ChangeSpec.witness6 (enc := enc) (C := Try.checked) false ⟨#[], #[.int .i64 0, .slice none 0 0, .int .u8 0, .int .u8 0], []⟩ 8 (by kernel_rfl) (by kernel_rfl) (by kernel_rfl) (by kernel_rfl)) ?_
  intro W base args ds gs before hval0 hW hcnd hsz0 _
  have hval : ∀ (j : Nat) t v, Try.f7.params[j]? = some t → args[j]? = some v → Value.okWide Try.prog W .any base t v := hval0
  have hlt : ∀ x ∈ before, x.block < W.heap.size := fun x hx => by simpa using hW.lt x hx
  have hW' := hW
  obtain ⟨p, q, hA0, hV, rfl, hfz, hnd⟩ := hW
  have hA : DataW.TrodAll enc Try.prog W 0 (fun _ => true) true Try.f7.params.toList args.toList ds p := hA0
  rw [Try.params7] at hA hval
  obtain ⟨v0, vs0, d0, ds0, p0, q0, hargs, rfl, rfl, h0, r0⟩ := trodAll_cons hA
  obtain ⟨v1, vs1, d1, ds1, p1, q1, rfl, rfl, rfl, h1, r1⟩ := trodAll_cons r0
  obtain ⟨v2, vs2, d2, ds2, p2, q2, rfl, rfl, rfl, h2, r2⟩ := trodAll_cons r1
  obtain ⟨v3, vs3, d3, ds3, p3, q3, rfl, rfl, rfl, h3, r3⟩ := trodAll_cons r2
  obtain ⟨rfl, rfl, rfl⟩ := trodAll_nil r3
  obtain rfl : args = #[v0, v1, v2, v3] := by cases args; simp_all
  obtain ⟨rfl, rfl⟩ := trodVars_none hV
  obtain ⟨zb, rfl, rfl, rfl, wzb⟩ := open_int Try.underlying5 (hval 3 5 v3 rfl rfl) h3
  have bzb := bounds_u8 wzb
  obtain ⟨b, rfl⟩ : ∃ m : Nat, zb = (m : Int) := ⟨zb.toNat, by omega⟩
  obtain ⟨za, rfl, rfl, rfl, wza⟩ := open_int Try.underlying5 (hval 2 5 v2 rfl rfl) h2
  have bza := bounds_u8 wza
  obtain ⟨a, rfl⟩ : ∃ m : Nat, za = (m : Int) := ⟨za.toNat, by omega⟩
  obtain ⟨A1, n1, c1, E0, rfl, hk1, hm1, hr1⟩ := open_edges (hval 1 22 v1 rfl rfl) h1 (fun x hx => hlt x (by simp [hx]))
  obtain ⟨n, rfl, rfl, rfl, _⟩ := open_int Try.underlying3 (hval 0 3 v0 rfl rfl) h0
  refine (both n A1 n1 c1 E0 a b W hr1 (by omega) (by omega)).mono fun e W' ⟨he, hg⟩ => ?_
  subst he
  exact ⟨_, rfl, post_law laidOut rfl (by kernel_rfl) hW' hg rfl Try.underlying4 rfl rfl rfl⟩

theorem proved : Rows.GraphMoreSaid :=
  OpenClaim.holds_of_wide 7 Try.f7 rfl rfl rfl rfl rfl rfl rfl ⟨rfl, rfl, rfl, rfl, rfl⟩ rfl rfl rfl rfl rfl (by kernel_rfl) Try.func7 (by kernel_rfl)
    (of_decide_eq_true (by kernel_rfl)) (by unfold Func.isWrapper; first | (rw [if_pos (by decide +kernel)]; kernel_rfl) | (rw [if_neg (by decide +kernel)]; exact ⟨rfl, rfl⟩))
    (fun os started H enc _ => lifted os started H enc)
#print axioms proved
end Go.Proofs.Ytbfagejdpbagjaa.graphMore
