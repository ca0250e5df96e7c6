/- SafeParts: a right program without one of its clauses is right, and so is a clause of it without its last literal, if that is Not; what is wrong stays wrong. No condition. (Written by genSbP.py.) -/
import Derived.Test.YtggnhgfickkgdaaSbC
import Derived.Test.YtggnhgfickkgdaaSaP
import Derived.Test.YtggnhgfickkgdaaSaQ
import Derived.Test.YtggnhgfickkgdaaRows
set_option linter.unusedVariables false
set_option linter.unusedSimpArgs false
namespace Go.Proofs.Ytggnhgfickkgdaa.safeParts
open Go Go.RowKit Go.ChangeShapes Go.WideShapes Go.ChangeAt

theorem nil_facts (w : World) (B : Nat) : Rd w B 2 none 0 (([] : List AtR).flatMap atC) := Rd.nil
theorem few_one (A : Option Addr) (n c : Nat) (Q : List ClA) (C : List Cl) (w : World) (h : RdCs w w.heap.size A n Q C) :
    Calls Try.prog 6 #[.slice A n c, .slice none 0 0] w fun e w' => e = .returned (.bool (fewB n 0 C [])) ∧ w' = w :=
  few_any A n c Q C none 0 0 [] w h (nil_facts _ _) rfl
set_option maxRecDepth 100000 in
set_option maxHeartbeats 2000000 in
theorem walkFew (wk : SWorksOk) (A : Option Addr) (n c : Nat) (Q : List ClA) (C : List Cl) (A2 : Option Addr) (n2 c2 : Nat) (Q2 : List ClA) (C2 : List Cl) (a : Nat) (w : World) (h : RdCs w w.heap.size A n Q C) (h2 : RdCs w w.heap.size A2 n2 Q2 C2)
    (hf : fewB n 0 C [] = false ∨ fewB n2 0 C2 [] = false ∨ (120 < n + n2 ∧ n ≤ 1000000 ∧ n2 ≤ 1000000)) :
    Calls Try.prog 4 #[.slice A n c, .slice A2 n2 c2, .int .u8 (a : Int)] w fun e w' => e = .returned (.bool true) ∧ Below w.heap.size w w' := by
  have f1 := few_one A n c Q C w h
  have f2 := few_one A2 n2 c2 Q2 C2 w h2
  have WK := Lib.hid wk
  clear h h2 wk
  cases hb1 : fewB n 0 C [] with
  | false =>
    rw [hb1] at f1
    clear hb1 f2 hf
    go_enter Try.func4, Try.ntmps4
    repeat (first | go_skip | go_guarded | go_step)
    refine f1.mono ?_
    rintro e w1 ⟨rfl, rfl⟩
    clear f1
    dsimp only
    repeat (first | go_skip | go_guarded | go_step)
    refine (WK.out _).mono ?_
    rintro e wz ⟨rfl, hbz⟩
    have HBZ := Lib.hid hbz
    clear hbz
    dsimp only
    repeat (first | go_skip | go_guarded | go_step)
    go_ret
    exact ⟨rfl, HBZ.out⟩
  | true =>
    rw [hb1] at f1 hf
    cases hb2 : fewB n2 0 C2 [] with
    | false =>
      rw [hb2] at f2
      clear hb1 hb2 hf
      go_enter Try.func4, Try.ntmps4
      repeat (first | go_skip | go_guarded | go_step)
      refine f1.mono ?_
      rintro e w1 ⟨rfl, rfl⟩
      clear f1
      dsimp only
      repeat (first | go_skip | go_guarded | go_step)
      refine f2.mono ?_
      rintro e w1 ⟨rfl, rfl⟩
      clear f2
      dsimp only
      repeat (first | go_skip | go_guarded | go_step)
      refine (WK.out _).mono ?_
      rintro e wz ⟨rfl, hbz⟩
      have HBZ := Lib.hid hbz
      clear hbz
      dsimp only
      repeat (first | go_skip | go_guarded | go_step)
      go_ret
      exact ⟨rfl, HBZ.out⟩
    | true =>
      rw [hb2] at f2 hf
      have hlt : (120 : Int) < (n : Int) + (n2 : Int) := by
        rcases hf with hf | hf | hf
        · cases hf
        · cases hf
        · omega
      have hbd : n ≤ 1000000 ∧ n2 ≤ 1000000 := by
        rcases hf with hf | hf | hf
        · cases hf
        · cases hf
        · exact hf.2
      have hwr : IntKind.i64.wrap ((n : Int) + (n2 : Int)) = (n : Int) + (n2 : Int) := by rw [IntKind.wrap_i64]; omega
      clear hb1 hb2 hf hbd
      go_enter Try.func4, Try.ntmps4
      repeat (first | go_skip | go_guarded | go_step)
      refine f1.mono ?_
      rintro e w1 ⟨rfl, rfl⟩
      clear f1
      dsimp only
      repeat (first | go_skip | go_guarded | go_step)
      refine f2.mono ?_
      rintro e w1 ⟨rfl, rfl⟩
      clear f2
      dsimp only
      repeat (first | go_skip | go_guarded | go_step)
      refine (WK.out _).mono ?_
      rintro e wz ⟨rfl, hbz⟩
      have HBZ := Lib.hid hbz
      clear hbz
      dsimp only
      repeat (first | go_skip | go_guarded | go_step)
      go_ret
      exact ⟨rfl, HBZ.out⟩
set_option maxRecDepth 100000 in
set_option maxHeartbeats 4000000 in
theorem walkBad (ok : SafeOk) (wk : SWorksOk) (A : Option Addr) (n c : Nat) (Q : List ClA) (C : List Cl) (A2 : Option Addr) (n2 c2 : Nat) (Q2 : List ClA) (C2 : List Cl) (a : Nat) (w : World) (h : RdCs w w.heap.size A n Q C) (hnc : n ≤ c) (h2 : RdCs w w.heap.size A2 n2 Q2 C2)
    (hb1 : fewB n 0 C [] = true) (hb2 : fewB n2 0 C2 [] = true) (hle : n + n2 ≤ 120) (hS : Slim C) (hS2 : Slim C2) (hbad : (rightM C).2 ≠ 0) :
    Calls Try.prog 4 #[.slice A n c, .slice A2 n2 c2, .int .u8 (a : Int)] w fun e w' => e = .returned (.bool true) ∧ Below w.heap.size w w' := by
  have f1 := few_one A n c Q C w h
  have f2 := few_one A2 n2 c2 Q2 C2 w h2
  rw [hb1] at f1
  rw [hb2] at f2
  have c1 := ok.right A n c Q C w h hnc hS (by omega)
  have hn0 : 0 < n := by
    rcases Nat.eq_zero_or_pos n with e | e
    · have := h.lenC
      have hC : C = [] := List.eq_nil_of_length_eq_zero (by omega)
      subst hC
      exact absurd rfl hbad
    · exact e
  have hpl := right_place hbad
  have hmore := right_more (D := C2) hbad (by rw [h.lenC, h2.lenC]; omega)
  rw [h.lenC] at hpl
  obtain ⟨r1n, hr1n⟩ : ∃ r1n : Nat, r1n = (rightM C).1 := ⟨_, rfl⟩
  obtain ⟨r2n, hr2n⟩ : ∃ r2n : Nat, r2n = (rightM C).2 := ⟨_, rfl⟩
  rw [← hr1n, ← hr2n] at c1
  rw [← hr1n] at hpl
  rw [← hr2n] at hbad
  have HZ := Lib.hid h
  have HZ2 := Lib.hid h2
  have hS12 : Slim (C ++ C2) := fun x hx => (List.mem_append.1 hx).elim (hS x) (hS2 x)
  have HS12 := Lib.hid hS12
  have HM1 := Lib.hid (show ((rightM (C ++ C2)).1 : Int) = (r1n : Int) by rw [hmore, hr1n])
  have HM2 := Lib.hid (show ((rightM (C ++ C2)).2 : Int) = (r2n : Int) by rw [hmore, hr2n])
  have OK := Lib.hid ok
  have WK := Lib.hid wk
  have hgt : ¬ (120 : Int) < (n : Int) + (n2 : Int) := by omega
  have hwr : IntKind.i64.wrap ((n : Int) + (n2 : Int)) = (n : Int) + (n2 : Int) := by rw [IntKind.wrap_i64]; omega
  have hne : ((r2n : Int) != 0) = true := by simp; omega
  have hk1 : ¬ (n : Int) < 1 := by omega
  have hp1 : ¬ (r1n : Int) < 0 := by omega
  have hp2 : ¬ (n : Int) ≤ (r1n : Int) := by omega
  have hq1 : ((r1n : Int) == (r1n : Int)) = true := by simp
  have hq2 : ((r2n : Int) == (r2n : Int)) = true := by simp
  clear h h2 hb1 hb2 hS hS2 hbad hpl hmore hr1n hr2n hS12 ok wk
  go_enter Try.func4, Try.ntmps4
  repeat (first | go_skip | go_guarded | go_step)
  refine f1.mono ?_
  rintro e w1 ⟨rfl, rfl⟩
  clear f1
  dsimp only
  repeat (first | go_skip | go_guarded | go_step)
  refine f2.mono ?_
  rintro e w1 ⟨rfl, rfl⟩
  clear f2
  dsimp only
  repeat (first | go_skip | go_guarded | go_step)
  refine c1.mono ?_
  rintro e w2 ⟨rfl, hb2⟩
  have HB2 := Lib.hid hb2
  clear c1 hb2
  dsimp only
  obtain ⟨w0, hw0⟩ : ∃ w0, w0 = w2.alloc (.cells #[] 36) := ⟨_, rfl⟩
  have HO0 := Lib.hid (show OwC w0 w2.heap.size (some ⟨w2.heap.size, 0, none⟩) 0 0 [] from hw0 ▸ OwC.empty w2 _ (Nat.le_refl _))
  have HB0 := Lib.hid (show Below w2.heap.size w2 w0 from hw0 ▸ (Below.refl w2.heap.size w2).alloc (Nat.le_refl _) _)
  have HW0 := Lib.hid hw0
  have HR0 := Lib.hid (Rd.more (Rd.below HZ.out.top (HB2.out.trans (HB0.out.mono HB2.out.size))) (Nat.le_trans HB2.out.size HB0.out.size))
  clear hw0
  repeat (first
    | (at_builtin; rw [← HW0.out]
       refine appC0 _ rfl (.tmp 52) (.tmp 53) rfl w2.heap.size (some ⟨w2.heap.size, 0, none⟩) 0 rfl HO0.out _ A n c _ rfl HR0.out (by omega) HB0.out.size ?_
       intro A3 c3 w3 ho3 ht3 hg3
       have HO3 := Lib.hid ho3
       have HB3 := Lib.hid (HB0.out.trans (ht3.below (B := w2.heap.size) (fun y _ e => (HO0.out.low e).1) HB0.out.size))
       have HR3 := Lib.hid (Rd.more (Rd.below HZ2.out.top (HB2.out.trans (HB3.out.mono HB2.out.size))) (Nat.le_trans HB2.out.size HB3.out.size))
       clear ho3 ht3 hg3)
    | (at_builtin
       refine appC _ rfl (.tmp 54) (.tmp 55) rfl w2.heap.size A3 c3 n _ rfl HO3.out _ A2 n2 c2 _ rfl HR3.out (by omega) HB3.out.size ?_
       intro A4 c4 w4 ho4 ht4 hg4
       have HO4 := Lib.hid ho4
       have HB4 := Lib.hid (HB3.out.trans (ht4.below (B := w2.heap.size) (fun y _ e => (HO3.out.low e).1) HB3.out.size))
       clear ho4 ht4 hg4)
    | go_skip | go_guarded | go_step)
  have HBW4 := Lib.hid (HB2.out.trans (HB4.out.mono HB2.out.size))
  have hfst : ((C.zip Q) ++ (C2.zip Q2)).map (·.1) = C ++ C2 := by rw [List.map_append, zip_fst HZ.out, zip_fst HZ2.out]
  have hrz : RowZ w4 w4.heap.size ((C.zip Q) ++ (C2.zip Q2)) := ((HZ.out.rowZ.append HZ2.out.rowZ).below HBW4.out).more HBW4.out.size
  have hcall := OK.out.right A4 (n + n2) c4 _ _ w4 (rdCs_of HO4.out.rd hrz) HO4.out.le (by rw [hfst]; exact HS12.out) (by omega)
  rw [hfst, HM1.out, HM2.out] at hcall
  clear hfst hrz
  refine hcall.mono ?_
  rintro e w5 ⟨rfl, hb5⟩
  have HB5 := Lib.hid (HBW4.out.trans (hb5.mono HBW4.out.size))
  clear hcall hb5
  dsimp only
  repeat (first | go_skip | go_guarded | go_step)
  refine (WK.out _).mono ?_
  rintro e wz ⟨rfl, hbz⟩
  have HBZ := Lib.hid (HB5.out.trans (hbz.mono HB5.out.size))
  clear hbz
  dsimp only
  repeat (first | go_skip | go_guarded | go_step)
  go_ret
  exact ⟨rfl, HBZ.out⟩
set_option maxRecDepth 100000 in
set_option maxHeartbeats 2000000 in
theorem walkNone (ok : SafeOk) (wk : SWorksOk) (A : Option Addr) (c : Nat) (Q : List ClA) (C : List Cl) (A2 : Option Addr) (n2 c2 : Nat) (Q2 : List ClA) (C2 : List Cl) (a : Nat) (w : World) (h : RdCs w w.heap.size A 0 Q C) (h2 : RdCs w w.heap.size A2 n2 Q2 C2)
    (hb1 : fewB 0 0 C [] = true) (hb2 : fewB n2 0 C2 [] = true) (hle : n2 ≤ 120) (hS : Slim C) (hok : (rightM C).2 = 0) :
    Calls Try.prog 4 #[.slice A 0 c, .slice A2 n2 c2, .int .u8 (a : Int)] w fun e w' => e = .returned (.bool true) ∧ Below w.heap.size w w' := by
  have f1 := few_one A 0 c Q C w h
  have f2 := few_one A2 n2 c2 Q2 C2 w h2
  rw [hb1] at f1
  rw [hb2] at f2
  have hfst := zip_fst h
  have c1 := right_yes ok (C.zip Q) A 0 c w h.top h.rowZ (by omega) (by rw [hfst]; exact hS) (by omega) (by rw [hfst]; exact hok)
  have WK := Lib.hid wk
  have hgt : ¬ (120 : Int) < (n2 : Int) := by omega
  have hwr : IntKind.i64.wrap (n2 : Int) = (n2 : Int) := by rw [IntKind.wrap_i64]; omega
  clear h h2 hb1 hb2 hS hok hfst ok wk
  go_enter Try.func4, Try.ntmps4
  repeat (first | go_skip | go_guarded | go_step)
  refine f1.mono ?_
  rintro e w1 ⟨rfl, rfl⟩
  clear f1
  dsimp only
  repeat (first | go_skip | go_guarded | go_step)
  refine f2.mono ?_
  rintro e w1 ⟨rfl, rfl⟩
  clear f2
  dsimp only
  repeat (first | go_skip | go_guarded | go_step)
  refine c1.mono ?_
  rintro e w2 ⟨⟨r1, rfl⟩, hb2⟩
  have HB2 := Lib.hid hb2
  clear c1 hb2
  dsimp only
  repeat (first | go_skip | go_guarded | go_step)
  refine (WK.out _).mono ?_
  rintro e wz ⟨rfl, hbz⟩
  have HBZ := Lib.hid (HB2.out.trans (hbz.mono HB2.out.size))
  clear hbz
  dsimp only
  repeat (first | go_skip | go_guarded | go_step)
  go_ret
  exact ⟨rfl, HBZ.out⟩
set_option maxRecDepth 100000 in
set_option maxHeartbeats 8000000 in
theorem walk (ok : SafeOk) (wk : SWorksOk) (A : Option Addr) (n c : Nat) (Q : List ClA) (C : List Cl) (A2 : Option Addr) (n2 c2 : Nat) (Q2 : List ClA) (C2 : List Cl) (a : Nat) (w : World) (h : RdCs w w.heap.size A n Q C) (hnc : n ≤ c) (h2 : RdCs w w.heap.size A2 n2 Q2 C2)
    (hb1 : fewB n 0 C [] = true) (hb2 : fewB n2 0 C2 [] = true) (hle : n + n2 ≤ 120) (hS : Slim C) (hcap : ∀ q ∈ Q, q.1.2.1 ≤ q.1.2.2 ∧ q.2.1.2.1 ≤ q.2.1.2.2) (hok : (rightM C).2 = 0) (hn0 : 0 < n) (ha : a ≤ 255) :
    Calls Try.prog 4 #[.slice A n c, .slice A2 n2 c2, .int .u8 (a : Int)] w fun e w' => e = .returned (.bool true) ∧ Below w.heap.size w w' := by
  have f1 := few_one A n c Q C w h
  have f2 := few_one A2 n2 c2 Q2 C2 w h2
  rw [hb1] at f1
  rw [hb2] at f2
  obtain ⟨Z, hZ⟩ : ∃ Z, Z = C.zip Q := ⟨_, rfl⟩
  have hfst : Z.map (·.1) = C := by rw [hZ]; exact zip_fst h
  have htop : Rd w w.heap.size 3 A n (Z.flatMap clC) := by rw [hZ]; exact h.top
  have hrow : RowZ w w.heap.size Z := by rw [hZ]; exact h.rowZ
  have hlen : Z.length = n := by rw [hZ]; exact zip_len h
  have c1 := right_yes ok Z A n c w htop hrow hnc (by rw [hfst]; exact hS) (by omega) (by rw [hfst]; exact hok)
  obtain ⟨k, hk⟩ : ∃ k : Nat, k = a % n := ⟨_, rfl⟩
  have hkn : k < n := by rw [hk]; exact Nat.mod_lt _ hn0
  have htk : Int.tmod (a : Int) (n : Int) = (k : Int) := by rw [Int.tmod_eq_emod_of_nonneg (by omega), hk]; simp
  have HH := Lib.hid h
  have OK := Lib.hid ok
  have WK := Lib.hid wk
  have HC := Lib.hid hfst
  have HTOP := Lib.hid htop
  have HROW := Lib.hid hrow
  have HLEN := Lib.hid hlen
  have HS := Lib.hid hS
  have HOK := Lib.hid hok
  have HCAP := Lib.hid hcap
  have hgt : ¬ (120 : Int) < (n : Int) + (n2 : Int) := by omega
  have hwr : IntKind.i64.wrap ((n : Int) + (n2 : Int)) = (n : Int) + (n2 : Int) := by rw [IntKind.wrap_i64]; omega
  have hwa : IntKind.i64.wrap (a : Int) = (a : Int) := by rw [IntKind.wrap_i64]; omega
  have hwk : IntKind.i64.wrap (k : Int) = (k : Int) := by rw [IntKind.wrap_i64]; omega
  have hwk1 : IntKind.i64.wrap ((k : Int) + 1) = (k : Int) + 1 := by rw [IntKind.wrap_i64]; omega
  have hnz : ((n : Int) == 0) = false := by simp; omega
  have hnz2 : ¬ (n : Int) = 0 := by omega
  have hk0 : (0 : Int) ≤ (k : Int) := by omega
  have hkc : (k : Int) ≤ (c : Int) := by omega
  have hk10 : (0 : Int) ≤ (k : Int) + 1 := by omega
  have hk1n : (k : Int) + 1 ≤ (n : Int) := by omega
  have hkni : (k : Int) < (n : Int) := by omega
  clear h h2 hb1 hb2 hS hok hcap hfst htop hrow hlen hZ hk ok wk
  go_enter Try.func4, Try.ntmps4
  repeat (first | go_skip | go_guarded | go_step)
  refine f1.mono ?_
  rintro e w1 ⟨rfl, rfl⟩
  clear f1
  dsimp only
  repeat (first | go_skip | go_guarded | go_step)
  refine f2.mono ?_
  rintro e w1 ⟨rfl, rfl⟩
  clear f2
  dsimp only
  repeat (first | go_skip | go_guarded | go_step)
  refine c1.mono ?_
  rintro e w2 ⟨⟨r1, rfl⟩, hb2⟩
  have HB2 := Lib.hid hb2
  have HTA := Lib.hid (fun (V : World) (hV : Below w2.heap.size w2 V) => Rd.below (rdZ_take HTOP.out (by omega : k ≤ n)) (hb2.trans (hV.mono hb2.size)))
  have HDR := Lib.hid (fun (V : World) (hV : Below w2.heap.size w2 V) => Rd.below (rdZ_drop HTOP.out (by omega : k + 1 ≤ n) hnc) (hb2.trans (hV.mono hb2.size)))
  clear c1 hb2
  dsimp only
  repeat (first | go_skip | go_guarded | go_step)
  refine wp_region_any (by kernel_rfl) ?_
  try (change wpAny _ _ _ _ _ _ _ (World.drew _))
  have hf0 := belowDrews (Below.refl w2.heap.size w2) 1
  refine wpAny_take (i := 1) (oi := ?oid2) (v := ?vd2) ?hod2 (by kernel_rfl) ?hfd2 ?hrd2 ?hQd2 ?hyd2 ?restd2
  case hod2 => (simp only [List.getElem?_toArray, List.getElem?_cons_succ, List.getElem?_cons_zero]; exact rfl)
  case hfd2 => kernel_rfl
  case hrd2 => kernel_rfl
  case hQd2 => exact fun _ _ _ h => h
  case hyd2 =>
    refine Or.inl ⟨by rfl, ?_⟩
    intro w
    go_simp
    (try with_reducible rfl)
  try simp only [Act.put, List.setIfInBounds_toArray, List.set_cons_zero, List.set_cons_succ]
  refine wpAny_take (i := 2) (oi := ?oid3) (v := ?vd3) ?hod3 (by kernel_rfl) ?hfd3 ?hrd3 ?hQd3 ?hyd3 ?restd3
  case hod3 => (simp only [List.getElem?_toArray, List.getElem?_cons_succ, List.getElem?_cons_zero]; exact rfl)
  case hfd3 => kernel_rfl
  case hrd3 => kernel_rfl
  case hQd3 => exact fun _ _ _ h => h
  case hyd3 =>
    refine Or.inl ⟨by rfl, ?_⟩
    intro w
    go_simp
    (try with_reducible rfl)
  try simp only [Act.put, List.setIfInBounds_toArray, List.set_cons_zero, List.set_cons_succ]
  refine wpAny_take (i := 3) (oi := ?oid4) (v := ?vd4) ?hod4 (by kernel_rfl) ?hfd4 ?hrd4 ?hQd4 ?hyd4 ?restd4
  case hod4 => (simp only [List.getElem?_toArray, List.getElem?_cons_succ, List.getElem?_cons_zero]; exact rfl)
  case hfd4 => kernel_rfl
  case hrd4 => kernel_rfl
  case hQd4 => exact fun _ _ _ h => h
  case hyd4 =>
    refine Or.inl ⟨by rfl, ?_⟩
    intro w
    go_simp
    (try with_reducible rfl)
  try simp only [Act.put, List.setIfInBounds_toArray, List.set_cons_zero, List.set_cons_succ]
  refine wpAny_take (i := 5) (oi := ?oid5) (v := ?vd5) ?hod5 (by kernel_rfl) ?hfd5 ?hrd5 ?hQd5 ?hyd5 ?restd5
  case hod5 => (simp only [List.getElem?_toArray, List.getElem?_cons_succ, List.getElem?_cons_zero]; exact rfl)
  case hfd5 => kernel_rfl
  case hrd5 => kernel_rfl
  case hQd5 => exact fun _ _ _ h => h
  case hyd5 =>
    refine Or.inl ⟨by rfl, ?_⟩
    intro w
    go_simp
    (try with_reducible rfl)
  try simp only [Act.put, List.setIfInBounds_toArray, List.set_cons_zero, List.set_cons_succ]
  refine wpAny_take (i := 6) (oi := ?oid6) (v := ?vd6) ?hod6 (by kernel_rfl) ?hfd6 ?hrd6 ?hQd6 ?hyd6 ?restd6
  case hod6 => (simp only [List.getElem?_toArray, List.getElem?_cons_succ, List.getElem?_cons_zero]; exact rfl)
  case hfd6 => kernel_rfl
  case hrd6 => kernel_rfl
  case hQd6 => exact fun _ _ _ h => h
  case hyd6 =>
    refine Or.inl ⟨by rfl, ?_⟩
    intro w
    go_simp
    (try with_reducible rfl)
  try simp only [Act.put, List.setIfInBounds_toArray, List.set_cons_zero, List.set_cons_succ]
  refine wpAny_take (i := 7) (oi := ?oid7) (v := ?vd7) ?hod7 (by kernel_rfl) ?hfd7 ?hrd7 ?hQd7 ?hyd7 ?restd7
  case hod7 => (simp only [List.getElem?_toArray, List.getElem?_cons_succ, List.getElem?_cons_zero]; exact rfl)
  case hfd7 => kernel_rfl
  case hrd7 => kernel_rfl
  case hQd7 => exact fun _ _ _ h => h
  case hyd7 =>
    refine Or.inl ⟨by rfl, ?_⟩
    intro w
    go_simp
    (try with_reducible rfl)
  try simp only [Act.put, List.setIfInBounds_toArray, List.set_cons_zero, List.set_cons_succ]
  refine wpAny_take (i := 8) (oi := ?oid8) (v := ?vd8) ?hod8 (by kernel_rfl) ?hfd8 ?hrd8 ?hQd8 ?hyd8 ?restd8
  case hod8 => (simp only [List.getElem?_toArray, List.getElem?_cons_succ, List.getElem?_cons_zero]; exact rfl)
  case hfd8 => kernel_rfl
  case hrd8 => kernel_rfl
  case hQd8 => exact fun _ _ _ h => h
  case hyd8 =>
    refine Or.inl ⟨by rfl, ?_⟩
    intro w
    go_simp
    (try with_reducible rfl)
  try simp only [Act.put, List.setIfInBounds_toArray, List.set_cons_zero, List.set_cons_succ]
  refine wpAny_ready (rs := [0]) (by kernel_rfl) (by simp) ?_
  refine AllReady.cons (o := ?od9) ?hod9 (fun K hK => ?kd9) ?md9
  case hod9 => (simp only [List.getElem?_toArray, List.getElem?_cons_succ, List.getElem?_cons_zero]; exact rfl)
  case kd9 =>
    refine anyd_emptyC (by rfl) rfl w2.heap.size hf0.size ?_
    intro Vd9 Ad9 cd9 hod9 hvd9
    have hfd9 : Below w2.heap.size w2 Vd9 := hf0.trans (hvd9.mono hf0.size)
    (try dsimp only)
    refine hK _ _ ?_
    clear hK K
    try simp only [Act.put, List.setIfInBounds_toArray, List.set_cons_zero, List.set_cons_succ]
    refine wpAny_ready (rs := [4]) (by kernel_rfl) (by simp) ?_
    refine AllReady.cons (o := ?od10) ?hod10 (fun K hK => ?kd10) ?md10
    case hod10 => (simp only [List.getElem?_toArray, List.getElem?_cons_succ, List.getElem?_cons_zero]; exact rfl)
    case kd10 =>
      refine anyd_appC0 (by rfl) (.tmp 80) (.tmp 83) rfl w2.heap.size Ad9 cd9 (by rfl) hod9 _ A k c _ (by rfl) (HTA.out _ hfd9) (by omega) hfd9.size ?_
      intro Ad10 cd10 Vd10 hod10 htd10 hgd10
      have hfd10 : Below w2.heap.size w2 Vd10 := hfd9.trans (htd10.below (B := w2.heap.size) (fun y _ e => (hod9.low e).1) hfd9.size)
      (try dsimp only)
      refine hK _ _ ?_
      clear hK K
      try simp only [Act.put, List.setIfInBounds_toArray, List.set_cons_zero, List.set_cons_succ]
      refine wpAny_ready (rs := [9]) (by kernel_rfl) (by simp) ?_
      refine AllReady.cons (o := ?od11) ?hod11 (fun K hK => ?kd11) ?md11
      case hod11 => (simp only [List.getElem?_toArray, List.getElem?_cons_succ, List.getElem?_cons_zero]; exact rfl)
      case kd11 =>
        refine anyd_appC (by rfl) (.tmp 84) (.tmp 88) rfl w2.heap.size Ad10 cd10 k _ (by rfl) hod10 _ _ (n - (k + 1)) (c - (k + 1)) _ (by rfl) (HDR.out _ hfd10) (by omega) hfd10.size ?_
        intro Ad11 cd11 Vd11 hod11 htd11 hgd11
        have hfd11 : Below w2.heap.size w2 Vd11 := hfd10.trans (htd11.below (B := w2.heap.size) (fun y _ e => (hod10.low e).1) hfd10.size)
        (try dsimp only)
        refine hK _ _ ?_
        clear hK K
        try simp only [Act.put, List.setIfInBounds_toArray, List.set_cons_zero, List.set_cons_succ]
        refine wpAny_take (i := 10) (oi := ?oid12) (v := ?vd12) ?hod12 (by kernel_rfl) ?hfd12 ?hrd12 ?hQd12 ?hyd12 ?restd12
        case hod12 => (simp only [List.getElem?_toArray, List.getElem?_cons_succ, List.getElem?_cons_zero]; exact rfl)
        case hfd12 => kernel_rfl
        case hrd12 => kernel_rfl
        case hQd12 => exact fun _ _ _ h => h
        case hyd12 =>
          refine Or.inl ⟨by rfl, ?_⟩
          intro w
          go_simp
          (try with_reducible rfl)
        try simp only [Act.put, List.setIfInBounds_toArray, List.set_cons_zero, List.set_cons_succ]
        refine wpAny_done (by kernel_rfl) ?_ _
        generalize (if c = k + 1 then A else A.map (fun x => x.add ((k + 1) * 3))) = AD
        have HO3 := Lib.hid hod11
        have HB23 := Lib.hid hfd11
        clear HTA HDR
        obtain ⟨m, hm⟩ : ∃ m, m = k + (n - (k + 1)) := ⟨_, rfl⟩
        rw [← hm] at HO3 ⊢
        obtain ⟨Y, hY⟩ : ∃ Y, Y = Z.take k ++ Z.drop (k + 1) := ⟨_, rfl⟩
        rw [← hY] at HO3
        have HY := Lib.hid hY
        have hYC : Y.map (·.1) = lessC C k := by
          rw [hY, List.map_append, List.map_take, List.map_drop, HC.out]
          rfl
        have HYC := Lib.hid hYC
        have HB3 := Lib.hid (HB2.out.trans (HB23.out.mono HB2.out.size))
        have HYR := Lib.hid (show RowZ w1 w1.heap.size Y from HROW.out.sub (fun y hy => by
          rw [hY] at hy
          rcases List.mem_append.1 hy with hy | hy
          · exact List.mem_of_mem_take hy
          · exact List.mem_of_mem_drop hy))
        have HSY := Lib.hid (show Slim (Y.map (·.1)) from fun x hx => HS.out x ((less_sub C k).subset (by rw [← hYC]; exact hx)))
        have hmn : m + 1 ≤ 121 := by omega
        generalize Vd11 = w3 at HO3 HB23 HB3 ⊢
        clear hm hY hYC
        repeat (first | go_skip | go_guarded | go_step)
        refine (right_yes OK.out Y _ m _ w3 HO3.out.rd ((HYR.out.below HB3.out).more HB3.out.size) HO3.out.le HSY.out (by omega) (by rw [HYC.out]; exact right_less (less_sub C k) HOK.out)).mono ?_
        rintro e w4 ⟨⟨r3, rfl⟩, hb4⟩
        have HO4 := Lib.hid (HO3.out.later hb4)
        have HB4 := Lib.hid (HB3.out.trans (hb4.mono HB3.out.size))
        clear hb4
        dsimp only
        obtain ⟨b, o, p, l, L, A0, n0, c0, A1, n1, c1, R, hA, hb, hx, hq, hd0, hd1, hd2, hrt, hrl⟩ := (HH.out.below HB4.out).at_ hkn
        have HX := Lib.hid hx
        have HQ := Lib.hid hq
        subst hA
        have HRL := Lib.hid hrl
        have HRT := Lib.hid hrt
        have hn1 : n1 ≤ 1000000 := by
          have := (HS.out _ (List.mem_of_getElem? hx)).2.1
          have := hrl.lenL
          dsimp only at *
          omega
        have HS3 := Lib.hid (HS.out _ (List.mem_of_getElem? hx))
        clear hx hq hrt hrl
        go_upto_region 17 with (fail)
        obtain ⟨w5, hw5, hbk, hb5⟩ : ∃ W, W = w4.alloc (.cells #[nv p, .slice A0 n0 c0, .slice A1 n1 c1] 36) ∧ Bk W w4.heap.size 36 [nv p, .slice A0 n0 c0, .slice A1 n1 c1] ∧ Below w4.heap.size w4 W := box3 w4 p (.slice A0 n0 c0) (.slice A1 n1 c1) 36
        obtain ⟨g, hg⟩ : ∃ g, g = w4.heap.size := ⟨_, rfl⟩
        rw [← hw5]
        rw [← hg] at hbk ⊢
        have HB5 := Lib.hid (HB4.out.trans (hb5.mono HB4.out.size))
        have HO5 := Lib.hid (HO4.out.later hb5)
        have HLT := Lib.hid (show ∀ x, Ad11.map (·.block) = some x → x < g from fun x hx => by rw [hg]; exact (HO4.out.low hx).2)
        have HGL := Lib.hid (show w1.heap.size ≤ g by rw [hg]; exact HB4.out.size)
        have HG5 := Lib.hid hbk.lt
        have HBK := Lib.hid hbk
        have HRL5 := Lib.hid (HRL.out.below (show Below w1.heap.size w4 w5 from hb5.mono HB4.out.size))
        have HRT5 := Lib.hid (Rd.below HRT.out (show Below w1.heap.size w4 w5 from hb5.mono HB4.out.size))
        have k2 := (hbk.cell 2).trans (show ([nv p, .slice A0 n0 c0, .slice A1 n1 c1] : List Value)[2]? = some (.slice A1 n1 c1) from rfl)
        have kf2 := hbk.frozen 2
        clear hw5 hg hb5 hbk hd0 hd1 hd2 hb HRL HRT
        by_cases hn1z : n1 = 0
        · subst hn1z
          repeat (first | go_skip | go_guarded | go_step)
          refine (WK.out _).mono ?_
          rintro e wz ⟨rfl, hbz⟩
          have HBZ := Lib.hid (HB5.out.trans (hbz.mono HB5.out.size))
          clear hbz
          dsimp only
          repeat (first | go_skip | go_guarded | go_step)
          go_ret
          exact ⟨rfl, HBZ.out⟩
        · obtain ⟨b3, o3, g3, p3, l3, Ai, ni, ci, hA1, hb3, hx3, hr3, he0, he1, he2, hrow3⟩ := HRL5.out.at2 (i := n1 - 1) (by omega)
          subst hA1
          have HX3 := Lib.hid hx3
          have hn1i : (0 : Int) < (n1 : Int) := by omega
          have hw1 : IntKind.i64.wrap ((n1 : Int) - 1) = ((n1 - 1 : Nat) : Int) := by rw [IntKind.wrap_i64]; omega
          obtain ⟨j, hj⟩ : ∃ j, j = n1 - 1 := ⟨_, rfl⟩
          rw [← hj] at hw1 he0 he1 he2 HX3
          have hj0 : (0 : Int) ≤ (j : Int) := by omega
          have hj1 : (j : Int) < (n1 : Int) := by omega
          have hnc1 : n1 ≤ c1 := (HCAP.out _ (List.mem_of_getElem? HQ.out)).2
          have hjc : (j : Int) ≤ (c1 : Int) := by omega
          have HJ := Lib.hid hj
          clear hx3 hr3 he1 he2 hrow3 hn1z hj
          cases g3 with
          | false =>
            repeat (first | go_skip | go_guarded | go_step)
            refine (WK.out _).mono ?_
            rintro e wz ⟨rfl, hbz⟩
            have HBZ := Lib.hid (HB5.out.trans (hbz.mono HB5.out.size))
            clear hbz
            dsimp only
            repeat (first | go_skip | go_guarded | go_step)
            go_ret
            exact ⟨rfl, HBZ.out⟩
          | true =>
            go_upto_region 19 with (fail)
            obtain ⟨w6, hw6, hbk6⟩ : ∃ W, W = w5.setCell ⟨g, 2, none⟩ (.slice (some ⟨b3, o3, none⟩) j c1) ∧ Bk W g 36 [nv p, .slice A0 n0 c0, .slice (some ⟨b3, o3, none⟩) j c1] := ⟨_, rfl, HBK.out.set_ 2 _⟩
            rw [← hw6]
            have ht56 : Turn (fun x => x = g) w5 w6 := by rw [hw6]; exact (Turn.refl (fun x => x = g) w5).setCell (p := ⟨g, 2, none⟩) (fun _ => rfl) _
            have h56 : Below w1.heap.size w5 w6 := ht56.below (fun _ _ e => by rw [e]; exact HGL.out) HB5.out.size
            have ho6 : OwC w6 w2.heap.size Ad11 cd11 m Y := ht56.own HO5.out (fun x hx e => by rw [ownBlk_slice] at hx; have := HLT.out x hx; omega)
            have HB6 := Lib.hid (HB5.out.trans h56)
            have HBK6 := Lib.hid hbk6
            have HRD6 := Lib.hid ho6.rd
            have HZN := Lib.hid (show RowZ w6 w1.heap.size (Y ++ [((((p, l), L.dropLast) : Cl), (((A0, n0, c0), (some ⟨b3, o3, none⟩, j, c1), R.dropLast) : ClA))]) from by
              refine (HYR.out.below HB6.out).append fun z hz => ?_
              rw [List.mem_singleton] at hz
              subst hz
              refine ⟨Rd.below HRT5.out h56, ?_⟩
              have := (HRL5.out.below h56).trim
              rw [← HJ.out] at this
              exact this)
            have hlast : L.getLast? = some (true, p3, l3) := by
              rw [List.getLast?_eq_getElem?, HRL5.out.lenL, ← HJ.out]
              exact HX3.out
            have hmap : (Y ++ [((((p, l), L.dropLast) : Cl), (((A0, n0, c0), (some ⟨b3, o3, none⟩, j, c1), R.dropLast) : ClA))]).map (·.1) = lessC C k ++ [trimC ((p, l), L)] := by
              rw [List.map_append, HYC.out]
              rfl
            have HR0 := Lib.hid (show (rightM ((Y ++ [((((p, l), L.dropLast) : Cl), (((A0, n0, c0), (some ⟨b3, o3, none⟩, j, c1), R.dropLast) : ClA))]).map (·.1))).2 = 0 by
              rw [hmap]
              exact right_trim HX.out hlast rfl HOK.out)
            have HSL := Lib.hid (show Slim ((Y ++ [((((p, l), L.dropLast) : Cl), (((A0, n0, c0), (some ⟨b3, o3, none⟩, j, c1), R.dropLast) : ClA))]).map (·.1)) by
              rw [hmap]
              intro x hx
              rcases List.mem_append.1 hx with hx | hx
              · exact HS.out x ((less_sub C k).subset hx)
              · rw [List.mem_singleton] at hx
                subst hx
                obtain ⟨q1, q2, q3⟩ := HS3.out
                refine ⟨q1, ?_, fun y hy => q3 y (List.dropLast_subset _ hy)⟩
                show L.dropLast.length ≤ 1000000
                rw [List.length_dropLast]
                dsimp only at q2
                omega)
            clear hw6 hbk6 ht56 h56 ho6 hlast hmap k2 kf2
            obtain ⟨L', hL'⟩ : ∃ L', L' = L.dropLast := ⟨_, rfl⟩
            obtain ⟨R', hR'⟩ : ∃ R', R' = R.dropLast := ⟨_, rfl⟩
            rw [← hL', ← hR'] at HZN HR0 HSL
            clear hL' hR'
            refine wp_region_any (by kernel_rfl) ?_
            try (change wpAny _ _ _ _ _ _ _ (World.drew _))
            have hz0 := belowDrews (Below.refl w6.heap.size w6) 1
            refine wpAny_take (i := 1) (oi := ?oid14) (v := ?vd14) ?hod14 (by kernel_rfl) ?hfd14 ?hrd14 ?hQd14 ?hyd14 ?restd14
            case hod14 => (simp only [List.getElem?_toArray, List.getElem?_cons_succ, List.getElem?_cons_zero]; exact rfl)
            case hfd14 => kernel_rfl
            case hrd14 => kernel_rfl
            case hQd14 => exact fun _ _ _ h => h
            case hyd14 =>
              refine Or.inl ⟨by rfl, ?_⟩
              intro w
              go_simp
              (try with_reducible rfl)
            try simp only [Act.put, List.setIfInBounds_toArray, List.set_cons_zero, List.set_cons_succ]
            refine wpAny_ready (rs := [0, 3]) (by kernel_rfl) (by simp) ?_
            refine AllReady.cons (o := ?od15) ?hod15 (fun K hK => ?kd15) ?md15
            case hod15 => (simp only [List.getElem?_toArray, List.getElem?_cons_succ, List.getElem?_cons_zero]; exact rfl)
            case kd15 =>
              refine anyd_emptyC (by rfl) rfl _ (Nat.le_refl _) ?_
              intro Vd15 Ad15 cd15 hod15 hvd15
              have hfd15 : Below w6.heap.size w6 Vd15 := hz0.trans (hvd15.mono hz0.size)
              have hsd15 : w6.heap.size ≤ Vd15.heap.size := hfd15.size
              (try dsimp only)
              refine hK _ _ ?_
              clear hK K
              try simp only [Act.put, List.setIfInBounds_toArray, List.set_cons_zero, List.set_cons_succ]
              refine wpAny_ready (rs := [2, 3]) (by kernel_rfl) (by simp) ?_
              refine AllReady.cons (o := ?od16) ?hod16 (fun K hK => ?kd16) ?md16
              case hod16 => (simp only [List.getElem?_toArray, List.getElem?_cons_succ, List.getElem?_cons_zero]; exact rfl)
              case kd16 =>
                refine anyd_appC0 (by rfl) (.tmp 125) (.tmp 126) rfl _ Ad15 cd15 (by rfl) hod15 _ Ad11 m _ _ (by rfl) (Rd.below HRD6.out hfd15) (by omega) hvd15.size ?_
                intro Ad16 cd16 Vd16 hod16 htd16 hgd16
                have hfd16 : Below w6.heap.size w6 Vd16 := hfd15.trans (htd16.below (B := w6.heap.size) (fun y _ e => Nat.le_trans hz0.size (hod15.low e).1) hfd15.size)
                (try dsimp only)
                refine hK _ _ ?_
                clear hK K
                try simp only [Act.put, List.setIfInBounds_toArray, List.set_cons_zero, List.set_cons_succ]
                refine wpAny_ready (rs := [3]) (by kernel_rfl) (by simp) ?_
                refine AllReady.cons (o := ?od17) ?hod17 (fun K hK => ?kd17) ?md17
                case hod17 => (simp only [List.getElem?_toArray, List.getElem?_cons_succ, List.getElem?_cons_zero]; exact rfl)
                case kd17 =>
                  refine anyd_loadC (by rfl) (.tmp 15) rfl g (by rfl) p _ _ (HBK6.out.later hfd16) ?_
                  (try dsimp only)
                  refine hK _ _ ?_
                  clear hK K
                  try simp only [Act.put, List.setIfInBounds_toArray, List.set_cons_zero, List.set_cons_succ]
                  refine wpAny_ready (rs := [4]) (by kernel_rfl) (by simp) ?_
                  refine AllReady.cons (o := ?od18) ?hod18 (fun K hK => ?kd18) ?md18
                  case hod18 => (simp only [List.getElem?_toArray, List.getElem?_cons_succ, List.getElem?_cons_zero]; exact rfl)
                  case kd18 =>
                    refine anyd_lit1C (by rfl) (.tmp 128) rfl p A0 n0 c0 (some ⟨b3, o3, none⟩) j c1 (by rfl) l L' R' ?_
                    intro Vd18 qd18 hld18 hqd18 hvd18
                    have hfd18 : Below w6.heap.size w6 Vd18 := hfd16.trans (hvd18.mono hfd16.size)
                    have hod18 := hod16.later hvd18
                    have had18 : ∀ x, (some (⟨qd18, 0, none⟩ : Addr)).map (·.block) = some x → ¬ Ad16.map (·.block) = some x := fun x h1 h2 => by
                      have e1 := (hld18.low h1).1
                      have e2 := (hod16.low h2).2
                      omega
                    (try dsimp only)
                    refine hK _ _ ?_
                    clear hK K
                    try simp only [Act.put, List.setIfInBounds_toArray, List.set_cons_zero, List.set_cons_succ]
                    refine wpAny_ready (rs := [5]) (by kernel_rfl) (by simp) ?_
                    refine AllReady.cons (o := ?od19) ?hod19 (fun K hK => ?kd19) ?md19
                    case hod19 => (simp only [List.getElem?_toArray, List.getElem?_cons_succ, List.getElem?_cons_zero]; exact rfl)
                    case kd19 =>
                      refine anyd_appC (by rfl) (.tmp 127) (.tmp 129) rfl _ Ad16 cd16 m _ (by rfl) hod18 _ _ 1 1 _ (by rfl) hld18.rd (by omega) (Nat.le_trans (Nat.le_trans hvd15.size htd16.size) hvd18.size) ?_
                      intro Ad19 cd19 Vd19 hod19 htd19 hgd19
                      have hfd19 : Below w6.heap.size w6 Vd19 := hfd18.trans (htd19.below (B := w6.heap.size) (fun y _ e => Nat.le_trans hz0.size (hod18.low e).1) hfd18.size)
                      (try dsimp only)
                      refine hK _ _ ?_
                      clear hK K
                      try simp only [Act.put, List.setIfInBounds_toArray, List.set_cons_zero, List.set_cons_succ]
                      refine wpAny_ready (rs := [6]) (by kernel_rfl) (by simp) ?_
                      refine AllReady.cons (o := ?od20) ?hod20 (fun K hK => ?kd20) ?md20
                      case hod20 => (simp only [List.getElem?_toArray, List.getElem?_cons_succ, List.getElem?_cons_zero]; exact rfl)
                      case kd20 =>
                        go_simp
                        refine (right_yes OK.out _ Ad19 (m + 1) cd19 _ hod19.rd ((HZN.out.below (hfd19.mono HB6.out.size)).more (Nat.le_trans HB6.out.size hfd19.size)) hod19.le HSL.out (by omega) HR0.out).mono ?_
                        rintro e Vd20 ⟨⟨rd20, rfl⟩, hvd20⟩
                        have hfd20 : Below w6.heap.size w6 Vd20 := hfd19.trans (hvd20.mono hfd19.size)
                        (try dsimp only)
                        refine hK _ _ ?_
                        clear hK K
                        try simp only [Act.put, List.setIfInBounds_toArray, List.set_cons_zero, List.set_cons_succ]
                        refine wpAny_take (i := 7) (oi := ?oid21) (v := ?vd21) ?hod21 (by kernel_rfl) ?hfd21 ?hrd21 ?hQd21 ?hyd21 ?restd21
                        case hod21 => (simp only [List.getElem?_toArray, List.getElem?_cons_succ, List.getElem?_cons_zero]; exact rfl)
                        case hfd21 => kernel_rfl
                        case hrd21 => kernel_rfl
                        case hQd21 => exact fun _ _ _ h => h
                        case hyd21 =>
                          refine Or.inl ⟨by rfl, ?_⟩
                          intro w
                          go_simp
                          (try with_reducible rfl)
                        try simp only [Act.put, List.setIfInBounds_toArray, List.set_cons_zero, List.set_cons_succ]
                        refine wpAny_take (i := 8) (oi := ?oid22) (v := ?vd22) ?hod22 (by kernel_rfl) ?hfd22 ?hrd22 ?hQd22 ?hyd22 ?restd22
                        case hod22 => (simp only [List.getElem?_toArray, List.getElem?_cons_succ, List.getElem?_cons_zero]; exact rfl)
                        case hfd22 => kernel_rfl
                        case hrd22 => kernel_rfl
                        case hQd22 => exact fun _ _ _ h => h
                        case hyd22 =>
                          refine Or.inl ⟨by rfl, ?_⟩
                          intro w
                          go_simp
                          (try with_reducible rfl)
                        try simp only [Act.put, List.setIfInBounds_toArray, List.set_cons_zero, List.set_cons_succ]
                        refine wpAny_take (i := 9) (oi := ?oid23) (v := ?vd23) ?hod23 (by kernel_rfl) ?hfd23 ?hrd23 ?hQd23 ?hyd23 ?restd23
                        case hod23 => (simp only [List.getElem?_toArray, List.getElem?_cons_succ, List.getElem?_cons_zero]; exact rfl)
                        case hfd23 => kernel_rfl
                        case hrd23 => kernel_rfl
                        case hQd23 => exact fun _ _ _ h => h
                        case hyd23 =>
                          refine Or.inl ⟨by rfl, ?_⟩
                          intro w
                          go_simp
                          (try with_reducible rfl)
                        try simp only [Act.put, List.setIfInBounds_toArray, List.set_cons_zero, List.set_cons_succ]
                        refine wpAny_take (i := 10) (oi := ?oid24) (v := ?vd24) ?hod24 (by kernel_rfl) ?hfd24 ?hrd24 ?hQd24 ?hyd24 ?restd24
                        case hod24 => (simp only [List.getElem?_toArray, List.getElem?_cons_succ, List.getElem?_cons_zero]; exact rfl)
                        case hfd24 => kernel_rfl
                        case hrd24 => kernel_rfl
                        case hQd24 => exact fun _ _ _ h => h
                        case hyd24 =>
                          refine Or.inl ⟨by rfl, ?_⟩
                          intro w
                          go_simp
                          (try with_reducible rfl)
                        try simp only [Act.put, List.setIfInBounds_toArray, List.set_cons_zero, List.set_cons_succ]
                        refine wpAny_take (i := 11) (oi := ?oid25) (v := ?vd25) ?hod25 (by kernel_rfl) ?hfd25 ?hrd25 ?hQd25 ?hyd25 ?restd25
                        case hod25 => (simp only [List.getElem?_toArray, List.getElem?_cons_succ, List.getElem?_cons_zero]; exact rfl)
                        case hfd25 => kernel_rfl
                        case hrd25 => kernel_rfl
                        case hQd25 => exact fun _ _ _ h => h
                        case hyd25 =>
                          refine Or.inl ⟨by rfl, ?_⟩
                          intro w
                          go_simp
                          (try with_reducible rfl)
                        try simp only [Act.put, List.setIfInBounds_toArray, List.set_cons_zero, List.set_cons_succ]
                        refine wpAny_done (by kernel_rfl) ?_ _
                        have HB7 := Lib.hid (HB6.out.trans (hfd20.mono HB6.out.size))
                        repeat (first | go_skip | go_guarded | go_step)
                        refine (WK.out _).mono ?_
                        rintro e wz ⟨rfl, hbz⟩
                        have HBZ := Lib.hid (HB7.out.trans (hbz.mono HB7.out.size))
                        clear hbz
                        dsimp only
                        repeat (first | go_skip | go_guarded | go_step)
                        go_ret
                        exact ⟨rfl, HBZ.out⟩
                      exact AllReady.nil
                    exact AllReady.nil
                  exact AllReady.nil
                exact AllReady.nil
              refine AllReady.cons (o := ?od26) ?hod26 (fun K hK => ?kd26) ?md26
              case hod26 => (simp only [List.getElem?_toArray, List.getElem?_cons_succ, List.getElem?_cons_zero]; exact rfl)
              case kd26 =>
                refine anyd_loadC (by rfl) (.tmp 15) rfl g (by rfl) p _ _ (HBK6.out.later hfd15) ?_
                (try dsimp only)
                refine hK _ _ ?_
                clear hK K
                try simp only [Act.put, List.setIfInBounds_toArray, List.set_cons_zero, List.set_cons_succ]
                refine wpAny_ready (rs := [2, 4]) (by kernel_rfl) (by simp) ?_
                refine AllReady.cons (o := ?od27) ?hod27 (fun K hK => ?kd27) ?md27
                case hod27 => (simp only [List.getElem?_toArray, List.getElem?_cons_succ, List.getElem?_cons_zero]; exact rfl)
                case kd27 =>
                  refine anyd_appC0 (by rfl) (.tmp 125) (.tmp 126) rfl _ Ad15 cd15 (by rfl) hod15 _ Ad11 m _ _ (by rfl) (Rd.below HRD6.out hfd15) (by omega) hvd15.size ?_
                  intro Ad27 cd27 Vd27 hod27 htd27 hgd27
                  have hfd27 : Below w6.heap.size w6 Vd27 := hfd15.trans (htd27.below (B := w6.heap.size) (fun y _ e => Nat.le_trans hz0.size (hod15.low e).1) hfd15.size)
                  (try dsimp only)
                  refine hK _ _ ?_
                  clear hK K
                  try simp only [Act.put, List.setIfInBounds_toArray, List.set_cons_zero, List.set_cons_succ]
                  refine wpAny_ready (rs := [4]) (by kernel_rfl) (by simp) ?_
                  refine AllReady.cons (o := ?od28) ?hod28 (fun K hK => ?kd28) ?md28
                  case hod28 => (simp only [List.getElem?_toArray, List.getElem?_cons_succ, List.getElem?_cons_zero]; exact rfl)
                  case kd28 =>
                    refine anyd_lit1C (by rfl) (.tmp 128) rfl p A0 n0 c0 (some ⟨b3, o3, none⟩) j c1 (by rfl) l L' R' ?_
                    intro Vd28 qd28 hld28 hqd28 hvd28
                    have hfd28 : Below w6.heap.size w6 Vd28 := hfd27.trans (hvd28.mono hfd27.size)
                    have hod28 := hod27.later hvd28
                    have had28 : ∀ x, (some (⟨qd28, 0, none⟩ : Addr)).map (·.block) = some x → ¬ Ad27.map (·.block) = some x := fun x h1 h2 => by
                      have e1 := (hld28.low h1).1
                      have e2 := (hod27.low h2).2
                      omega
                    (try dsimp only)
                    refine hK _ _ ?_
                    clear hK K
                    try simp only [Act.put, List.setIfInBounds_toArray, List.set_cons_zero, List.set_cons_succ]
                    refine wpAny_ready (rs := [5]) (by kernel_rfl) (by simp) ?_
                    refine AllReady.cons (o := ?od29) ?hod29 (fun K hK => ?kd29) ?md29
                    case hod29 => (simp only [List.getElem?_toArray, List.getElem?_cons_succ, List.getElem?_cons_zero]; exact rfl)
                    case kd29 =>
                      refine anyd_appC (by rfl) (.tmp 127) (.tmp 129) rfl _ Ad27 cd27 m _ (by rfl) hod28 _ _ 1 1 _ (by rfl) hld28.rd (by omega) (Nat.le_trans (Nat.le_trans hvd15.size htd27.size) hvd28.size) ?_
                      intro Ad29 cd29 Vd29 hod29 htd29 hgd29
                      have hfd29 : Below w6.heap.size w6 Vd29 := hfd28.trans (htd29.below (B := w6.heap.size) (fun y _ e => Nat.le_trans hz0.size (hod28.low e).1) hfd28.size)
                      (try dsimp only)
                      refine hK _ _ ?_
                      clear hK K
                      try simp only [Act.put, List.setIfInBounds_toArray, List.set_cons_zero, List.set_cons_succ]
                      refine wpAny_ready (rs := [6]) (by kernel_rfl) (by simp) ?_
                      refine AllReady.cons (o := ?od30) ?hod30 (fun K hK => ?kd30) ?md30
                      case hod30 => (simp only [List.getElem?_toArray, List.getElem?_cons_succ, List.getElem?_cons_zero]; exact rfl)
                      case kd30 =>
                        go_simp
                        refine (right_yes OK.out _ Ad29 (m + 1) cd29 _ hod29.rd ((HZN.out.below (hfd29.mono HB6.out.size)).more (Nat.le_trans HB6.out.size hfd29.size)) hod29.le HSL.out (by omega) HR0.out).mono ?_
                        rintro e Vd30 ⟨⟨rd30, rfl⟩, hvd30⟩
                        have hfd30 : Below w6.heap.size w6 Vd30 := hfd29.trans (hvd30.mono hfd29.size)
                        (try dsimp only)
                        refine hK _ _ ?_
                        clear hK K
                        try simp only [Act.put, List.setIfInBounds_toArray, List.set_cons_zero, List.set_cons_succ]
                        refine wpAny_take (i := 7) (oi := ?oid31) (v := ?vd31) ?hod31 (by kernel_rfl) ?hfd31 ?hrd31 ?hQd31 ?hyd31 ?restd31
                        case hod31 => (simp only [List.getElem?_toArray, List.getElem?_cons_succ, List.getElem?_cons_zero]; exact rfl)
                        case hfd31 => kernel_rfl
                        case hrd31 => kernel_rfl
                        case hQd31 => exact fun _ _ _ h => h
                        case hyd31 =>
                          refine Or.inl ⟨by rfl, ?_⟩
                          intro w
                          go_simp
                          (try with_reducible rfl)
                        try simp only [Act.put, List.setIfInBounds_toArray, List.set_cons_zero, List.set_cons_succ]
                        refine wpAny_take (i := 8) (oi := ?oid32) (v := ?vd32) ?hod32 (by kernel_rfl) ?hfd32 ?hrd32 ?hQd32 ?hyd32 ?restd32
                        case hod32 => (simp only [List.getElem?_toArray, List.getElem?_cons_succ, List.getElem?_cons_zero]; exact rfl)
                        case hfd32 => kernel_rfl
                        case hrd32 => kernel_rfl
                        case hQd32 => exact fun _ _ _ h => h
                        case hyd32 =>
                          refine Or.inl ⟨by rfl, ?_⟩
                          intro w
                          go_simp
                          (try with_reducible rfl)
                        try simp only [Act.put, List.setIfInBounds_toArray, List.set_cons_zero, List.set_cons_succ]
                        refine wpAny_take (i := 9) (oi := ?oid33) (v := ?vd33) ?hod33 (by kernel_rfl) ?hfd33 ?hrd33 ?hQd33 ?hyd33 ?restd33
                        case hod33 => (simp only [List.getElem?_toArray, List.getElem?_cons_succ, List.getElem?_cons_zero]; exact rfl)
                        case hfd33 => kernel_rfl
                        case hrd33 => kernel_rfl
                        case hQd33 => exact fun _ _ _ h => h
                        case hyd33 =>
                          refine Or.inl ⟨by rfl, ?_⟩
                          intro w
                          go_simp
                          (try with_reducible rfl)
                        try simp only [Act.put, List.setIfInBounds_toArray, List.set_cons_zero, List.set_cons_succ]
                        refine wpAny_take (i := 10) (oi := ?oid34) (v := ?vd34) ?hod34 (by kernel_rfl) ?hfd34 ?hrd34 ?hQd34 ?hyd34 ?restd34
                        case hod34 => (simp only [List.getElem?_toArray, List.getElem?_cons_succ, List.getElem?_cons_zero]; exact rfl)
                        case hfd34 => kernel_rfl
                        case hrd34 => kernel_rfl
                        case hQd34 => exact fun _ _ _ h => h
                        case hyd34 =>
                          refine Or.inl ⟨by rfl, ?_⟩
                          intro w
                          go_simp
                          (try with_reducible rfl)
                        try simp only [Act.put, List.setIfInBounds_toArray, List.set_cons_zero, List.set_cons_succ]
                        refine wpAny_take (i := 11) (oi := ?oid35) (v := ?vd35) ?hod35 (by kernel_rfl) ?hfd35 ?hrd35 ?hQd35 ?hyd35 ?restd35
                        case hod35 => (simp only [List.getElem?_toArray, List.getElem?_cons_succ, List.getElem?_cons_zero]; exact rfl)
                        case hfd35 => kernel_rfl
                        case hrd35 => kernel_rfl
                        case hQd35 => exact fun _ _ _ h => h
                        case hyd35 =>
                          refine Or.inl ⟨by rfl, ?_⟩
                          intro w
                          go_simp
                          (try with_reducible rfl)
                        try simp only [Act.put, List.setIfInBounds_toArray, List.set_cons_zero, List.set_cons_succ]
                        refine wpAny_done (by kernel_rfl) ?_ _
                        have HB7 := Lib.hid (HB6.out.trans (hfd30.mono HB6.out.size))
                        repeat (first | go_skip | go_guarded | go_step)
                        refine (WK.out _).mono ?_
                        rintro e wz ⟨rfl, hbz⟩
                        have HBZ := Lib.hid (HB7.out.trans (hbz.mono HB7.out.size))
                        clear hbz
                        dsimp only
                        repeat (first | go_skip | go_guarded | go_step)
                        go_ret
                        exact ⟨rfl, HBZ.out⟩
                      exact AllReady.nil
                    exact AllReady.nil
                  exact AllReady.nil
                refine AllReady.cons (o := ?od36) ?hod36 (fun K hK => ?kd36) ?md36
                case hod36 => (simp only [List.getElem?_toArray, List.getElem?_cons_succ, List.getElem?_cons_zero]; exact rfl)
                case kd36 =>
                  refine anyd_lit1C (by rfl) (.tmp 128) rfl p A0 n0 c0 (some ⟨b3, o3, none⟩) j c1 (by rfl) l L' R' ?_
                  intro Vd36 qd36 hld36 hqd36 hvd36
                  have hfd36 : Below w6.heap.size w6 Vd36 := hfd15.trans (hvd36.mono hfd15.size)
                  have hod36 := hod15.later hvd36
                  have had36 : ∀ x, (some (⟨qd36, 0, none⟩ : Addr)).map (·.block) = some x → ¬ Ad15.map (·.block) = some x := fun x h1 h2 => by
                    have e1 := (hld36.low h1).1
                    have e2 := (hod15.low h2).2
                    omega
                  (try dsimp only)
                  refine hK _ _ ?_
                  clear hK K
                  try simp only [Act.put, List.setIfInBounds_toArray, List.set_cons_zero, List.set_cons_succ]
                  refine wpAny_ready (rs := [2]) (by kernel_rfl) (by simp) ?_
                  refine AllReady.cons (o := ?od37) ?hod37 (fun K hK => ?kd37) ?md37
                  case hod37 => (simp only [List.getElem?_toArray, List.getElem?_cons_succ, List.getElem?_cons_zero]; exact rfl)
                  case kd37 =>
                    refine anyd_appC0 (by rfl) (.tmp 125) (.tmp 126) rfl _ Ad15 cd15 (by rfl) hod36 _ Ad11 m _ _ (by rfl) (Rd.below HRD6.out hfd36) (by omega) (Nat.le_trans hvd15.size hvd36.size) ?_
                    intro Ad37 cd37 Vd37 hod37 htd37 hgd37
                    have hfd37 : Below w6.heap.size w6 Vd37 := hfd36.trans (htd37.below (B := w6.heap.size) (fun y _ e => Nat.le_trans hz0.size (hod36.low e).1) hfd36.size)
                    have hld37 : OwC Vd37 _ (some ⟨qd36, 0, none⟩) 1 1 [((((p, l), L') : Cl), (((A0, n0, c0), (some ⟨b3, o3, none⟩, j, c1), R') : ClA))] := htd37.own hld36 (fun x h1 h2 => had36 x (by rw [ownBlk_slice] at h1; exact h1) h2)
                    (try dsimp only)
                    refine hK _ _ ?_
                    clear hK K
                    try simp only [Act.put, List.setIfInBounds_toArray, List.set_cons_zero, List.set_cons_succ]
                    refine wpAny_ready (rs := [5]) (by kernel_rfl) (by simp) ?_
                    refine AllReady.cons (o := ?od38) ?hod38 (fun K hK => ?kd38) ?md38
                    case hod38 => (simp only [List.getElem?_toArray, List.getElem?_cons_succ, List.getElem?_cons_zero]; exact rfl)
                    case kd38 =>
                      refine anyd_appC (by rfl) (.tmp 127) (.tmp 129) rfl _ Ad37 cd37 m _ (by rfl) hod37 _ _ 1 1 _ (by rfl) hld37.rd (by omega) (Nat.le_trans (Nat.le_trans hvd15.size hvd36.size) htd37.size) ?_
                      intro Ad38 cd38 Vd38 hod38 htd38 hgd38
                      have hfd38 : Below w6.heap.size w6 Vd38 := hfd37.trans (htd38.below (B := w6.heap.size) (fun y _ e => Nat.le_trans hz0.size (hod37.low e).1) hfd37.size)
                      (try dsimp only)
                      refine hK _ _ ?_
                      clear hK K
                      try simp only [Act.put, List.setIfInBounds_toArray, List.set_cons_zero, List.set_cons_succ]
                      refine wpAny_ready (rs := [6]) (by kernel_rfl) (by simp) ?_
                      refine AllReady.cons (o := ?od39) ?hod39 (fun K hK => ?kd39) ?md39
                      case hod39 => (simp only [List.getElem?_toArray, List.getElem?_cons_succ, List.getElem?_cons_zero]; exact rfl)
                      case kd39 =>
                        go_simp
                        refine (right_yes OK.out _ Ad38 (m + 1) cd38 _ hod38.rd ((HZN.out.below (hfd38.mono HB6.out.size)).more (Nat.le_trans HB6.out.size hfd38.size)) hod38.le HSL.out (by omega) HR0.out).mono ?_
                        rintro e Vd39 ⟨⟨rd39, rfl⟩, hvd39⟩
                        have hfd39 : Below w6.heap.size w6 Vd39 := hfd38.trans (hvd39.mono hfd38.size)
                        (try dsimp only)
                        refine hK _ _ ?_
                        clear hK K
                        try simp only [Act.put, List.setIfInBounds_toArray, List.set_cons_zero, List.set_cons_succ]
                        refine wpAny_take (i := 7) (oi := ?oid40) (v := ?vd40) ?hod40 (by kernel_rfl) ?hfd40 ?hrd40 ?hQd40 ?hyd40 ?restd40
                        case hod40 => (simp only [List.getElem?_toArray, List.getElem?_cons_succ, List.getElem?_cons_zero]; exact rfl)
                        case hfd40 => kernel_rfl
                        case hrd40 => kernel_rfl
                        case hQd40 => exact fun _ _ _ h => h
                        case hyd40 =>
                          refine Or.inl ⟨by rfl, ?_⟩
                          intro w
                          go_simp
                          (try with_reducible rfl)
                        try simp only [Act.put, List.setIfInBounds_toArray, List.set_cons_zero, List.set_cons_succ]
                        refine wpAny_take (i := 8) (oi := ?oid41) (v := ?vd41) ?hod41 (by kernel_rfl) ?hfd41 ?hrd41 ?hQd41 ?hyd41 ?restd41
                        case hod41 => (simp only [List.getElem?_toArray, List.getElem?_cons_succ, List.getElem?_cons_zero]; exact rfl)
                        case hfd41 => kernel_rfl
                        case hrd41 => kernel_rfl
                        case hQd41 => exact fun _ _ _ h => h
                        case hyd41 =>
                          refine Or.inl ⟨by rfl, ?_⟩
                          intro w
                          go_simp
                          (try with_reducible rfl)
                        try simp only [Act.put, List.setIfInBounds_toArray, List.set_cons_zero, List.set_cons_succ]
                        refine wpAny_take (i := 9) (oi := ?oid42) (v := ?vd42) ?hod42 (by kernel_rfl) ?hfd42 ?hrd42 ?hQd42 ?hyd42 ?restd42
                        case hod42 => (simp only [List.getElem?_toArray, List.getElem?_cons_succ, List.getElem?_cons_zero]; exact rfl)
                        case hfd42 => kernel_rfl
                        case hrd42 => kernel_rfl
                        case hQd42 => exact fun _ _ _ h => h
                        case hyd42 =>
                          refine Or.inl ⟨by rfl, ?_⟩
                          intro w
                          go_simp
                          (try with_reducible rfl)
                        try simp only [Act.put, List.setIfInBounds_toArray, List.set_cons_zero, List.set_cons_succ]
                        refine wpAny_take (i := 10) (oi := ?oid43) (v := ?vd43) ?hod43 (by kernel_rfl) ?hfd43 ?hrd43 ?hQd43 ?hyd43 ?restd43
                        case hod43 => (simp only [List.getElem?_toArray, List.getElem?_cons_succ, List.getElem?_cons_zero]; exact rfl)
                        case hfd43 => kernel_rfl
                        case hrd43 => kernel_rfl
                        case hQd43 => exact fun _ _ _ h => h
                        case hyd43 =>
                          refine Or.inl ⟨by rfl, ?_⟩
                          intro w
                          go_simp
                          (try with_reducible rfl)
                        try simp only [Act.put, List.setIfInBounds_toArray, List.set_cons_zero, List.set_cons_succ]
                        refine wpAny_take (i := 11) (oi := ?oid44) (v := ?vd44) ?hod44 (by kernel_rfl) ?hfd44 ?hrd44 ?hQd44 ?hyd44 ?restd44
                        case hod44 => (simp only [List.getElem?_toArray, List.getElem?_cons_succ, List.getElem?_cons_zero]; exact rfl)
                        case hfd44 => kernel_rfl
                        case hrd44 => kernel_rfl
                        case hQd44 => exact fun _ _ _ h => h
                        case hyd44 =>
                          refine Or.inl ⟨by rfl, ?_⟩
                          intro w
                          go_simp
                          (try with_reducible rfl)
                        try simp only [Act.put, List.setIfInBounds_toArray, List.set_cons_zero, List.set_cons_succ]
                        refine wpAny_done (by kernel_rfl) ?_ _
                        have HB7 := Lib.hid (HB6.out.trans (hfd39.mono HB6.out.size))
                        repeat (first | go_skip | go_guarded | go_step)
                        refine (WK.out _).mono ?_
                        rintro e wz ⟨rfl, hbz⟩
                        have HBZ := Lib.hid (HB7.out.trans (hbz.mono HB7.out.size))
                        clear hbz
                        dsimp only
                        repeat (first | go_skip | go_guarded | go_step)
                        go_ret
                        exact ⟨rfl, HBZ.out⟩
                      exact AllReady.nil
                    exact AllReady.nil
                  exact AllReady.nil
                exact AllReady.nil
              exact AllReady.nil
            refine AllReady.cons (o := ?od45) ?hod45 (fun K hK => ?kd45) ?md45
            case hod45 => (simp only [List.getElem?_toArray, List.getElem?_cons_succ, List.getElem?_cons_zero]; exact rfl)
            case kd45 =>
              refine anyd_loadC (by rfl) (.tmp 15) rfl g (by rfl) p _ _ (HBK6.out.later hz0) ?_
              (try dsimp only)
              refine hK _ _ ?_
              clear hK K
              try simp only [Act.put, List.setIfInBounds_toArray, List.set_cons_zero, List.set_cons_succ]
              refine wpAny_ready (rs := [0, 4]) (by kernel_rfl) (by simp) ?_
              refine AllReady.cons (o := ?od46) ?hod46 (fun K hK => ?kd46) ?md46
              case hod46 => (simp only [List.getElem?_toArray, List.getElem?_cons_succ, List.getElem?_cons_zero]; exact rfl)
              case kd46 =>
                refine anyd_emptyC (by rfl) rfl _ (Nat.le_refl _) ?_
                intro Vd46 Ad46 cd46 hod46 hvd46
                have hfd46 : Below w6.heap.size w6 Vd46 := hz0.trans (hvd46.mono hz0.size)
                have hsd46 : w6.heap.size ≤ Vd46.heap.size := hfd46.size
                (try dsimp only)
                refine hK _ _ ?_
                clear hK K
                try simp only [Act.put, List.setIfInBounds_toArray, List.set_cons_zero, List.set_cons_succ]
                refine wpAny_ready (rs := [2, 4]) (by kernel_rfl) (by simp) ?_
                refine AllReady.cons (o := ?od47) ?hod47 (fun K hK => ?kd47) ?md47
                case hod47 => (simp only [List.getElem?_toArray, List.getElem?_cons_succ, List.getElem?_cons_zero]; exact rfl)
                case kd47 =>
                  refine anyd_appC0 (by rfl) (.tmp 125) (.tmp 126) rfl _ Ad46 cd46 (by rfl) hod46 _ Ad11 m _ _ (by rfl) (Rd.below HRD6.out hfd46) (by omega) hvd46.size ?_
                  intro Ad47 cd47 Vd47 hod47 htd47 hgd47
                  have hfd47 : Below w6.heap.size w6 Vd47 := hfd46.trans (htd47.below (B := w6.heap.size) (fun y _ e => Nat.le_trans hz0.size (hod46.low e).1) hfd46.size)
                  (try dsimp only)
                  refine hK _ _ ?_
                  clear hK K
                  try simp only [Act.put, List.setIfInBounds_toArray, List.set_cons_zero, List.set_cons_succ]
                  refine wpAny_ready (rs := [4]) (by kernel_rfl) (by simp) ?_
                  refine AllReady.cons (o := ?od48) ?hod48 (fun K hK => ?kd48) ?md48
                  case hod48 => (simp only [List.getElem?_toArray, List.getElem?_cons_succ, List.getElem?_cons_zero]; exact rfl)
                  case kd48 =>
                    refine anyd_lit1C (by rfl) (.tmp 128) rfl p A0 n0 c0 (some ⟨b3, o3, none⟩) j c1 (by rfl) l L' R' ?_
                    intro Vd48 qd48 hld48 hqd48 hvd48
                    have hfd48 : Below w6.heap.size w6 Vd48 := hfd47.trans (hvd48.mono hfd47.size)
                    have hod48 := hod47.later hvd48
                    have had48 : ∀ x, (some (⟨qd48, 0, none⟩ : Addr)).map (·.block) = some x → ¬ Ad47.map (·.block) = some x := fun x h1 h2 => by
                      have e1 := (hld48.low h1).1
                      have e2 := (hod47.low h2).2
                      omega
                    (try dsimp only)
                    refine hK _ _ ?_
                    clear hK K
                    try simp only [Act.put, List.setIfInBounds_toArray, List.set_cons_zero, List.set_cons_succ]
                    refine wpAny_ready (rs := [5]) (by kernel_rfl) (by simp) ?_
                    refine AllReady.cons (o := ?od49) ?hod49 (fun K hK => ?kd49) ?md49
                    case hod49 => (simp only [List.getElem?_toArray, List.getElem?_cons_succ, List.getElem?_cons_zero]; exact rfl)
                    case kd49 =>
                      refine anyd_appC (by rfl) (.tmp 127) (.tmp 129) rfl _ Ad47 cd47 m _ (by rfl) hod48 _ _ 1 1 _ (by rfl) hld48.rd (by omega) (Nat.le_trans (Nat.le_trans hvd46.size htd47.size) hvd48.size) ?_
                      intro Ad49 cd49 Vd49 hod49 htd49 hgd49
                      have hfd49 : Below w6.heap.size w6 Vd49 := hfd48.trans (htd49.below (B := w6.heap.size) (fun y _ e => Nat.le_trans hz0.size (hod48.low e).1) hfd48.size)
                      (try dsimp only)
                      refine hK _ _ ?_
                      clear hK K
                      try simp only [Act.put, List.setIfInBounds_toArray, List.set_cons_zero, List.set_cons_succ]
                      refine wpAny_ready (rs := [6]) (by kernel_rfl) (by simp) ?_
                      refine AllReady.cons (o := ?od50) ?hod50 (fun K hK => ?kd50) ?md50
                      case hod50 => (simp only [List.getElem?_toArray, List.getElem?_cons_succ, List.getElem?_cons_zero]; exact rfl)
                      case kd50 =>
                        go_simp
                        refine (right_yes OK.out _ Ad49 (m + 1) cd49 _ hod49.rd ((HZN.out.below (hfd49.mono HB6.out.size)).more (Nat.le_trans HB6.out.size hfd49.size)) hod49.le HSL.out (by omega) HR0.out).mono ?_
                        rintro e Vd50 ⟨⟨rd50, rfl⟩, hvd50⟩
                        have hfd50 : Below w6.heap.size w6 Vd50 := hfd49.trans (hvd50.mono hfd49.size)
                        (try dsimp only)
                        refine hK _ _ ?_
                        clear hK K
                        try simp only [Act.put, List.setIfInBounds_toArray, List.set_cons_zero, List.set_cons_succ]
                        refine wpAny_take (i := 7) (oi := ?oid51) (v := ?vd51) ?hod51 (by kernel_rfl) ?hfd51 ?hrd51 ?hQd51 ?hyd51 ?restd51
                        case hod51 => (simp only [List.getElem?_toArray, List.getElem?_cons_succ, List.getElem?_cons_zero]; exact rfl)
                        case hfd51 => kernel_rfl
                        case hrd51 => kernel_rfl
                        case hQd51 => exact fun _ _ _ h => h
                        case hyd51 =>
                          refine Or.inl ⟨by rfl, ?_⟩
                          intro w
                          go_simp
                          (try with_reducible rfl)
                        try simp only [Act.put, List.setIfInBounds_toArray, List.set_cons_zero, List.set_cons_succ]
                        refine wpAny_take (i := 8) (oi := ?oid52) (v := ?vd52) ?hod52 (by kernel_rfl) ?hfd52 ?hrd52 ?hQd52 ?hyd52 ?restd52
                        case hod52 => (simp only [List.getElem?_toArray, List.getElem?_cons_succ, List.getElem?_cons_zero]; exact rfl)
                        case hfd52 => kernel_rfl
                        case hrd52 => kernel_rfl
                        case hQd52 => exact fun _ _ _ h => h
                        case hyd52 =>
                          refine Or.inl ⟨by rfl, ?_⟩
                          intro w
                          go_simp
                          (try with_reducible rfl)
                        try simp only [Act.put, List.setIfInBounds_toArray, List.set_cons_zero, List.set_cons_succ]
                        refine wpAny_take (i := 9) (oi := ?oid53) (v := ?vd53) ?hod53 (by kernel_rfl) ?hfd53 ?hrd53 ?hQd53 ?hyd53 ?restd53
                        case hod53 => (simp only [List.getElem?_toArray, List.getElem?_cons_succ, List.getElem?_cons_zero]; exact rfl)
                        case hfd53 => kernel_rfl
                        case hrd53 => kernel_rfl
                        case hQd53 => exact fun _ _ _ h => h
                        case hyd53 =>
                          refine Or.inl ⟨by rfl, ?_⟩
                          intro w
                          go_simp
                          (try with_reducible rfl)
                        try simp only [Act.put, List.setIfInBounds_toArray, List.set_cons_zero, List.set_cons_succ]
                        refine wpAny_take (i := 10) (oi := ?oid54) (v := ?vd54) ?hod54 (by kernel_rfl) ?hfd54 ?hrd54 ?hQd54 ?hyd54 ?restd54
                        case hod54 => (simp only [List.getElem?_toArray, List.getElem?_cons_succ, List.getElem?_cons_zero]; exact rfl)
                        case hfd54 => kernel_rfl
                        case hrd54 => kernel_rfl
                        case hQd54 => exact fun _ _ _ h => h
                        case hyd54 =>
                          refine Or.inl ⟨by rfl, ?_⟩
                          intro w
                          go_simp
                          (try with_reducible rfl)
                        try simp only [Act.put, List.setIfInBounds_toArray, List.set_cons_zero, List.set_cons_succ]
                        refine wpAny_take (i := 11) (oi := ?oid55) (v := ?vd55) ?hod55 (by kernel_rfl) ?hfd55 ?hrd55 ?hQd55 ?hyd55 ?restd55
                        case hod55 => (simp only [List.getElem?_toArray, List.getElem?_cons_succ, List.getElem?_cons_zero]; exact rfl)
                        case hfd55 => kernel_rfl
                        case hrd55 => kernel_rfl
                        case hQd55 => exact fun _ _ _ h => h
                        case hyd55 =>
                          refine Or.inl ⟨by rfl, ?_⟩
                          intro w
                          go_simp
                          (try with_reducible rfl)
                        try simp only [Act.put, List.setIfInBounds_toArray, List.set_cons_zero, List.set_cons_succ]
                        refine wpAny_done (by kernel_rfl) ?_ _
                        have HB7 := Lib.hid (HB6.out.trans (hfd50.mono HB6.out.size))
                        repeat (first | go_skip | go_guarded | go_step)
                        refine (WK.out _).mono ?_
                        rintro e wz ⟨rfl, hbz⟩
                        have HBZ := Lib.hid (HB7.out.trans (hbz.mono HB7.out.size))
                        clear hbz
                        dsimp only
                        repeat (first | go_skip | go_guarded | go_step)
                        go_ret
                        exact ⟨rfl, HBZ.out⟩
                      exact AllReady.nil
                    exact AllReady.nil
                  exact AllReady.nil
                refine AllReady.cons (o := ?od56) ?hod56 (fun K hK => ?kd56) ?md56
                case hod56 => (simp only [List.getElem?_toArray, List.getElem?_cons_succ, List.getElem?_cons_zero]; exact rfl)
                case kd56 =>
                  refine anyd_lit1C (by rfl) (.tmp 128) rfl p A0 n0 c0 (some ⟨b3, o3, none⟩) j c1 (by rfl) l L' R' ?_
                  intro Vd56 qd56 hld56 hqd56 hvd56
                  have hfd56 : Below w6.heap.size w6 Vd56 := hfd46.trans (hvd56.mono hfd46.size)
                  have hod56 := hod46.later hvd56
                  have had56 : ∀ x, (some (⟨qd56, 0, none⟩ : Addr)).map (·.block) = some x → ¬ Ad46.map (·.block) = some x := fun x h1 h2 => by
                    have e1 := (hld56.low h1).1
                    have e2 := (hod46.low h2).2
                    omega
                  (try dsimp only)
                  refine hK _ _ ?_
                  clear hK K
                  try simp only [Act.put, List.setIfInBounds_toArray, List.set_cons_zero, List.set_cons_succ]
                  refine wpAny_ready (rs := [2]) (by kernel_rfl) (by simp) ?_
                  refine AllReady.cons (o := ?od57) ?hod57 (fun K hK => ?kd57) ?md57
                  case hod57 => (simp only [List.getElem?_toArray, List.getElem?_cons_succ, List.getElem?_cons_zero]; exact rfl)
                  case kd57 =>
                    refine anyd_appC0 (by rfl) (.tmp 125) (.tmp 126) rfl _ Ad46 cd46 (by rfl) hod56 _ Ad11 m _ _ (by rfl) (Rd.below HRD6.out hfd56) (by omega) (Nat.le_trans hvd46.size hvd56.size) ?_
                    intro Ad57 cd57 Vd57 hod57 htd57 hgd57
                    have hfd57 : Below w6.heap.size w6 Vd57 := hfd56.trans (htd57.below (B := w6.heap.size) (fun y _ e => Nat.le_trans hz0.size (hod56.low e).1) hfd56.size)
                    have hld57 : OwC Vd57 _ (some ⟨qd56, 0, none⟩) 1 1 [((((p, l), L') : Cl), (((A0, n0, c0), (some ⟨b3, o3, none⟩, j, c1), R') : ClA))] := htd57.own hld56 (fun x h1 h2 => had56 x (by rw [ownBlk_slice] at h1; exact h1) h2)
                    (try dsimp only)
                    refine hK _ _ ?_
                    clear hK K
                    try simp only [Act.put, List.setIfInBounds_toArray, List.set_cons_zero, List.set_cons_succ]
                    refine wpAny_ready (rs := [5]) (by kernel_rfl) (by simp) ?_
                    refine AllReady.cons (o := ?od58) ?hod58 (fun K hK => ?kd58) ?md58
                    case hod58 => (simp only [List.getElem?_toArray, List.getElem?_cons_succ, List.getElem?_cons_zero]; exact rfl)
                    case kd58 =>
                      refine anyd_appC (by rfl) (.tmp 127) (.tmp 129) rfl _ Ad57 cd57 m _ (by rfl) hod57 _ _ 1 1 _ (by rfl) hld57.rd (by omega) (Nat.le_trans (Nat.le_trans hvd46.size hvd56.size) htd57.size) ?_
                      intro Ad58 cd58 Vd58 hod58 htd58 hgd58
                      have hfd58 : Below w6.heap.size w6 Vd58 := hfd57.trans (htd58.below (B := w6.heap.size) (fun y _ e => Nat.le_trans hz0.size (hod57.low e).1) hfd57.size)
                      (try dsimp only)
                      refine hK _ _ ?_
                      clear hK K
                      try simp only [Act.put, List.setIfInBounds_toArray, List.set_cons_zero, List.set_cons_succ]
                      refine wpAny_ready (rs := [6]) (by kernel_rfl) (by simp) ?_
                      refine AllReady.cons (o := ?od59) ?hod59 (fun K hK => ?kd59) ?md59
                      case hod59 => (simp only [List.getElem?_toArray, List.getElem?_cons_succ, List.getElem?_cons_zero]; exact rfl)
                      case kd59 =>
                        go_simp
                        refine (right_yes OK.out _ Ad58 (m + 1) cd58 _ hod58.rd ((HZN.out.below (hfd58.mono HB6.out.size)).more (Nat.le_trans HB6.out.size hfd58.size)) hod58.le HSL.out (by omega) HR0.out).mono ?_
                        rintro e Vd59 ⟨⟨rd59, rfl⟩, hvd59⟩
                        have hfd59 : Below w6.heap.size w6 Vd59 := hfd58.trans (hvd59.mono hfd58.size)
                        (try dsimp only)
                        refine hK _ _ ?_
                        clear hK K
                        try simp only [Act.put, List.setIfInBounds_toArray, List.set_cons_zero, List.set_cons_succ]
                        refine wpAny_take (i := 7) (oi := ?oid60) (v := ?vd60) ?hod60 (by kernel_rfl) ?hfd60 ?hrd60 ?hQd60 ?hyd60 ?restd60
                        case hod60 => (simp only [List.getElem?_toArray, List.getElem?_cons_succ, List.getElem?_cons_zero]; exact rfl)
                        case hfd60 => kernel_rfl
                        case hrd60 => kernel_rfl
                        case hQd60 => exact fun _ _ _ h => h
                        case hyd60 =>
                          refine Or.inl ⟨by rfl, ?_⟩
                          intro w
                          go_simp
                          (try with_reducible rfl)
                        try simp only [Act.put, List.setIfInBounds_toArray, List.set_cons_zero, List.set_cons_succ]
                        refine wpAny_take (i := 8) (oi := ?oid61) (v := ?vd61) ?hod61 (by kernel_rfl) ?hfd61 ?hrd61 ?hQd61 ?hyd61 ?restd61
                        case hod61 => (simp only [List.getElem?_toArray, List.getElem?_cons_succ, List.getElem?_cons_zero]; exact rfl)
                        case hfd61 => kernel_rfl
                        case hrd61 => kernel_rfl
                        case hQd61 => exact fun _ _ _ h => h
                        case hyd61 =>
                          refine Or.inl ⟨by rfl, ?_⟩
                          intro w
                          go_simp
                          (try with_reducible rfl)
                        try simp only [Act.put, List.setIfInBounds_toArray, List.set_cons_zero, List.set_cons_succ]
                        refine wpAny_take (i := 9) (oi := ?oid62) (v := ?vd62) ?hod62 (by kernel_rfl) ?hfd62 ?hrd62 ?hQd62 ?hyd62 ?restd62
                        case hod62 => (simp only [List.getElem?_toArray, List.getElem?_cons_succ, List.getElem?_cons_zero]; exact rfl)
                        case hfd62 => kernel_rfl
                        case hrd62 => kernel_rfl
                        case hQd62 => exact fun _ _ _ h => h
                        case hyd62 =>
                          refine Or.inl ⟨by rfl, ?_⟩
                          intro w
                          go_simp
                          (try with_reducible rfl)
                        try simp only [Act.put, List.setIfInBounds_toArray, List.set_cons_zero, List.set_cons_succ]
                        refine wpAny_take (i := 10) (oi := ?oid63) (v := ?vd63) ?hod63 (by kernel_rfl) ?hfd63 ?hrd63 ?hQd63 ?hyd63 ?restd63
                        case hod63 => (simp only [List.getElem?_toArray, List.getElem?_cons_succ, List.getElem?_cons_zero]; exact rfl)
                        case hfd63 => kernel_rfl
                        case hrd63 => kernel_rfl
                        case hQd63 => exact fun _ _ _ h => h
                        case hyd63 =>
                          refine Or.inl ⟨by rfl, ?_⟩
                          intro w
                          go_simp
                          (try with_reducible rfl)
                        try simp only [Act.put, List.setIfInBounds_toArray, List.set_cons_zero, List.set_cons_succ]
                        refine wpAny_take (i := 11) (oi := ?oid64) (v := ?vd64) ?hod64 (by kernel_rfl) ?hfd64 ?hrd64 ?hQd64 ?hyd64 ?restd64
                        case hod64 => (simp only [List.getElem?_toArray, List.getElem?_cons_succ, List.getElem?_cons_zero]; exact rfl)
                        case hfd64 => kernel_rfl
                        case hrd64 => kernel_rfl
                        case hQd64 => exact fun _ _ _ h => h
                        case hyd64 =>
                          refine Or.inl ⟨by rfl, ?_⟩
                          intro w
                          go_simp
                          (try with_reducible rfl)
                        try simp only [Act.put, List.setIfInBounds_toArray, List.set_cons_zero, List.set_cons_succ]
                        refine wpAny_done (by kernel_rfl) ?_ _
                        have HB7 := Lib.hid (HB6.out.trans (hfd59.mono HB6.out.size))
                        repeat (first | go_skip | go_guarded | go_step)
                        refine (WK.out _).mono ?_
                        rintro e wz ⟨rfl, hbz⟩
                        have HBZ := Lib.hid (HB7.out.trans (hbz.mono HB7.out.size))
                        clear hbz
                        dsimp only
                        repeat (first | go_skip | go_guarded | go_step)
                        go_ret
                        exact ⟨rfl, HBZ.out⟩
                      exact AllReady.nil
                    exact AllReady.nil
                  exact AllReady.nil
                exact AllReady.nil
              refine AllReady.cons (o := ?od65) ?hod65 (fun K hK => ?kd65) ?md65
              case hod65 => (simp only [List.getElem?_toArray, List.getElem?_cons_succ, List.getElem?_cons_zero]; exact rfl)
              case kd65 =>
                refine anyd_lit1C (by rfl) (.tmp 128) rfl p A0 n0 c0 (some ⟨b3, o3, none⟩) j c1 (by rfl) l L' R' ?_
                intro Vd65 qd65 hld65 hqd65 hvd65
                have hfd65 : Below w6.heap.size w6 Vd65 := hz0.trans (hvd65.mono hz0.size)
                (try dsimp only)
                refine hK _ _ ?_
                clear hK K
                try simp only [Act.put, List.setIfInBounds_toArray, List.set_cons_zero, List.set_cons_succ]
                refine wpAny_ready (rs := [0]) (by kernel_rfl) (by simp) ?_
                refine AllReady.cons (o := ?od66) ?hod66 (fun K hK => ?kd66) ?md66
                case hod66 => (simp only [List.getElem?_toArray, List.getElem?_cons_succ, List.getElem?_cons_zero]; exact rfl)
                case kd66 =>
                  refine anyd_emptyC (by rfl) rfl _ (Nat.le_refl _) ?_
                  intro Vd66 Ad66 cd66 hod66 hvd66
                  have hfd66 : Below w6.heap.size w6 Vd66 := hfd65.trans (hvd66.mono hfd65.size)
                  have hsd66 : w6.heap.size ≤ Vd66.heap.size := hfd66.size
                  have hld66 := hld65.later hvd66
                  have had66 : ∀ x, (some (⟨qd65, 0, none⟩ : Addr)).map (·.block) = some x → ¬ Ad66.map (·.block) = some x := fun x h1 h2 => by
                    have e1 := (hld65.low h1).2
                    have e2 := (hod66.low h2).1
                    omega
                  (try dsimp only)
                  refine hK _ _ ?_
                  clear hK K
                  try simp only [Act.put, List.setIfInBounds_toArray, List.set_cons_zero, List.set_cons_succ]
                  refine wpAny_ready (rs := [2]) (by kernel_rfl) (by simp) ?_
                  refine AllReady.cons (o := ?od67) ?hod67 (fun K hK => ?kd67) ?md67
                  case hod67 => (simp only [List.getElem?_toArray, List.getElem?_cons_succ, List.getElem?_cons_zero]; exact rfl)
                  case kd67 =>
                    refine anyd_appC0 (by rfl) (.tmp 125) (.tmp 126) rfl _ Ad66 cd66 (by rfl) hod66 _ Ad11 m _ _ (by rfl) (Rd.below HRD6.out hfd66) (by omega) hvd66.size ?_
                    intro Ad67 cd67 Vd67 hod67 htd67 hgd67
                    have hfd67 : Below w6.heap.size w6 Vd67 := hfd66.trans (htd67.below (B := w6.heap.size) (fun y _ e => Nat.le_trans hfd65.size (hod66.low e).1) hfd66.size)
                    have hld67 : OwC Vd67 _ (some ⟨qd65, 0, none⟩) 1 1 [((((p, l), L') : Cl), (((A0, n0, c0), (some ⟨b3, o3, none⟩, j, c1), R') : ClA))] := htd67.own hld66 (fun x h1 h2 => had66 x (by rw [ownBlk_slice] at h1; exact h1) h2)
                    (try dsimp only)
                    refine hK _ _ ?_
                    clear hK K
                    try simp only [Act.put, List.setIfInBounds_toArray, List.set_cons_zero, List.set_cons_succ]
                    refine wpAny_ready (rs := [5]) (by kernel_rfl) (by simp) ?_
                    refine AllReady.cons (o := ?od68) ?hod68 (fun K hK => ?kd68) ?md68
                    case hod68 => (simp only [List.getElem?_toArray, List.getElem?_cons_succ, List.getElem?_cons_zero]; exact rfl)
                    case kd68 =>
                      refine anyd_appC (by rfl) (.tmp 127) (.tmp 129) rfl _ Ad67 cd67 m _ (by rfl) hod67 _ _ 1 1 _ (by rfl) hld67.rd (by omega) (Nat.le_trans hvd66.size htd67.size) ?_
                      intro Ad68 cd68 Vd68 hod68 htd68 hgd68
                      have hfd68 : Below w6.heap.size w6 Vd68 := hfd67.trans (htd68.below (B := w6.heap.size) (fun y _ e => Nat.le_trans hfd65.size (hod67.low e).1) hfd67.size)
                      (try dsimp only)
                      refine hK _ _ ?_
                      clear hK K
                      try simp only [Act.put, List.setIfInBounds_toArray, List.set_cons_zero, List.set_cons_succ]
                      refine wpAny_ready (rs := [6]) (by kernel_rfl) (by simp) ?_
                      refine AllReady.cons (o := ?od69) ?hod69 (fun K hK => ?kd69) ?md69
                      case hod69 => (simp only [List.getElem?_toArray, List.getElem?_cons_succ, List.getElem?_cons_zero]; exact rfl)
                      case kd69 =>
                        go_simp
                        refine (right_yes OK.out _ Ad68 (m + 1) cd68 _ hod68.rd ((HZN.out.below (hfd68.mono HB6.out.size)).more (Nat.le_trans HB6.out.size hfd68.size)) hod68.le HSL.out (by omega) HR0.out).mono ?_
                        rintro e Vd69 ⟨⟨rd69, rfl⟩, hvd69⟩
                        have hfd69 : Below w6.heap.size w6 Vd69 := hfd68.trans (hvd69.mono hfd68.size)
                        (try dsimp only)
                        refine hK _ _ ?_
                        clear hK K
                        try simp only [Act.put, List.setIfInBounds_toArray, List.set_cons_zero, List.set_cons_succ]
                        refine wpAny_take (i := 7) (oi := ?oid70) (v := ?vd70) ?hod70 (by kernel_rfl) ?hfd70 ?hrd70 ?hQd70 ?hyd70 ?restd70
                        case hod70 => (simp only [List.getElem?_toArray, List.getElem?_cons_succ, List.getElem?_cons_zero]; exact rfl)
                        case hfd70 => kernel_rfl
                        case hrd70 => kernel_rfl
                        case hQd70 => exact fun _ _ _ h => h
                        case hyd70 =>
                          refine Or.inl ⟨by rfl, ?_⟩
                          intro w
                          go_simp
                          (try with_reducible rfl)
                        try simp only [Act.put, List.setIfInBounds_toArray, List.set_cons_zero, List.set_cons_succ]
                        refine wpAny_take (i := 8) (oi := ?oid71) (v := ?vd71) ?hod71 (by kernel_rfl) ?hfd71 ?hrd71 ?hQd71 ?hyd71 ?restd71
                        case hod71 => (simp only [List.getElem?_toArray, List.getElem?_cons_succ, List.getElem?_cons_zero]; exact rfl)
                        case hfd71 => kernel_rfl
                        case hrd71 => kernel_rfl
                        case hQd71 => exact fun _ _ _ h => h
                        case hyd71 =>
                          refine Or.inl ⟨by rfl, ?_⟩
                          intro w
                          go_simp
                          (try with_reducible rfl)
                        try simp only [Act.put, List.setIfInBounds_toArray, List.set_cons_zero, List.set_cons_succ]
                        refine wpAny_take (i := 9) (oi := ?oid72) (v := ?vd72) ?hod72 (by kernel_rfl) ?hfd72 ?hrd72 ?hQd72 ?hyd72 ?restd72
                        case hod72 => (simp only [List.getElem?_toArray, List.getElem?_cons_succ, List.getElem?_cons_zero]; exact rfl)
                        case hfd72 => kernel_rfl
                        case hrd72 => kernel_rfl
                        case hQd72 => exact fun _ _ _ h => h
                        case hyd72 =>
                          refine Or.inl ⟨by rfl, ?_⟩
                          intro w
                          go_simp
                          (try with_reducible rfl)
                        try simp only [Act.put, List.setIfInBounds_toArray, List.set_cons_zero, List.set_cons_succ]
                        refine wpAny_take (i := 10) (oi := ?oid73) (v := ?vd73) ?hod73 (by kernel_rfl) ?hfd73 ?hrd73 ?hQd73 ?hyd73 ?restd73
                        case hod73 => (simp only [List.getElem?_toArray, List.getElem?_cons_succ, List.getElem?_cons_zero]; exact rfl)
                        case hfd73 => kernel_rfl
                        case hrd73 => kernel_rfl
                        case hQd73 => exact fun _ _ _ h => h
                        case hyd73 =>
                          refine Or.inl ⟨by rfl, ?_⟩
                          intro w
                          go_simp
                          (try with_reducible rfl)
                        try simp only [Act.put, List.setIfInBounds_toArray, List.set_cons_zero, List.set_cons_succ]
                        refine wpAny_take (i := 11) (oi := ?oid74) (v := ?vd74) ?hod74 (by kernel_rfl) ?hfd74 ?hrd74 ?hQd74 ?hyd74 ?restd74
                        case hod74 => (simp only [List.getElem?_toArray, List.getElem?_cons_succ, List.getElem?_cons_zero]; exact rfl)
                        case hfd74 => kernel_rfl
                        case hrd74 => kernel_rfl
                        case hQd74 => exact fun _ _ _ h => h
                        case hyd74 =>
                          refine Or.inl ⟨by rfl, ?_⟩
                          intro w
                          go_simp
                          (try with_reducible rfl)
                        try simp only [Act.put, List.setIfInBounds_toArray, List.set_cons_zero, List.set_cons_succ]
                        refine wpAny_done (by kernel_rfl) ?_ _
                        have HB7 := Lib.hid (HB6.out.trans (hfd69.mono HB6.out.size))
                        repeat (first | go_skip | go_guarded | go_step)
                        refine (WK.out _).mono ?_
                        rintro e wz ⟨rfl, hbz⟩
                        have HBZ := Lib.hid (HB7.out.trans (hbz.mono HB7.out.size))
                        clear hbz
                        dsimp only
                        repeat (first | go_skip | go_guarded | go_step)
                        go_ret
                        exact ⟨rfl, HBZ.out⟩
                      exact AllReady.nil
                    exact AllReady.nil
                  exact AllReady.nil
                exact AllReady.nil
              exact AllReady.nil
            exact AllReady.nil
      exact AllReady.nil
    exact AllReady.nil
  exact AllReady.nil
end Go.Proofs.Ytggnhgfickkgdaa.safeParts
