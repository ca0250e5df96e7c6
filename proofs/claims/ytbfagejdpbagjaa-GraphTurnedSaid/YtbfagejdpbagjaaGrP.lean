/- Layer 9 (graph), the program: Parts and Part. -/
import Derived.Test.YtbfagejdpbagjaaGrN
set_option linter.unusedVariables false
set_option linter.unusedSimpArgs false
namespace Go.Proofs.Ytbfagejdpbagjaa
open Go Go.RowKit Go.Lib Go.Shelf

/-! ### Part -/
def ixB : List Bool → Nat → Int
  | [], _ => -1
  | b :: r, i => if b then (i : Int) else ixB r (i + 1)
theorem idxBy_ixB {α : Type} (eq : α → α → Bool) (x : α) : ∀ (l : List α) (i : Nat), idxByFrom eq x l i = ixB (l.map (eq x)) i
  | [], _ => rfl
  | y :: l, i => by
    show (if eq x y then (i : Int) else idxByFrom eq x l (i + 1)) = if eq x y then (i : Int) else ixB (l.map (eq x)) (i + 1)
    rw [idxBy_ixB eq x l (i + 1)]
def hasI (x : Int) (p : List Nat) : Bool := p.any fun y => ((y : Int) == x)
/-- Which part has it, counted from 0; -1: none. -/
def partIx (L : List (List Nat)) (x : Int) : Int := ixB (L.map (hasI x)) 0
theorem contains_hasI (x : Int) (p : List Nat) : (p.map Int.ofNat).contains x = hasI x p := by
  rw [Bool.eq_iff_iff]
  unfold hasI
  simp only [List.contains_iff_mem, List.mem_map, List.any_eq_true, beq_iff_eq]
  constructor
  · rintro ⟨y, h1, h2⟩; exact ⟨y, h1, h2⟩
  · rintro ⟨y, h1, h2⟩; exact ⟨y, h1, h2⟩
set_option maxRecDepth 100000 in
set_option maxHeartbeats 1000000 in
/-- The closure: has this part the node? -/
theorem has_any (B : Nat) (x : Int) (g n c : Nat) (p : List Nat) (W : World) (hB : W.cell? ⟨B, 0, none⟩ = some (.int .i64 x)) (hl : p.length = n) (hn : n ≤ 1000000) (hc : ∀ j v, p[j]? = some v → W.cell? ⟨g, j, none⟩ = some (ni v)) :
    Calls Try.prog 22 #[.slice (some ⟨g, 0, none⟩) n c, .pointer (some ⟨B, 0, none⟩)] W fun e w' => e = .returned (.bool (hasI x p)) ∧ w' = W := by
  have hcon : Calls Try.prog 23 #[.slice (some ⟨g, 0, none⟩) n c, .int .i64 x] W fun e w' => e = .returned (.bool (hasI x p)) ∧ w' = W := by
    by_cases h0 : n = 0
    · subst h0
      have hp : p = [] := List.eq_nil_of_length_eq_zero hl
      subst hp
      exact slices_Contains_int_empty _ _ _ _
    · refine (slices_Contains_int g 0 n c (p.map Int.ofNat) x W (by simp [hl]) (by omega) (fun j hj => ?_)).mono ?_
      · obtain ⟨y, h1, h2⟩ := getD_map p hj
        rw [h2, Nat.zero_add]
        exact hc j y h1
      · rintro e w' ⟨rfl, rfl⟩
        rw [List.take_of_length_le (by simp [hl]), contains_hasI]
        exact ⟨rfl, rfl⟩
  generalize hasI x p = r at hcon ⊢
  clear hc hl
  go_enter Try.func22, Try.ntmps22
  repeat (first | go_skip | go_guarded | go_step)
  refine hcon.mono ?_
  rintro e w' ⟨rfl, rfl⟩
  dsimp only
  repeat (first | go_skip | go_guarded | go_step)
  go_ret
  exact ⟨rfl, rfl⟩
set_option maxRecDepth 100000 in
set_option maxHeartbeats 1000000 in
theorem part_any (A : Option Addr) (k c : Nat) (L : List (List Nat)) (R : List (Nat × Nat)) (x : Int) (w : World) (h : RdP w w.heap.size A L R) (hk : L.length = k) (hk2 : k ≤ 1000000) (hs : ∀ p ∈ L, p.length ≤ 1000000) :
    Calls Try.prog 13 #[.slice A k c, .int .i64 x] w fun e w' => e = .returned (.int .i64 (partIx L x)) ∧ Below w.heap.size w w' := by
  have hcon : Calls Try.prog 21 #[.slice A k c, .func (.func 22) #[] #[.pointer (some ⟨w.heap.size, 0, none⟩)]] (w.alloc (.cells #[.int .i64 x] 3)) fun e w' => e = .returned (.int .i64 (partIx L x)) ∧ Below w.heap.size w w' := by
    have hB0 : Below w.heap.size w (w.alloc (.cells #[.int .i64 x] 3)) := (Below.refl _ _).alloc (Nat.le_refl _) _
    by_cases h0 : k = 0
    · have hL : L = [] := List.eq_nil_of_length_eq_zero (by omega)
      subst hL
      subst h0
      refine (slices_IndexFunc_empty (α := Nat) A c _ _).mono ?_
      rintro e w' ⟨rfl, rfl⟩
      exact ⟨rfl, hB0⟩
    · have : Inhabited (Fin k) := ⟨⟨0, by omega⟩⟩
      have hRl : R.length = k := by rw [h.rlen, hk]
      let pf : Fin k → List Nat := fun i => L[i.1]'(by rw [hk]; exact i.2)
      let rf : Fin k → Nat × Nat := fun i => R[i.1]'(by rw [hRl]; exact i.2)
      let enc : Fin k → Value := fun i => .slice (some ⟨(rf i).1, 0, none⟩) (pf i).length (rf i).2
      have hpf : ∀ i : Fin k, L[i.1]? = some (pf i) := fun i => List.getElem?_eq_getElem _
      have hrf : ∀ i : Fin k, R[i.1]? = some (rf i) := fun i => List.getElem?_eq_getElem _
      obtain ⟨b, o, r0, p0, rfl, hb, _, _, _, _, _, _⟩ := h.at_ (i := 0) (by omega)
      have hW : Bk (w.alloc (.cells #[.int .i64 x] 3)) w.heap.size 3 [.int .i64 x] := Bk.new w _ _
      have hp : PredAt Try.prog 22 #[.pointer (some ⟨w.heap.size, 0, none⟩)] enc (fun i => hasI x (pf i)) (w.alloc (.cells #[.int .i64 x] 3)) := by
        intro W i hbW
        obtain ⟨q1, q2, q3⟩ := h.row i.1 _ _ (hrf i) (hpf i)
        have hall := hB0.trans (hbW.mono hB0.size)
        refine (has_any w.heap.size x (rf i).1 (pf i).length (rf i).2 (pf i) W ?_ rfl (hs _ (List.mem_of_getElem? (hpf i))) (fun j v hv => (hall.cell (p := ⟨(rf i).1, j, none⟩) q1).trans (q3 j v hv))).mono ?_
        · exact (hbW.cell (p := ⟨w.heap.size, 0, none⟩) hW.lt).trans (hW.cell 0)
        · rintro e w' ⟨rfl, rfl⟩
          exact ⟨rfl, 0, rfl⟩
      have eg : ∀ args w, (callFunc 22 args).run Try.prog w = .ok (.enter 22 args) w := enters_of Try.func22 (by kernel_rfl) rfl
      obtain ⟨_, _, hA2, hb2, htop⟩ := h.top.2 (by omega)
      cases hA2
      refine (slices_IndexFunc enc (fun i => hasI x (pf i)) _ _ eg b o k c (List.finRange k) _ hp (by simp) (by omega) (fun j hj => ?_)).mono ?_
      · have hj' : j < k := by simpa using hj
        have e1 : (List.finRange k)[j]! = ⟨j, hj'⟩ := by
          rw [getElem!_pos (List.finRange k) j hj]
          simp
        rw [e1]
        refine (hB0.cell (p := ⟨b, o + j, none⟩) hb).trans (htop j _ ?_)
        rw [List.getElem?_map, (List.getElem?_zip_eq_some (z := (rf ⟨j, hj'⟩, pf ⟨j, hj'⟩))).2 ⟨hrf ⟨j, hj'⟩, hpf ⟨j, hj'⟩⟩]; rfl
      · rintro e w' ⟨rfl, q, rfl⟩
        refine ⟨?_, belowDrews hB0 q⟩
        rw [List.take_of_length_le (by simp)]
        unfold idxBy
        rw [idxBy_ixB]
        unfold partIx
        have e2 : (List.finRange k).map (fun i => hasI x (pf i)) = L.map (hasI x) := by
          refine List.ext_getElem (by simp [hk]) fun i h1 h2 => ?_
          simp [pf]
        rw [e2]
  generalize partIx L x = r at hcon ⊢
  clear h hk hs
  go_enter Try.func13, Try.ntmps13
  repeat (first | go_skip | go_guarded | go_step)
  refine hcon.mono ?_
  rintro e w' ⟨rfl, hb⟩
  clear hcon
  dsimp only
  repeat (first | go_skip | go_guarded | go_step)
  go_ret
  exact ⟨rfl, hb⟩

/-! ### Parts -/
def okE (n : Int) (e : Int × Int) : Bool := decide (0 ≤ e.1 ∧ e.1 < n ∧ 0 ≤ e.2 ∧ e.2 < n)
set_option maxRecDepth 100000 in
set_option maxHeartbeats 1000000 in
theorem haveEnds_any (n : Int) (A : Option Addr) (ne c : Nat) (E : List (Int × Int)) (w : World) (hr : RdE w w.heap.size A ne E) (hne : ne ≤ 16384) :
    Calls Try.prog 17 #[.int .i64 n, .slice A ne c] w fun e w' => e = .returned (.bool (E.all (okE n))) ∧ Below w.heap.size w w' := by
  have HLEN := Lib.hid hr.len
  have HR := Lib.hid hr
  clear hr
  go_enter Try.func17, Try.ntmps17
  repeat (first | go_skip | go_guarded | go_step)
  go_loopw [9] (fun q wr => ∃ i : Nat, i ≤ ne ∧ q = .int .i64 (i : Int) ∧ (E.take i).all (okE n) = true ∧ Below w.heap.size w wr) (fun q _ => ne - (intOf q).toNat)
  case atStart => exact ⟨0, by omega, rfl, by simp, Below.refl _ _⟩
  case round =>
    rename World => wr
    obtain ⟨i, hi, rfl, hall, hbw⟩ := hrel
    have HALL := Lib.hid hall
    have HBW := Lib.hid hbw
    clear hall hbw
    by_cases hlt : i < ne
    · have hii : (i : Int) < (ne : Int) := by omega
      obtain ⟨be, oe, e, hA, hbe, he, hc0, hc1⟩ := HR.out.at_ hlt
      subst hA
      obtain ⟨a, b⟩ := e
      have k0 := (HBW.out.cell (p := ⟨be, oe + i * 2, none⟩) hbe).trans hc0
      have k1 := (HBW.out.cell (p := ⟨be, oe + i * 2 + 1, none⟩) hbe).trans hc1
      have HX := Lib.hid he
      have hbx : be < wr.heap.size := Nat.lt_of_lt_of_le hbe HBW.out.size
      dsimp only at k0 k1
      clear he hc0 hc1
      have HBZ := Lib.hid (show Below w.heap.size w (wr.alloc (.cells #[.int .i64 a, .int .i64 b] 31)) from HBW.out.alloc HBW.out.size _)
      by_cases h1 : min a b < 0
      · have HF := Lib.hid (show E.all (okE n) = false by
          rw [List.all_eq_false]
          exact ⟨(a, b), List.mem_of_getElem? HX.out, by unfold okE; simp; omega⟩)
        have h2 : decide (min a b < 0) = true := decide_eq_true h1
        repeat (first | go_skip | go_guarded | go_step)
        go_ret
        exact ⟨by rw [HF.out]; rfl, HBZ.out⟩
      · have h1' : decide (min a b < 0) = false := decide_eq_false h1
        by_cases h3 : n ≤ max a b
        · have HF := Lib.hid (show E.all (okE n) = false by
            rw [List.all_eq_false]
            exact ⟨(a, b), List.mem_of_getElem? HX.out, by unfold okE; simp; omega⟩)
          have h4 : decide (n ≤ max a b) = true := decide_eq_true h3
          repeat (first | go_skip | go_guarded | go_step)
          go_ret
          exact ⟨by rw [HF.out]; rfl, HBZ.out⟩
        · have h4 : decide (n ≤ max a b) = false := decide_eq_false h3
          have HOK := Lib.hid (show okE n (a, b) = true by unfold okE; simp; omega)
          repeat (first | go_skip | go_guarded | go_step)
          go_roundw
          case rel => exact ⟨i + 1, by omega, by go_num, by
            rw [List.take_add_one, HX.out, List.all_append, HALL.out]
            simpa using HOK.out, HBZ.out⟩
          case measure => simp [intOf]; omega
    · obtain rfl : i = ne := by omega
      have hii : ¬ (i : Int) < (i : Int) := by omega
      have HF := Lib.hid (show E.all (okE n) = true by
        have := HALL.out
        rwa [List.take_of_length_le (by rw [HLEN.out]; exact Nat.le_refl _)] at this)
      repeat (first | go_skip | go_guarded | go_step)
      go_ret
      exact ⟨by rw [HF.out]; rfl, HBW.out⟩
/-- What Parts answers. -/
def Told (n : Int) (E0 : List (Int × Int)) (w w' : World) (e : Ending) : Prop :=
  Below w.heap.size w w' ∧
  ((4096 < n ∨ 16384 < E0.length) ∧ e = .returned (.tuple #[.slice none 0 0, .int .i64 6]) ∨
   (n ≤ 4096 ∧ E0.length ≤ 16384) ∧ (n < 0 ∨ E0.all (okE n) = false) ∧ e = .returned (.tuple #[.slice none 0 0, .int .i64 1]) ∨
   ∃ (k : Nat) (E : List (Nat × Nat)) (A : Option Addr) (c : Nat) (L : List (List Nat)) (R : List (Nat × Nat)), n = (k : Int) ∧ k ≤ 4096 ∧ E0.length ≤ 16384 ∧ E0 = ei E ∧ In k E ∧ e = .returned (.tuple #[.slice A L.length c, .int .i64 0]) ∧ RdP w' w'.heap.size A L R ∧ Order k E [] L ∧ L.length ≤ 4096)
theorem okE_nat {k : Nat} : ∀ {E0 : List (Int × Int)}, E0.all (okE k) = true → ∃ E, E0 = ei E ∧ In k E
  | [], _ => ⟨[], rfl, fun e he => by simp at he⟩
  | (a, b) :: E0, h => by
    rw [List.all_cons, Bool.and_eq_true] at h
    obtain ⟨E, h1, h2⟩ := okE_nat h.2
    have h3 := h.1
    unfold okE at h3
    simp only [decide_eq_true_eq] at h3
    refine ⟨(a.toNat, b.toNat) :: E, ?_, fun e he => ?_⟩
    · rw [h1]
      show (a, b) :: ei E = ((a.toNat : Int), (b.toNat : Int)) :: ei E
      rw [Int.toNat_of_nonneg h3.1, Int.toNat_of_nonneg h3.2.2.1]
    · rcases List.mem_cons.1 he with rfl | he
      · constructor <;> (dsimp only; omega)
      · exact h2 e he
set_option maxRecDepth 100000 in
set_option maxHeartbeats 1000000 in
theorem parts_any (n : Int) (A : Option Addr) (ne c : Nat) (E0 : List (Int × Int)) (w : World) (hr : RdE w w.heap.size A ne E0) :
    Calls Try.prog 10 #[.int .i64 n, .slice A ne c] w fun e w' => Told n E0 w w' e := by
  have hlen := hr.len
  by_cases h1 : 4096 < n
  · have HF := Lib.hid h1
    go_enter Try.func10, Try.ntmps10
    repeat (first | go_skip | go_guarded | go_step)
    go_ret2
    exact ⟨Below.refl _ _, .inl ⟨.inl HF.out, rfl⟩⟩
  by_cases h2 : 16384 < ne
  · have HF := Lib.hid (show 16384 < E0.length by omega)
    have h1' : decide (4096 < n) = false := decide_eq_false h1
    have h2' : (16384 : Int) < (ne : Int) := by omega
    clear hlen hr
    go_enter Try.func10, Try.ntmps10
    repeat (first | go_skip | go_guarded | go_step)
    go_ret2
    exact ⟨Below.refl _ _, .inl ⟨.inr HF.out, rfl⟩⟩
  have HNN := Lib.hid (show n ≤ 4096 ∧ E0.length ≤ 16384 by omega)
  have h1' : decide (4096 < n) = false := decide_eq_false h1
  have h2' : ¬ (16384 : Int) < (ne : Int) := by omega
  have hne : ne ≤ 16384 := by omega
  have HR := Lib.hid hr
  have HLEN := Lib.hid hlen
  clear hlen hr
  by_cases h3 : n < 0
  · have HF := Lib.hid h3
    go_enter Try.func10, Try.ntmps10
    repeat (first | go_skip | go_guarded | go_step)
    go_ret2
    exact ⟨Below.refl _ _, .inr (.inl ⟨HNN.out, .inl HF.out, rfl⟩)⟩
  have h3' : decide (n < 0) = false := decide_eq_false h3
  have hH := haveEnds_any n A ne c E0 w HR.out hne
  cases hall : E0.all (okE n) with
  | false =>
    rw [hall] at hH
    have HF := Lib.hid hall
    clear hall
    go_enter Try.func10, Try.ntmps10
    repeat (first | go_skip | go_guarded | go_step)
    refine hH.mono ?_
    rintro e w1 ⟨rfl, hb1⟩
    have HB1 := Lib.hid hb1
    clear hb1 hH
    dsimp only
    repeat (first | go_skip | go_guarded | go_step)
    go_ret2
    exact ⟨HB1.out, .inr (.inl ⟨HNN.out, .inr HF.out, rfl⟩)⟩
  | true =>
    rw [hall] at hH
    obtain ⟨k, rfl⟩ : ∃ k : Nat, n = (k : Int) := ⟨n.toNat, by omega⟩
    obtain ⟨E, hE0, hE⟩ := okE_nat hall
    subst hE0
    have HE := Lib.hid hE
    have hk4 : k ≤ 4096 := by omega
    clear hall hE
    go_enter Try.func10, Try.ntmps10
    repeat (first | go_skip | go_guarded | go_step)
    refine hH.mono ?_
    rintro e w1 ⟨rfl, hb1⟩
    have HB1 := Lib.hid hb1
    have HR1 := Lib.hid ((HR.out.below hb1).more hb1.size)
    clear hb1 hH
    dsimp only
    repeat (first | go_skip | go_guarded | go_step)
    refine (found_any w1 k E A ne c HR1.out HE.out hk4 hne).mono ?_
    rintro e w2 ⟨A2, c2, P, R, rfl, hp, hI, hb2⟩
    have HP := Lib.hid hp
    have HI := Lib.hid hI
    have HB2 := Lib.hid hb2
    have hs2 := hb2.size
    clear hp hI hb2
    dsimp only
    repeat (first | go_skip | go_guarded | go_step)
    refine (inOrder_any w2 k w1.heap.size E A ne c (HR1.out.below HB2.out) HE.out hk4 hne hs2 A2 c2 P R HP.out HI.out).mono ?_
    rintro e w3 ⟨A3, c3, L, R3, rfl, hrp, hord, hll, hT⟩
    have HRP := Lib.hid hrp
    have HO := Lib.hid hord
    have HB3 := Lib.hid (show Below w.heap.size w w3 from by
      have hw1 := HB1.out.size
      have h23 : Below w.heap.size w2 w3 := hT.below (B := w.heap.size) (fun x _ e => by have := (own_low HP.out.own e).1; omega) (by omega)
      exact (HB1.out.trans (HB2.out.mono hw1)).trans h23)
    clear hrp hord hT hs2
    dsimp only
    repeat (first | go_skip | go_guarded | go_step)
    go_ret2
    exact ⟨HB3.out, .inr (.inr ⟨k, E, A3, c3, L, R3, rfl, hk4, HNN.out.2, rfl, HE.out, rfl, HRP.out, HO.out, hll⟩)⟩
end Go.Proofs.Ytbfagejdpbagjaa
