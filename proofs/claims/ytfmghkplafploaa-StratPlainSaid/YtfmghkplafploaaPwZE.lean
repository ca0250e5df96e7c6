/- Texts, packed: SrP -/
import Derived.Test.YtfmghkplafploaaPwZC
import Derived.Test.YtfmghkplafploaaPwZD
set_option linter.unusedVariables false
set_option linter.unusedSimpArgs false
namespace Go.Proofs.Ytfmghkplafploaa
open Go Go.RowKit

/-- As few as a right program has. -/
def FewC (C : List Cl) : Prop := C.length ≤ 400 ∧ ∀ x ∈ C, x.2.length ≤ 8
theorem few_of_right {C : List Cl} (h : (rightM C).2 = 0) : FewC C := by
  obtain ⟨h1, h2, _⟩ := (right_zero C).1 h
  refine ⟨h1, fun x hx => ?_⟩
  have h3 := (h2 x hx).1
  unfold mayC at h3
  simp only [Bool.and_eq_true, decide_eq_true_eq] at h3
  omega
theorem prL_few {C : List Cl} (h : FewC C) : ∀ i, (prL (C.take i)).length ≤ i * 9 := by
  intro i
  induction i with
  | zero => simp [prL]
  | succ i ih =>
    rw [List.take_add_one]
    cases hx : C[i]? with
    | none => simp only [Option.toList_none, List.append_nil]; omega
    | some x =>
      have := h.2 x (List.mem_of_getElem? hx)
      have hp : (prC x).length ≤ 9 := by unfold prC; rw [List.length_cons, List.length_map]; omega
      unfold prL at ih ⊢
      rw [List.flatMap_append, List.length_append]
      simp only [Option.toList_some, List.flatMap_cons, List.flatMap_nil, List.append_nil]
      omega
theorem prL_next {C : List Cl} {i : Nat} {x : Cl} (h : C[i]? = some x) : prL (C.take (i + 1)) = prL (C.take i) ++ prC x := by
  unfold prL
  rw [List.take_add_one, h, List.flatMap_append]
  simp
theorem oneU1 (w : World) (x : UInt32) : OwU (w.alloc (.cells #[nv x] 25)) w.heap.size (some ⟨w.heap.size, 0, none⟩) 1 1 [x] := World.ownsRow_lit w #[nv x] 1 (Nat.le_refl _) (by decide) rfl
theorem laterU {w w' : World} {base c n : Nat} {A : Option Addr} {l : List UInt32} (h : OwU w base A c n l) (hb : Below w.heap.size w w') : OwU w' base A c n l := ownBelow h hb (Nat.le_refl _)
theorem lowU {w : World} {base c n : Nat} {A : Option Addr} {l : List UInt32} (h : OwU w base A c n l) {k : Nat} (hk : A.map (·.block) = some k) : base ≤ k ∧ k < w.heap.size := World.ownsRow.lt h k (by rw [ownBlk_slice]; exact hk)
theorem appUT {ops : Array Oper} {rest : List Oper} {o : Oper} {a : Act} {Q : Exit → Act → World → Prop} (w : World) (hgd : o.guard = none) (p x : Operand)
    (ho : o.op = .call { callee := .builtin .append, args := #[p, x], argTypes := #[46, 46] })
    (base : Nat) (A0 : Option Addr) (c0 n : Nat) (l : List UInt32) (hv : a.eval p = .slice A0 n c0) (hown : OwU w base A0 c0 n l)
    (B : Nat) (A : Option Addr) (m c : Nat) (news : List UInt32) (hx : a.eval x = .slice A m c) (hr : RdU w B A m news) (hb : n + m ≤ 1000000000) (hbase : base ≤ w.heap.size)
    (h : ∀ A' c' w', OwU w' base A' c' (n + m) (l ++ news) → Turn (fun k => A0.map (·.block) = some k) w w' → wpList Try.prog ops Q rest (a.put o.dst (.slice A' (n + m) c')) w') : wpList Try.prog ops Q (o :: rest) a w := by
  obtain ⟨i0, hi, hz0, hz1, hz2⟩ := info_parts u32Info
  refine wpList_app w hgd p x 46 ho base 25 i0 _ 1 4 Try.underlying46 hi hz0 hz1 hz2 rfl (by decide) _ n _ hv hown B A m c _ hx hr (nv_one news) (by simp only [maxLen]; omega) (by omega) hbase ?_
  intro A' c' w' h4 h2 h3
  exact h A' c' w' (by show World.ownsRow _ _ _ _ _ _ _; rw [List.map_append]; exact h4) (Turn.ofGrown h2 fun k hk => by rw [ownBlk_slice] at hk; exact hk)
theorem boxLit (w : World) (g : Bool) (p : UInt32) (s : Value) (t : TypeId) : ∃ W, W = w.alloc (.cells #[.bool g, nv p, s] t) ∧ Bk W w.heap.size t [.bool g, nv p, s] ∧ Below w.heap.size w W := ⟨_, rfl, Bk.new w _ _, (Below.refl _ _).alloc (Nat.le_refl _) _⟩
set_option maxRecDepth 100000 in
set_option maxHeartbeats 8000000 in
theorem predicates_any (A : Option Addr) (n c : Nat) (Q : List ClA) (C : List Cl) (w : World) (h : RdCs w w.heap.size A n Q C) (hf : FewC C) :
    Calls Try.prog 13 #[.slice A n c] w fun e w' => ∃ (A' : Option Addr) (c' : Nat) (ps : List UInt32), e = .returned (.slice A' ps.length c') ∧ ps.length ≤ 3600 ∧ ps.Pairwise (· < ·) ∧ (∀ p, p ∈ ps ↔ p ∈ prL C) ∧ RdU w' w'.heap.size A' ps.length ps ∧ Below w.heap.size w w' := by
  have HC := Lib.hid h
  have HF := Lib.hid hf
  have hn : n ≤ 400 := by rw [← h.lenC]; exact hf.1
  clear h hf
  go_enter Try.func13, Try.ntmps13
  repeat (first | go_skip | go_guarded | go_step)
  go_loopw [2, 9] (fun lv q wr => ∃ (i m : Nat) (Al : Option Addr) (cl : Nat) (X : List UInt32), i ≤ n ∧ lv = .slice Al m cl ∧ q = .int .i64 (i : Int) ∧ OwU wr w.heap.size Al cl m X ∧ X = prL (C.take i) ∧ Below w.heap.size w wr) (fun _ q _ => n - (intOf q).toNat)
  case atStart => exact ⟨0, 0, none, 0, [], by omega, rfl, rfl, World.ownsRow_nil _ _ _ _, rfl, Below.refl _ _⟩
  case round =>
    rename World => wr
    obtain ⟨i, m, Al, cl, X, hi, rfl, rfl, hox, hX, hbr⟩ := hrel
    have hml : m ≤ i * 9 := by
      rw [← rdU_len hox.rd, hX]
      exact prL_few HF.out i
    have HOX := Lib.hid hox
    have HXE := Lib.hid hX
    have HBR := Lib.hid hbr
    clear hox hX hbr
    by_cases hlt : i < n
    · have hci : (i : Int) < (n : Int) := by omega
      obtain ⟨b, o, p, l, L, A0, n0, c0, A1, n1, c1, R, hA, hb, hx, hq, hd0, hd1, hd2, hrt, hrl⟩ := (HC.out.below HBR.out).at_ hlt
      have hn1 : n1 ≤ 8 := by have := HF.out.2 _ (List.mem_of_getElem? hx); have := hrl.lenL; dsimp only at *; omega
      have HPS := Lib.hid (prL_next hx)
      have HRL := Lib.hid (HC.out.row i _ _ hq hx).2
      have HLL := Lib.hid hrl.lenL
      obtain ⟨U, hU, hbU, hbu⟩ := box3 wr p (.slice A0 n0 c0) (.slice A1 n1 c1) 31
      have HU := Lib.hid hU
      have HBK := Lib.hid hbU
      have HOU := Lib.hid (laterU HOX.out hbu)
      have HBU := Lib.hid (HBR.out.trans (hbu.mono HBR.out.size))
      have HWU := Lib.hid hbu
      have k0 := hbU.read (Below.refl _ _) 0 rfl
      have k1 := hbU.read (Below.refl _ _) 1 rfl
      have k2 := hbU.read (Below.refl _ _) 2 rfl
      subst hA
      clear hx hq hrt hrl hb hU hbU hbu
      go_upto_region 4 with (fail)
      rw [← HU.out]
      clear hd0 hd1 hd2
      have hZ : Below U.heap.size U (U.alloc (.cells #[nv p] 25)) := (Below.refl _ _).alloc (Nat.le_refl _) _
      have HOZ := Lib.hid (laterU HOU.out hZ)
      have HBZ := Lib.hid (HBU.out.trans (hZ.mono HBU.out.size))
      have HKZ := Lib.hid (HBK.out.later hZ)
      have HONE := Lib.hid (oneU1 U p).rd
      clear hZ k1 k2
      repeat (first
        | (at_builtin; refine appUT _ rfl (.tmp 13) (.tmp 17) rfl w.heap.size Al cl m _ rfl HOZ.out _ _ 1 1 [p] rfl HONE.out (by omega) HBZ.out.size ?_
           intro A3 c3 Z hoZ htZ
           have HO3 := Lib.hid hoZ
           have HB3 := Lib.hid (HBZ.out.trans (htZ.below (B := w.heap.size) (fun y _ e => (lowU HOZ.out e).1) HBZ.out.size))
           have HK3 := Lib.hid (htZ.bk HKZ.out (fun e => by have := (lowU HOX.out e).2; exact absurd this (Nat.lt_irrefl _)))
           have k2 := HK3.out.read (Below.refl _ _) 2 rfl
           clear hoZ htZ k0)
        | go_skip | go_guarded | go_step)
      clear k2
      go_loopw [2, 22] (fun lv q wz => ∃ (k m2 : Nat) (Az : Option Addr) (cz : Nat) (X2 : List UInt32), k ≤ n1 ∧ lv = .slice Az m2 cz ∧ q = .int .i64 (k : Int) ∧ OwU wz w.heap.size Az cz m2 X2 ∧ X2 = X ++ p :: (L.take k).map (fun y => y.2.1) ∧ m2 = m + 1 + k ∧ Below w.heap.size w wz) (fun _ q _ => n1 - (intOf q).toNat)
      case atStart => exact ⟨0, m + 1, A3, c3, X ++ [p], by omega, rfl, by go_num, HO3.out, by simp, by omega, HB3.out⟩
      case round =>
        rename World => wz
        obtain ⟨k, m2, Az, cz, X2, hk, rfl, rfl, hoz, hX2, hm2, hbz⟩ := hrel
        have HOX2 := Lib.hid hoz
        have HX2 := Lib.hid hX2
        have HBZ2 := Lib.hid hbz
        have hm2b : m2 ≤ 100000 := by omega
        have HM2 := Lib.hid hm2
        clear hoz hX2 hbz hm2
        by_cases hlk : k < n1
        · have hck : (k : Int) < (n1 : Int) := by omega
          obtain ⟨b3, o3, g3, p3, l3, Ai, ni, ci, hA1, hb3, hx3, e0, e1, e2, hrow⟩ := (HRL.out.below HBZ2.out).at_ hlk
          have HX3 := Lib.hid hx3
          obtain ⟨U2, hU2, hbU2, hbu2⟩ := boxLit wz g3 p3 (.slice Ai ni ci) 33
          have HU2 := Lib.hid hU2
          have hZ : Below U2.heap.size U2 (U2.alloc (.cells #[nv p3] 25)) := (Below.refl _ _).alloc (Nat.le_refl _) _
          have HOZ2 := Lib.hid (laterU (laterU HOX2.out hbu2) hZ)
          have HBZ3 := Lib.hid ((HBZ2.out.trans (hbu2.mono HBZ2.out.size)).trans (hZ.mono (Nat.le_trans HBZ2.out.size hbu2.size)))
          have HONE2 := Lib.hid (oneU1 U2 p3).rd
          have j1 := hbU2.read (Below.refl _ _) 1 rfl
          subst hA1
          clear hx3 hb3 hrow hU2 hbU2 hbu2 hZ
          go_upto_region 8 with (fail)
          rw [← HU2.out]
          clear e0 e1 e2
          repeat (first
            | (at_builtin; refine appUT _ rfl (.tmp 26) (.tmp 30) rfl w.heap.size Az cz m2 _ rfl HOZ2.out _ _ 1 1 [p3] rfl HONE2.out (by omega) HBZ3.out.size ?_
               intro A4 c4 Z4 hoZ htZ
               have HO4 := Lib.hid hoZ
               have HB4 := Lib.hid (HBZ3.out.trans (htZ.below (B := w.heap.size) (fun y _ e => (lowU HOZ2.out e).1) HBZ3.out.size))
               clear hoZ htZ)
            | go_skip | go_guarded | go_step)
          go_roundw
          case rel => exact ⟨k + 1, m2 + 1, A4, c4, X2 ++ [p3], by omega, rfl, by go_num, HO4.out, by
            rw [HX2.out, List.take_add_one, HX3.out]
            simp, by have := HM2.out; omega, HB4.out⟩
          case measure => simp [intOf]; omega
        · obtain rfl : n1 = k := by omega
          have hck : ¬ (n1 : Int) < (n1 : Int) := by omega
          repeat (first | go_skip | go_guarded | go_step)
          go_roundw
          case rel => exact ⟨i + 1, m2, Az, cz, X2, by omega, rfl, by go_num, HOX2.out, by
            rw [HPS.out, ← HXE.out, HX2.out, List.take_of_length_le (by rw [HLL.out]; exact Nat.le_refl _)]
            rfl, HBZ2.out⟩
          case measure => simp [intOf]; omega
    · obtain rfl : n = i := by omega
      have hci : ¬ (n : Int) < (n : Int) := by omega
      have HXC := Lib.hid (show X = prL C by rw [HXE.out, List.take_of_length_le (by rw [HC.out.lenC]; exact Nat.le_refl _)])
      repeat (first | go_skip | go_guarded | go_step)
      refine (usSortOwn w.heap.size Al cl m X wr HOX.out (by omega)).mono ?_
      rintro e w1 ⟨rfl, ho1, ht1⟩
      have HB1 := Lib.hid (HBR.out.trans (ht1.below (B := w.heap.size) (fun y _ e => (lowU HOX.out e).1) HBR.out.size))
      have HO1 := Lib.hid ho1
      clear ho1 ht1
      dsimp only
      repeat (first | go_skip | go_guarded | go_step)
      refine (compS_any w.heap.size Al cl m (ascU X) w1 HO1.out (ascU_sorted X) (by omega) HB1.out.size).mono ?_
      rintro e w2 ⟨A', c', ps, rfl, hm, hp, hmem, hrd, hb2⟩
      have HB2 := Lib.hid (HB1.out.trans hb2)
      have HRD := Lib.hid hrd
      clear hrd hb2
      dsimp only
      repeat (first | go_skip | go_guarded | go_step)
      go_ret
      exact ⟨A', c', ps, rfl, by omega, hp, fun p => by rw [hmem, (ascU_perm X).mem_iff, HXC.out], HRD.out, HB2.out⟩
end Go.Proofs.Ytfmghkplafploaa

