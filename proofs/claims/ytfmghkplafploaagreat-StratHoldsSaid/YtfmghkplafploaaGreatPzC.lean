/- Texts, packed: SaE SaF SaG SbA StA -/
import Derived.Test.YtfmghkplafploaaGreatPzB
import Derived.Great.BuildSlice
set_option linter.unusedVariables false
set_option linter.unusedSimpArgs false
namespace Go.Proofs.YtfmghkplafploaaGreat
open Go Go.RowKit

abbrev ClA := SlA × SlA × List SlA
def clC (z : Cl × ClA) : List Value := [nv z.1.1.1, z.2.1.val, z.2.2.1.val]
/-- A slice of clauses that is read. -/
structure RdCs (w : World) (B : Nat) (A : Option Addr) (n : Nat) (Q : List ClA) (C : List Cl) : Prop where
  lenQ : Q.length = n
  lenC : C.length = n
  top : Rd w B 3 A n ((C.zip Q).flatMap clC)
  row : ∀ (i : Nat) (q : ClA) (x : Cl), Q[i]? = some q → C[i]? = some x → RdT w B q.1.1 q.1.2.1 x.1.2 ∧ RdL w B q.2.1.1 q.2.1.2.1 q.2.2 x.2
section
variable {w w' : World} {B n : Nat} {A : Option Addr} {Q : List ClA} {C : List Cl}
theorem RdCs.below (h : RdCs w B A n Q C) (hb : Below B w w') : RdCs w' B A n Q C :=
  ⟨h.lenQ, h.lenC, h.top.below hb, fun i q x h1 h2 => ⟨(h.row i q x h1 h2).1.below hb, (h.row i q x h1 h2).2.below hb⟩⟩
theorem RdCs.more {B' : Nat} (h : RdCs w B A n Q C) (hB : B ≤ B') : RdCs w B' A n Q C :=
  ⟨h.lenQ, h.lenC, h.top.more hB, fun i q x h1 h2 => ⟨(h.row i q x h1 h2).1.more hB, (h.row i q x h1 h2).2.more hB⟩⟩
theorem RdCs.at_ (h : RdCs w B A n Q C) {i : Nat} (hi : i < n) :
    ∃ b o p l L A0 n0 c0 A1 n1 c1 R, A = some ⟨b, o, none⟩ ∧ b < B ∧ C[i]? = some ((p, l), L) ∧ Q[i]? = some ((A0, n0, c0), (A1, n1, c1), R) ∧ w.cell? ⟨b, o + i * 3, none⟩ = some (nv p) ∧ w.cell? ⟨b, o + i * 3 + 1, none⟩ = some (.slice A0 n0 c0) ∧ w.cell? ⟨b, o + i * 3 + 2, none⟩ = some (.slice A1 n1 c1) ∧ RdT w B A0 n0 l ∧ RdL w B A1 n1 R L := by
  obtain ⟨b, o, e, hb, hc⟩ := h.top.2 (by omega)
  have h1 : Q[i]? = some (Q[i]'(by rw [h.lenQ]; exact hi)) := List.getElem?_eq_getElem _
  have h2 : C[i]? = some (C[i]'(by rw [h.lenC]; exact hi)) := List.getElem?_eq_getElem _
  generalize Q[i]'(by rw [h.lenQ]; exact hi) = q at h1
  generalize C[i]'(by rw [h.lenC]; exact hi) = x at h2
  obtain ⟨⟨A0, n0, c0⟩, ⟨A1, n1, c1⟩, R⟩ := q
  obtain ⟨⟨p, l⟩, L⟩ := x
  have hz : (C.zip Q)[i]? = some (((p, l), L), ((A0, n0, c0), (A1, n1, c1), R)) := by
    rw [List.getElem?_zip_eq_some]
    exact ⟨h2, h1⟩
  have hl : ∀ x : Cl × ClA, (clC x).length = 3 := fun _ => rfl
  have f0 := flat_at clC 3 hl hz 0 (by omega)
  have f1 := flat_at clC 3 hl hz 1 (by omega)
  have f2 := flat_at clC 3 hl hz 2 (by omega)
  have hr := h.row i _ _ h1 h2
  exact ⟨b, o, p, l, L, A0, n0, c0, A1, n1, c1, R, e, hb, h2, h1, hc _ _ f0, hc _ _ f1, hc _ _ f2, hr.1, hr.2⟩
end
/-! ### Rows of atoms of the call's own -/
abbrev AtR := UInt32 × SlA
def atC (x : AtR) : List Value := [nv x.1, x.2.val]
theorem atC_len (X : List AtR) : (X.flatMap atC).length = X.length * 2 := by
  induction X with
  | nil => rfl
  | cons x X ih => rw [List.flatMap_cons, List.length_append, ih, List.length_cons]; simp [atC]; omega
theorem atC_one (X : List AtR) : ∀ u ∈ X.flatMap atC, u.oneCell' = true := by
  intro u hu
  obtain ⟨x, _, hx⟩ := List.mem_flatMap.1 hu
  simp only [atC, List.mem_cons, List.not_mem_nil, or_false] at hx
  rcases hx with rfl | rfl <;> rfl
def OwAt (w : World) (base : Nat) (A : Option Addr) (c n : Nat) (X : List AtR) : Prop := w.ownsRow base 42 2 (.slice A n c) n (X.flatMap atC)
theorem OwAt.len {w : World} {base c n : Nat} {A : Option Addr} {X : List AtR} (h : OwAt w base A c n X) : X.length = n := by
  have := h.1
  rw [atC_len] at this
  omega
theorem OwAt.rd {w : World} {base c n : Nat} {A : Option Addr} {X : List AtR} (h : OwAt w base A c n X) : Rd w w.heap.size 2 A n (X.flatMap atC) := Rd.ofOwn h
theorem OwAt.later {w w' : World} {base c n : Nat} {A : Option Addr} {X : List AtR} (h : OwAt w base A c n X) (hb : Below w.heap.size w w') : OwAt w' base A c n X := ownBelow h hb (Nat.le_refl _)
theorem OwAt.one (w : World) (p : UInt32) (A : Option Addr) (n c : Nat) : OwAt (w.alloc (.cells #[nv p, .slice A n c] 42)) w.heap.size (some ⟨w.heap.size, 0, none⟩) 1 1 [(p, A, n, c)] := World.ownsRow_lit w #[nv p, .slice A n c] 1 (Nat.le_refl _) (by simp [maxLen]) rfl
theorem OwAt.mono {w : World} {base base' c n : Nat} {A : Option Addr} {X : List AtR} (h : OwAt w base A c n X) (hb : base' ≤ base) : OwAt w base' A c n X := by
  refine ⟨h.1, ?_⟩
  rcases h.2 with h2 | ⟨g, cap, cur, hv, hg, r⟩
  · exact .inl h2
  · exact .inr ⟨g, cap, cur, hv, Nat.le_trans hb hg, r⟩
theorem ownBlk_slice (A : Option Addr) (n c : Nat) : (Value.slice A n c).ownBlock = A.map (·.block) := by cases A <;> rfl
theorem OwAt.low {w : World} {base c n : Nat} {A : Option Addr} {X : List AtR} (h : OwAt w base A c n X) {k : Nat} (hk : A.map (·.block) = some k) : base ≤ k ∧ k < w.heap.size := World.ownsRow.lt h k (by rw [ownBlk_slice]; exact hk)
theorem atInfo : (Tryz.prog.info? 42).map (fun i => (i.zero, i.size, i.bytes)) = some (some (.agg #[.int .u32 0, .slice none 0 0]), 2, 32) := by kernel_rfl
theorem appA {ops : Array Oper} {rest : List Oper} {o : Oper} {a : Act} {Q : Exit → Act → World → Prop} (w : World) (hgd : o.guard = none) (p x : Operand)
    (ho : o.op = .call { callee := .builtin .append, args := #[p, x], argTypes := #[82, 82] })
    (base : Nat) (A0 : Option Addr) (c0 n : Nat) (X : List AtR) (hv : a.eval p = .slice A0 n c0) (hown : OwAt w base A0 c0 n X)
    (B : Nat) (A : Option Addr) (m c : Nat) (Y : List AtR) (hx : a.eval x = .slice A m c) (hr : Rd w B 2 A m (Y.flatMap atC)) (hb : n + m ≤ 1000000000000) (hbase : base ≤ w.heap.size)
    (h : ∀ A' c' w', OwAt w' base A' c' (n + m) (X ++ Y) → Turn (fun k => A0.map (·.block) = some k) w w' → (A'.map (·.block) = A0.map (·.block) ∨ A'.map (·.block) = some w.heap.size) → wpList Tryz.prog ops Q rest (a.put o.dst (.slice A' (n + m) c')) w') : wpList Tryz.prog ops Q (o :: rest) a w := by
  obtain ⟨i0, hi, hz0, hz1, hz2⟩ := info_parts atInfo
  refine wpList_app w hgd p x 82 ho base 42 i0 _ 2 32 Tryz.underlying82 hi hz0 hz1 hz2 rfl (by decide) _ n _ hv hown B A m c _ hx hr (atC_one Y) (by simp only [maxLen]; omega) (by omega) hbase ?_
  intro A' c' w' h4 h2 h3
  rw [ownBlk_slice, ownBlk_slice] at h3
  exact h A' c' w' (by unfold OwAt; rw [List.flatMap_append]; exact h4) (Turn.ofGrown h2 fun k hk => by rw [ownBlk_slice] at hk; exact hk) h3
theorem RdL.at2 {w : World} {B n : Nat} {A : Option Addr} {R : List SlA} {L : List Li} (h : RdL w B A n R L) {i : Nat} (hi : i < n) :
    ∃ b o g p l Ai ni ci, A = some ⟨b, o, none⟩ ∧ b < B ∧ L[i]? = some (g, p, l) ∧ R[i]? = some (Ai, ni, ci) ∧ w.cell? ⟨b, o + i * 3, none⟩ = some (.bool g) ∧ w.cell? ⟨b, o + i * 3 + 1, none⟩ = some (nv p) ∧ w.cell? ⟨b, o + i * 3 + 2, none⟩ = some (.slice Ai ni ci) ∧ RdT w B Ai ni l := by
  obtain ⟨b, o, e, hb, hc⟩ := h.top.2 (by omega)
  have h1 : R[i]? = some (R[i]'(by rw [h.lenR]; exact hi)) := List.getElem?_eq_getElem _
  have h2 : L[i]? = some (L[i]'(by rw [h.lenL]; exact hi)) := List.getElem?_eq_getElem _
  generalize R[i]'(by rw [h.lenR]; exact hi) = r at h1
  generalize L[i]'(by rw [h.lenL]; exact hi) = x at h2
  obtain ⟨Ai, ni, ci⟩ := r
  obtain ⟨g, p, l⟩ := x
  have hz : (L.zip R)[i]? = some ((g, p, l), (Ai, ni, ci)) := by
    rw [List.getElem?_zip_eq_some]
    exact ⟨h2, h1⟩
  have hl : ∀ x : Li × SlA, (liC x).length = 3 := fun _ => rfl
  have f0 := flat_at liC 3 hl hz 0 (by omega)
  have f1 := flat_at liC 3 hl hz 1 (by omega)
  have f2 := flat_at liC 3 hl hz 2 (by omega)
  exact ⟨b, o, g, p, l, Ai, ni, ci, e, hb, h2, h1, hc _ _ f0, hc _ _ f1, hc _ _ f2, h.row i _ _ h1 h2⟩
/-- All atoms of a clause, as slices. -/
def atomsR (p : UInt32) (s : SlA) (R : List SlA) (L : List Li) : List AtR := (p, s) :: (L.zip R).map fun z => (z.1.2.1, z.2)
set_option maxRecDepth 100000 in
set_option maxHeartbeats 2000000 in
theorem rAtoms_any (p : UInt32) (A : Option Addr) (n c : Nat) (A1 : Option Addr) (n1 c1 : Nat) (R : List SlA) (L : List Li) (w : World) (h1 : RdL w w.heap.size A1 n1 R L) (hn1 : n1 ≤ 1000000) :
    Calls Tryz.prog 39 #[.agg #[nv p, .slice A n c, .slice A1 n1 c1]] w fun e w' => ∃ A' c', e = .returned (.slice A' (n1 + 1) c') ∧ OwAt w' w.heap.size A' c' (n1 + 1) (atomsR p (A, n, c) R L) ∧ Below w.heap.size w w' := by
  have HL1 := Lib.hid h1.lenL
  have HLR := Lib.hid h1.lenR
  obtain ⟨W, hW, hb, hbw⟩ := box3 w p (.slice A n c) (.slice A1 n1 c1) 45
  obtain ⟨W0, hW0, hO, hb0⟩ : ∃ W0, W0 = W.alloc (.cells #[nv p, .slice A n c] 42) ∧ OwAt W0 W.heap.size (some ⟨W.heap.size, 0, none⟩) 1 1 [(p, A, n, c)] ∧ Below W.heap.size W W0 := ⟨_, rfl, OwAt.one W p A n c, (Below.refl _ _).alloc (Nat.le_refl _) _⟩
  have HW := Lib.hid hW
  have HW0 := Lib.hid hW0
  have HB := Lib.hid hb
  have HBW := Lib.hid hbw
  have HO := Lib.hid hO
  have HB0 := Lib.hid hb0
  have HR1 := Lib.hid ((h1.below hbw).more hbw.size)
  have k0 := hb.read (Below.refl _ _) 0 rfl
  have k1 := hb.read (Below.refl _ _) 1 rfl
  clear hW hW0 hb hO h1 hbw hb0
  go_enter Tryz.func39, Tryz.ntmps39
  go_upto_region 1 with (fail)
  rw [← HW.out]
  go_upto_region 2 with (fail)
  rw [← HW0.out]
  clear k0 k1
  repeat (first | go_skip | go_guarded | go_step)
  go_loopw [3, 4] (fun lv q wr => ∃ (i : Nat) (Al : Option Addr) (cl : Nat), i ≤ n1 ∧ lv = .slice Al (i + 1) cl ∧ q = .int .i64 (i : Int) ∧ OwAt wr W.heap.size Al cl (i + 1) ((p, A, n, c) :: ((L.zip R).take i).map fun z => (z.1.2.1, z.2)) ∧ Below W.heap.size W wr) (fun _ q _ => n1 - (intOf q).toNat)
  case atStart => exact ⟨0, _, 1, by omega, rfl, rfl, HO.out, HB0.out⟩
  case round =>
    rename World => wr
    obtain ⟨i, Al, cl, hi, rfl, rfl, how, hbr⟩ := hrel
    have HOW := Lib.hid how
    have HBR := Lib.hid hbr
    clear how hbr
    have e2 := HB.out.read HBR.out 2 rfl
    by_cases hlt : i < n1
    · have hci : (i : Int) < (n1 : Int) := by omega
      obtain ⟨b3, o3, g3, p3, l3, Ai, ni, ci, hA1, hb3, hx3, hr3, hd0, hd1, hd2, hrow⟩ := (HR1.out.below HBR.out).at2 hlt
      subst hA1
      have hz : (L.zip R)[i]? = some ((g3, p3, l3), (Ai, ni, ci)) := by
        rw [List.getElem?_zip_eq_some]
        exact ⟨hx3, hr3⟩
      have HZT := Lib.hid (show ((L.zip R).take (i + 1)).map (fun z => ((z.1.2.1, z.2) : AtR)) = ((L.zip R).take i).map (fun z => (z.1.2.1, z.2)) ++ [(p3, Ai, ni, ci)] by rw [List.take_add_one, hz, List.map_append]; rfl)
      have hZ : Below wr.heap.size wr (wr.alloc (.cells #[nv p3, .slice Ai ni ci] 42)) := (Below.refl _ _).alloc (Nat.le_refl _) _
      have HOZ := Lib.hid (HOW.out.later hZ)
      have HBZ := Lib.hid (HBR.out.trans (hZ.mono HBR.out.size))
      have HONE := Lib.hid (OwAt.one wr p3 Ai ni ci).rd
      clear hx3 hr3 hz hrow hZ
      repeat (first
        | (at_builtin; refine appA _ rfl (.tmp 15) (.tmp 22) rfl W.heap.size Al cl (i + 1) _ rfl HOZ.out _ _ 1 1 [(p3, Ai, ni, ci)] rfl HONE.out (by omega) HBZ.out.size ?_
           intro A3 c3 Z hoZ htZ hfZ
           have HO3 := Lib.hid hoZ
           have HB3 := Lib.hid (HBZ.out.trans (htZ.below (B := W.heap.size) (fun y _ e => (HOZ.out.low e).1) HBZ.out.size))
           clear hoZ htZ hfZ e2 hd0 hd1 hd2)
        | go_skip | go_guarded | go_step)
      go_roundw
      case rel => exact ⟨i + 1, A3, c3, by omega, rfl, by go_num, by rw [HZT.out]; exact HO3.out, HB3.out⟩
      case measure => simp [intOf]; omega
    · obtain rfl : n1 = i := by omega
      have hci : ¬ (n1 : Int) < (n1 : Int) := by omega
      have HFULL := Lib.hid (show OwAt wr W.heap.size Al cl (n1 + 1) (atomsR p (A, n, c) R L) by
        have h := HOW.out
        rw [List.take_of_length_le (by rw [List.length_zip, HL1.out, HLR.out, Nat.min_self]; exact Nat.le_refl _)] at h
        exact h)
      repeat (first | go_skip | go_guarded | go_step)
      go_ret
      exact ⟨Al, cl, rfl, HFULL.out.mono HBW.out.size, HBW.out.trans (HBR.out.mono HBW.out.size)⟩
end Go.Proofs.YtfmghkplafploaaGreat

set_option linter.unusedVariables false
set_option linter.unusedSimpArgs false
namespace Go.Proofs.YtfmghkplafploaaGreat
open Go Go.RowKit

abbrev Key := UInt32 × Nat
def keyR (x : AtR) : Key := (x.1, x.2.2.1)
def keysC (c : Cl) : List Key := (c.1.1, c.1.2.length) :: c.2.map fun x => (x.2.1, x.2.2.length)
/-- Two keys: no predicate with two lengths. -/
abbrev Fit (a b : Key) : Prop := a.1 = b.1 → a.2 = b.2
theorem Fit.symm {a b : Key} (h : Fit a b) : Fit b a := fun e => (h e.symm).symm
def fitL (K : List Key) : Bool := decide (K.Pairwise Fit)
theorem keys_atoms {w : World} {B n1 : Nat} {A1 : Option Addr} {R : List SlA} {L : List Li} (h : RdL w B A1 n1 R L) (p : UInt32) (A : Option Addr) (n c : Nat) (l : List Tm) (hl : l.length = n) :
    (atomsR p (A, n, c) R L).map keyR = keysC ((p, l), L) := by
  unfold atomsR keysC
  rw [List.map_cons, List.map_map]
  congr 1
  · unfold keyR; rw [← hl]
  · refine List.ext_getElem (by simp [h.lenL, h.lenR]) fun i h1 h2 => ?_
    simp only [List.length_map] at h2
    have hi : i < n1 := by rw [← h.lenL]; exact h2
    obtain ⟨b, o, g, q, l3, Ai, ni, ci, _, _, hx, hr, _, _, _, hrow⟩ := h.at2 hi
    obtain ⟨q1, q2⟩ := List.getElem?_eq_some_iff.1 hx
    obtain ⟨q3, q4⟩ := List.getElem?_eq_some_iff.1 hr
    simp [q2, q4, keyR, rdT_len hrow]
theorem rdAt {w : World} {B n : Nat} {A : Option Addr} {X : List AtR} (h : Rd w B 2 A n (X.flatMap atC)) {i : Nat} {x : AtR} (hi : i < n) (hx : X[i]? = some x) : ∃ b o, A = some ⟨b, o, none⟩ ∧ b < B ∧ w.cell? ⟨b, o + i * 2, none⟩ = some (nv x.1) ∧ w.cell? ⟨b, o + i * 2 + 1, none⟩ = some (.slice x.2.1 x.2.2.1 x.2.2.2) := by
  obtain ⟨b, o, e, hb, hc⟩ := h.2 (by omega)
  have hl : ∀ x : AtR, (atC x).length = 2 := fun _ => rfl
  have f0 := flat_at atC 2 hl hx 0 (by omega)
  have f1 := flat_at atC 2 hl hx 1 (by omega)
  exact ⟨b, o, e, hb, hc _ _ f0, hc _ _ f1⟩
theorem take_len_flat {C : List Cl} {i : Nat} {x : Cl} (h : C[i]? = some x) : (C.take (i + 1)).flatMap keysC = (C.take i).flatMap keysC ++ keysC x := by
  rw [List.take_add_one, h, List.flatMap_append]
  simp
set_option maxRecDepth 100000 in
set_option maxHeartbeats 4000000 in
theorem rLengths_any (A : Option Addr) (n c : Nat) (Q : List ClA) (C : List Cl) (w : World) (h : RdCs w w.heap.size A n Q C) (hn : n ≤ 100000) (hk : ∀ x ∈ C, x.2.length ≤ 1000000) :
    Calls Tryz.prog 29 #[.slice A n c] w fun e w' => e = .returned (.bool (fitL (C.flatMap keysC))) ∧ Below w.heap.size w w' := by
  have HC := Lib.hid h
  have HK := Lib.hid hk
  clear h hk
  go_enter Tryz.func29, Tryz.ntmps29
  repeat (first | go_skip | go_guarded | go_step)
  go_loopw [3, 4] (fun av q wr => ∃ (i : Nat) (Al : Option Addr) (cl : Nat) (X : List AtR), i ≤ n ∧ av = .slice Al X.length cl ∧ q = .int .i64 (i : Int) ∧ OwAt wr w.heap.size Al cl X.length X ∧ X.map keyR = (C.take i).flatMap keysC ∧ X.length ≤ i * 1000001 ∧ Below w.heap.size w wr) (fun _ q _ => n - (intOf q).toNat)
  case atStart => exact ⟨0, none, 0, [], by omega, rfl, rfl, World.ownsRow_nil _ _ _ _, rfl, by simp, Below.refl _ _⟩
  case round =>
    rename World => wr
    obtain ⟨i, Al, cl, X, hi, rfl, rfl, how, hkx, hxl, hbr⟩ := hrel
    have HOW := Lib.hid how
    have HKX := Lib.hid hkx
    have HBR := Lib.hid hbr
    obtain ⟨m, hm⟩ : ∃ m, m = X.length := ⟨_, rfl⟩
    rw [← hm] at hxl ⊢
    have HM := Lib.hid hm
    clear how hkx hbr hm
    by_cases hlt : i < n
    · have hci : (i : Int) < (n : Int) := by omega
      obtain ⟨b, o, p, l, L, A0, n0, c0, A1, n1, c1, R, hA, hb, hx, hq, hd0, hd1, hd2, hrt, hrl⟩ := (HC.out.below HBR.out).at_ hlt
      subst hA
      have hn1 : n1 ≤ 1000000 := by have := HK.out _ (List.mem_of_getElem? hx); have := hrl.lenL; dsimp only at *; omega
      have HTK := Lib.hid (take_len_flat hx)
      have hrl2 := hrl.more HBR.out.size
      have HKA := Lib.hid (keys_atoms hrl p A0 n0 c0 l (rdT_len hrt))
      have hcall := rAtoms_any p A0 n0 c0 A1 n1 c1 R L wr hrl2 hn1
      clear hx hq hrt hrl hrl2 hb
      repeat (first | go_skip | go_guarded | go_step)
      refine hcall.mono ?_
      rintro e w2 ⟨A', c', rfl, ho2, hb2⟩
      have HO2 := Lib.hid ho2.rd
      have HOW2 := Lib.hid (show OwAt w2 w.heap.size Al cl m X by rw [HM.out]; exact HOW.out.later hb2)
      have HB2 := Lib.hid (HBR.out.trans (hb2.mono HBR.out.size))
      have hlen2 := ho2.len
      have HLEN2 := Lib.hid hlen2
      clear hcall ho2 hb2 hd0 hd1 hd2 hlen2
      dsimp only
      have hmb : m + (n1 + 1) ≤ 1000000000000 := by
        have : i * 1000001 ≤ 100000 * 1000001 := Nat.mul_le_mul_right _ (by omega)
        omega
      have hmb2 : m + (n1 + 1) ≤ (i + 1) * 1000001 := by rw [Nat.add_mul]; omega
      repeat (first
        | (at_builtin; refine appA _ rfl (.tmp 13) (.tmp 18) rfl w.heap.size Al cl m X rfl HOW2.out _ A' (n1 + 1) c' _ rfl HO2.out hmb HB2.out.size ?_
           intro A3 c3 Z hoZ htZ hfZ
           have HO3 := Lib.hid hoZ
           have HB3 := Lib.hid (HB2.out.trans (htZ.below (B := w.heap.size) (fun y _ e => (HOW2.out.low e).1) HB2.out.size))
           clear hoZ htZ hfZ)
        | go_skip | go_guarded | go_step)
      have hl3 := HO3.out.len
      go_roundw
      case rel => exact ⟨i + 1, A3, c3, _, by omega, by rw [hl3], by go_num, by rw [hl3]; exact HO3.out, by rw [List.map_append, HKX.out, HKA.out, HTK.out], by rw [hl3]; exact hmb2, HB3.out⟩
      case measure => simp [intOf]; omega
    · obtain rfl : n = i := by omega
      have hci : ¬ (n : Int) < (n : Int) := by omega
      have HKF := Lib.hid (show X.map keyR = C.flatMap keysC by
        have h := HKX.out
        rwa [List.take_of_length_le (by rw [HC.out.lenC]; exact Nat.le_refl _)] at h)
      have HRD := Lib.hid (show Rd wr wr.heap.size 2 Al m (X.flatMap atC) by rw [HM.out]; exact HOW.out.rd)
      have hmb : m ≤ 1000000000000 := by
        have : n * 1000001 ≤ 100000 * 1000001 := Nat.mul_le_mul_right _ (by omega)
        omega
      have HGET := Lib.hid (show ∀ j, j < m → ∃ x, X[j]? = some x from fun j hj => ⟨_, List.getElem?_eq_getElem (by rw [← HM.out]; exact hj)⟩)
      clear hxl
      repeat (first | go_skip | go_guarded | go_step)
      go_loopw [5] (fun q w2 => ∃ i : Nat, i ≤ m ∧ q = .int .i64 (i : Int) ∧ ((X.map keyR).take i).Pairwise Fit ∧ Below wr.heap.size wr w2) (fun q _ => m - (intOf q).toNat)
      case atStart => exact ⟨0, by omega, rfl, by simp, Below.refl _ _⟩
      case round =>
        rename World => w2
        obtain ⟨i, hi2, rfl, hpw, hb2⟩ := hrel
        have HPW := Lib.hid hpw
        have HB2 := Lib.hid hb2
        clear hpw hb2
        by_cases hlti : i < m
        · have hii : (i : Int) < (m : Int) := by omega
          obtain ⟨x, hx⟩ := HGET.out i hlti
          obtain ⟨bb, oo, hAl, hbb, hc0, hc1⟩ := rdAt HRD.out hlti hx
          subst hAl
          obtain ⟨px, Ax, nx, cx⟩ := x
          dsimp only at hc0 hc1
          have HX := Lib.hid hx
          have HX0 := Lib.hid (show ∀ V, Below wr.heap.size wr V → V.cell? ⟨bb, oo + i * 2, none⟩ = some (nv px) ∧ V.cell? ⟨bb, oo + i * 2 + 1, none⟩ = some (.slice Ax nx cx) from fun V hV => ⟨(hV.cell (p := ⟨bb, oo + i * 2, none⟩) hbb).trans hc0, (hV.cell (p := ⟨bb, oo + i * 2 + 1, none⟩) hbb).trans hc1⟩)
          clear hx hc0 hc1
          repeat (first | go_skip | go_guarded | go_step)
          go_loopw [6] (fun q w3 => ∃ k : Nat, k ≤ i ∧ q = .int .i64 (k : Int) ∧ (∀ y ∈ (X.map keyR).take k, Fit y (px, nx)) ∧ Below wr.heap.size wr w3) (fun q _ => i - (intOf q).toNat)
          case atStart => exact ⟨0, by omega, rfl, by simp, HB2.out⟩
          case round =>
            rename World => w3
            obtain ⟨k, hk, rfl, hfit, hb3⟩ := hrel
            have HFT := Lib.hid hfit
            have HB3 := Lib.hid hb3
            clear hfit hb3
            by_cases hltk : k < i
            · have hki : (k : Int) < (i : Int) := by omega
              have hkm : (k : Int) < (m : Int) := by omega
              obtain ⟨y, hy⟩ := HGET.out k (by omega)
              obtain ⟨b4, o4, hAl, _, hc0, hc1⟩ := rdAt HRD.out (by omega) hy
              cases hAl
              obtain ⟨py, Ay, ny, cy⟩ := y
              dsimp only at hc0 hc1
              have HY := Lib.hid hy
              have qx0 := fun q => (HX0.out (w3.drewN q) (belowDrewQ HB3.out q)).1
              have qx1 := fun q => (HX0.out (w3.drewN q) (belowDrewQ HB3.out q)).2
              have qy0 : ∀ q, (w3.drewN q).cell? ⟨bb, oo + k * 2, none⟩ = some (nv py) := fun q => ((belowDrewQ HB3.out q).cell (p := ⟨bb, oo + k * 2, none⟩) hbb).trans hc0
              have qy1 : ∀ q, (w3.drewN q).cell? ⟨bb, oo + k * 2 + 1, none⟩ = some (.slice Ay ny cy) := fun q => ((belowDrewQ HB3.out q).cell (p := ⟨bb, oo + k * 2 + 1, none⟩) hbb).trans hc1
              have hmk : (X.map keyR)[k]? = some (py, ny) := by rw [List.getElem?_map, HY.out]; rfl
              have hmi : (X.map keyR)[i]? = some (px, nx) := by rw [List.getElem?_map, HX.out]; rfl
              have HMK := Lib.hid hmk
              have HMI := Lib.hid hmi
              clear hy hc0 hc1 hmk hmi
              have HROUND := Lib.hid (show Fit (py, ny) (px, nx) → ∀ y ∈ (X.map keyR).take (k + 1), Fit y (px, nx) from fun hf y hy => by
                rw [List.take_add_one, HMK.out] at hy
                rcases List.mem_append.1 hy with hy | hy
                · exact HFT.out y hy
                · simp only [Option.toList_some, List.mem_singleton] at hy
                  subst hy
                  exact hf)
              by_cases hp : px = py
              · have hd : ((px.toNat : Int) == (py.toNat : Int)) = true := by subst hp; simp
                have HP := Lib.hid hp
                clear hp
                by_cases hnn : nx = ny
                · have hd2 : ((nx : Int) != (ny : Int)) = false := by subst hnn; simp
                  have HN := Lib.hid hnn
                  clear hnn
                  go_upto_region 12 with (fail)
                  go_quiet (fail)
                  repeat (first | go_skip | go_guarded | go_step)
                  have hb9 := belowDrewQ HB3.out nq
                  go_roundw
                  case rel => exact ⟨k + 1, by omega, by go_num, HROUND.out (fun _ => HN.out.symm), hb9⟩
                  case measure => simp [intOf]; omega
                · have hd2 : ((nx : Int) != (ny : Int)) = true := by simp; omega
                  have HN := Lib.hid hnn
                  clear hnn
                  go_upto_region 12 with (fail)
                  go_quiet (fail)
                  repeat (first | go_skip | go_guarded | go_step)
                  go_ret
                  refine ⟨?_, HBR.out.trans ((belowDrewQ HB3.out _).mono HBR.out.size)⟩
                  have : fitL (C.flatMap keysC) = false := by
                    unfold fitL
                    rw [decide_eq_false_iff_not, ← HKF.out]
                    intro hpw
                    obtain ⟨q1, q2⟩ := List.getElem?_eq_some_iff.1 HMK.out
                    obtain ⟨q3, q4⟩ := List.getElem?_eq_some_iff.1 HMI.out
                    have := List.pairwise_iff_getElem.1 hpw k i q1 q3 hltk
                    rw [q2, q4] at this
                    exact HN.out (this HP.out.symm).symm
                  rw [this]; rfl
              · have hd := u32ne' hp
                have HP := Lib.hid hp
                clear hp
                go_upto_region 12 with (fail)
                go_quiet (fail)
                repeat (first | go_skip | go_guarded | go_step)
                have hb9 := belowDrewQ HB3.out nq
                go_roundw
                case rel => exact ⟨k + 1, by omega, by go_num, HROUND.out (fun e => absurd e.symm HP.out), hb9⟩
                case measure => simp [intOf]; omega
            · obtain rfl : i = k := by omega
              have hki : ¬ (i : Int) < (i : Int) := by omega
              repeat (first | go_skip | go_guarded | go_step)
              go_roundw
              case rel => exact ⟨i + 1, by omega, by go_num, by
                have hmi : (X.map keyR)[i]? = some (px, nx) := by rw [List.getElem?_map, HX.out]; rfl
                rw [List.take_add_one, hmi]
                refine List.pairwise_append.2 ⟨HPW.out, by simp, fun a ha b hb => ?_⟩
                simp only [Option.toList_some, List.mem_singleton] at hb
                subst hb
                exact HFT.out a ha, HB3.out⟩
              case measure => simp [intOf]; omega
        · obtain rfl : m = i := by omega
          have hii : ¬ (m : Int) < (m : Int) := by omega
          repeat (first | go_skip | go_guarded | go_step)
          go_ret
          refine ⟨?_, HBR.out.trans (HB2.out.mono HBR.out.size)⟩
          have : fitL (C.flatMap keysC) = true := by
            unfold fitL
            rw [decide_eq_true_iff, ← HKF.out]
            have h := HPW.out
            rwa [List.take_of_length_le (by rw [List.length_map, ← HM.out]; exact Nat.le_refl _)] at h
          rw [this]; rfl
end Go.Proofs.YtfmghkplafploaaGreat

set_option linter.unusedVariables false
set_option linter.unusedSimpArgs false
namespace Go.Proofs.YtfmghkplafploaaGreat
open Go Go.RowKit

def badAt (C : List Cl) (i : Nat) (x : Cl) : Nat := if mayC x = false then 8 else if safeC x = false then 10 else if fitL ((C.take (i + 1)).flatMap keysC) = false then 9 else 0
def rightFrom (C : List Cl) : List Cl → Nat → Nat × Nat
  | [], _ => (0, 0)
  | x :: r, i => if badAt C i x = 0 then rightFrom C r (i + 1) else (i, badAt C i x)
/-- What Right answers. -/
def rightM (C : List Cl) : Nat × Nat := if 400 < C.length then (0, 6) else rightFrom C C 0
theorem rightFrom_bad {C r : List Cl} {i : Nat} {x : Cl} (h : badAt C i x ≠ 0) : rightFrom C (x :: r) i = (i, badAt C i x) := if_neg h
theorem rightFrom_ok {C r : List Cl} {i : Nat} {x : Cl} (h : badAt C i x = 0) : rightFrom C (x :: r) i = rightFrom C r (i + 1) := if_pos h
/-- What one goes through has no more than so much in it. -/
def Slim (C : List Cl) : Prop := ∀ x ∈ C, x.1.2.length ≤ 1000000 ∧ x.2.length ≤ 1000000 ∧ ∀ y ∈ x.2, y.2.2.length ≤ 1000000
theorem RdCs.cut {w : World} {B n k : Nat} {A : Option Addr} {Q : List ClA} {C : List Cl} (h : RdCs w B A n Q C) (hk : k ≤ n) : RdCs w B A k (Q.take k) (C.take k) := by
  have hz : ((C.take k).zip (Q.take k)) = (C.zip Q).take k := by unfold List.zip; rw [List.take_zipWith]
  refine ⟨by rw [List.length_take, h.lenQ]; omega, by rw [List.length_take, h.lenC]; omega, ?_, fun i q x h1 h2 => ?_⟩
  · have hlen : ∀ X : List (Cl × ClA), (X.flatMap clC).length = X.length * 3 := fun X => by
      induction X with
      | nil => rfl
      | cons x X ih => rw [List.flatMap_cons, List.length_append, ih, List.length_cons]; simp [clC]; omega
    rw [hz]
    refine ⟨by rw [hlen, List.length_take, List.length_zip, h.lenQ, h.lenC]; omega, fun hp => ?_⟩
    obtain ⟨b, o, e, hb, hc⟩ := h.top.2 (by omega)
    refine ⟨b, o, e, hb, fun j u hu => hc j u ?_⟩
    have hpre : (C.zip Q).flatMap clC = ((C.zip Q).take k).flatMap clC ++ ((C.zip Q).drop k).flatMap clC := by
      rw [← List.flatMap_append, List.take_append_drop]
    rw [hpre, List.getElem?_append_left (List.getElem?_eq_some_iff.1 hu).1]
    exact hu
  · rw [List.getElem?_take] at h1 h2
    split at h1
    · rename_i hlt
      rw [if_pos hlt] at h2
      exact h.row i q x h1 h2
    · cases h1
set_option maxRecDepth 100000 in
set_option maxHeartbeats 4000000 in
theorem rRight_any (A : Option Addr) (n c : Nat) (Q : List ClA) (C : List Cl) (w : World) (h : RdCs w w.heap.size A n Q C) (hnc : n ≤ c) (hs : Slim C) :
    Calls Tryz.prog 12 #[.slice A n c] w fun e w' => e = .returned (.tuple #[.int .i64 ((rightM C).1 : Int), .int .i64 ((rightM C).2 : Int)]) ∧ Below w.heap.size w w' := by
  have HC := Lib.hid h
  have HS := Lib.hid hs
  have hlen := h.lenC
  clear h hs
  by_cases hb : 400 < n
  · have hbi : (400 : Int) < (n : Int) := by omega
    have HM := Lib.hid (show rightM C = (0, 6) by unfold rightM; rw [if_pos (by omega)])
    clear hlen
    go_enter Tryz.func12, Tryz.ntmps12
    repeat (first | go_skip | go_guarded | go_step)
    go_ret2
    exact ⟨by rw [HM.out]; rfl, Below.refl _ _⟩
  · have hbi : ¬ (400 : Int) < (n : Int) := by omega
    have HM := Lib.hid (show rightM C = rightFrom C C 0 by unfold rightM; rw [if_neg (by omega)])
    have HLEN := Lib.hid hlen
    clear hlen
    go_enter Tryz.func12, Tryz.ntmps12
    repeat (first | go_skip | go_guarded | go_step)
    go_loopw [4] (fun q wr => ∃ i : Nat, i ≤ n ∧ q = .int .i64 (i : Int) ∧ rightM C = rightFrom C (C.drop i) i ∧ Below w.heap.size w wr) (fun q _ => n - (intOf q).toNat)
    case atStart => exact ⟨0, by omega, rfl, HM.out, Below.refl _ _⟩
    case round =>
      rename World => wr
      obtain ⟨i, hi, rfl, hrm, hbr⟩ := hrel
      have HRM := Lib.hid hrm
      have HBR := Lib.hid hbr
      clear hrm hbr
      by_cases hlt : i < n
      · have hci : (i : Int) < (n : Int) := by omega
        have hrc := HC.out.below HBR.out
        obtain ⟨b, o, p, l, L, A0, n0, c0, A1, n1, c1, R, hA, hb, hx, hq, hd0, hd1, hd2, hrt, hrl⟩ := hrc.at_ hlt
        obtain ⟨hs1, hs2, hs3⟩ := HS.out _ (List.mem_of_getElem? hx)
        dsimp only at hs1 hs2 hs3
        have hn0 : n0 ≤ 1000000 := by have := rdT_len hrt; omega
        have hn1 : n1 ≤ 1000000 := by have := hrl.lenL; omega
        have HDROP := Lib.hid (show C.drop i = ((p, l), L) :: C.drop (i + 1) by
          obtain ⟨q1, q2⟩ := List.getElem?_eq_some_iff.1 hx
          rw [List.drop_eq_getElem_cons q1, q2])
        have HRT := Lib.hid hrt
        have HRL := Lib.hid hrl
        have HS3 := Lib.hid hs3
        have HD := Lib.hid (show ∀ V, Below wr.heap.size wr V → V.cell? ⟨b, o + i * 3, none⟩ = some (nv p) ∧ V.cell? ⟨b, o + i * 3 + 1, none⟩ = some (.slice A0 n0 c0) ∧ V.cell? ⟨b, o + i * 3 + 2, none⟩ = some (.slice A1 n1 c1) from fun V hV => by
          have hbl : b < wr.heap.size := Nat.lt_of_lt_of_le hb HBR.out.size
          exact ⟨(hV.cell (p := ⟨b, o + i * 3, none⟩) hbl).trans hd0, (hV.cell (p := ⟨b, o + i * 3 + 1, none⟩) hbl).trans hd1, (hV.cell (p := ⟨b, o + i * 3 + 2, none⟩) hbl).trans hd2⟩)
        have HCUT := Lib.hid (show RdCs wr w.heap.size A (i + 1) (Q.take (i + 1)) (C.take (i + 1)) from hrc.cut (by omega))
        subst hA
        have hmay := rAMay_any p A0 n0 c0 l A1 n1 c1 R L wr (Rd.more hrt HBR.out.size) (hrl.more HBR.out.size) hn0 hn1 hs3
        clear hrc hx hq hrt hrl hb hs1 hs2 hs3
        repeat (first | go_skip | go_guarded | go_step)
        refine hmay.mono ?_
        rintro e w2 ⟨rfl, hb2⟩
        have HB2 := Lib.hid hb2
        have HBW2 := Lib.hid (HBR.out.trans (hb2.mono HBR.out.size))
        obtain ⟨d0, d1, d2⟩ := HD.out w2 hb2
        clear hmay hb2 hd0 hd1 hd2
        dsimp only
        cases hm : mayC ((p, l), L) with
        | false =>
          have HB8 := Lib.hid (show badAt C i ((p, l), L) = 8 by unfold badAt; rw [if_pos hm])
          clear hm
          repeat (first | go_skip | go_guarded | go_step)
          go_ret2
          exact ⟨by rw [HRM.out, HDROP.out, rightFrom_bad (by rw [HB8.out]; omega), HB8.out]; rfl, HBW2.out⟩
        | true =>
          have HMY := Lib.hid hm
          clear hm
          have hsafe := rSafe_any p A0 n0 c0 l A1 n1 c1 R L w2 (Rd.more (Rd.below HRT.out (HB2.out.mono HBR.out.size)) HBW2.out.size) ((HRL.out.below (HB2.out.mono HBR.out.size)).more HBW2.out.size) hn0 hn1 HS3.out
          repeat (first | go_skip | go_guarded | go_step)
          refine hsafe.mono ?_
          rintro e w3 ⟨rfl, hb3⟩
          have HBW3 := Lib.hid (HBW2.out.trans (hb3.mono HBW2.out.size))
          have HB3 := Lib.hid (HB2.out.trans (hb3.mono HB2.out.size))
          clear hsafe hb3 d0 d1 d2
          dsimp only
          cases hm : safeC ((p, l), L) with
          | false =>
            have HB10 := Lib.hid (show badAt C i ((p, l), L) = 10 by unfold badAt; rw [if_neg (by rw [HMY.out]; exact Bool.noConfusion), if_pos hm])
            clear hm
            repeat (first | go_skip | go_guarded | go_step)
            go_ret2
            exact ⟨by rw [HRM.out, HDROP.out, rightFrom_bad (by rw [HB10.out]; omega), HB10.out]; rfl, HBW3.out⟩
          | true =>
            have HSF := Lib.hid hm
            clear hm
            have hwr1 : IntKind.i64.wrap ((i : Int) + 1) = (i : Int) + 1 := by rw [IntKind.wrap_i64]; omega
            have hlc : (i : Int) + 1 ≤ (c : Int) := by omega
            have hl0 : (0 : Int) ≤ (i : Int) + 1 := by omega
            have hlens := rLengths_any (some ⟨b, o, none⟩) (i + 1) c (Q.take (i + 1)) (C.take (i + 1)) w3 ((HCUT.out.below (HB3.out.mono HBR.out.size)).more HBW3.out.size) (by omega) (fun x hx => (HS.out x (List.mem_of_mem_take hx)).2.1)
            repeat (first | go_skip | go_guarded | go_step)
            refine hlens.mono ?_
            rintro e w4 ⟨rfl, hb4⟩
            have HBW4 := Lib.hid (HBW3.out.trans (hb4.mono HBW3.out.size))
            clear hlens hb4
            dsimp only
            cases hm : fitL ((C.take (i + 1)).flatMap keysC) with
            | false =>
              have HB9 := Lib.hid (show badAt C i ((p, l), L) = 9 by unfold badAt; rw [if_neg (by rw [HMY.out]; exact Bool.noConfusion), if_neg (by rw [HSF.out]; exact Bool.noConfusion), if_pos hm])
              clear hm
              repeat (first | go_skip | go_guarded | go_step)
              go_ret2
              exact ⟨by rw [HRM.out, HDROP.out, rightFrom_bad (by rw [HB9.out]; omega), HB9.out]; rfl, HBW4.out⟩
            | true =>
              have HB9 := Lib.hid (show badAt C i ((p, l), L) = 0 by unfold badAt; rw [if_neg (by rw [HMY.out]; exact Bool.noConfusion), if_neg (by rw [HSF.out]; exact Bool.noConfusion), if_neg (by rw [hm]; exact Bool.noConfusion)])
              clear hm
              repeat (first | go_skip | go_guarded | go_step)
              go_roundw
              case rel => exact ⟨i + 1, by omega, by go_num, by rw [HRM.out, HDROP.out, rightFrom_ok HB9.out], HBW4.out⟩
              case measure => simp [intOf]; omega
      · obtain rfl : n = i := by omega
        have hci : ¬ (n : Int) < (n : Int) := by omega
        repeat (first | go_skip | go_guarded | go_step)
        go_ret2
        exact ⟨by rw [HRM.out, List.drop_of_length_le (by rw [HLEN.out]; exact Nat.le_refl _)]; rfl, HBR.out⟩
end Go.Proofs.YtfmghkplafploaaGreat

set_option linter.unusedVariables false
set_option linter.unusedSimpArgs false
namespace Go.Proofs.YtfmghkplafploaaGreat
open Go Go.RowKit

theorem rightFrom_zero (C r : List Cl) (i : Nat) : (rightFrom C r i).2 = 0 ↔ ∀ j x, r[j]? = some x → badAt C (i + j) x = 0 := by
  induction r generalizing i with
  | nil => simp [rightFrom]
  | cons x r ih =>
    by_cases h : badAt C i x = 0
    · rw [rightFrom_ok h, ih]
      constructor
      · intro H j y hy
        cases j with
        | zero => simp at hy; subst hy; exact h
        | succ j => rw [List.getElem?_cons_succ] at hy; have := H j y hy; rwa [show i + (j + 1) = i + 1 + j by omega]
      · intro H j y hy
        have := H (j + 1) y (by rw [List.getElem?_cons_succ]; exact hy)
        rwa [show i + (j + 1) = i + 1 + j by omega] at this
    · rw [rightFrom_bad h]
      constructor
      · intro H; exact absurd H h
      · intro H; exact absurd (H 0 x rfl) (by rw [Nat.add_zero]; exact h)
theorem badAt_zero (C : List Cl) (i : Nat) (x : Cl) : badAt C i x = 0 ↔ mayC x = true ∧ safeC x = true ∧ fitL ((C.take (i + 1)).flatMap keysC) = true := by
  unfold badAt
  split
  · rename_i h; constructor
    · intro e; omega
    · rintro ⟨e, _⟩; rw [h] at e; cases e
  · rename_i h1
    split
    · rename_i h; constructor
      · intro e; omega
      · rintro ⟨_, e, _⟩; rw [h] at e; cases e
    · rename_i h2
      split
      · rename_i h; constructor
        · intro e; omega
        · rintro ⟨_, _, e⟩; rw [h] at e; cases e
      · rename_i h3
        refine ⟨fun _ => ⟨by simpa using h1, by simpa using h2, by simpa using h3⟩, fun _ => rfl⟩
theorem fit_sub {K K' : List Key} (h : K.Sublist K') (hf : fitL K' = true) : fitL K = true := by
  unfold fitL at *
  rw [decide_eq_true_iff] at *
  exact hf.sublist h
/-- A program is right just if each clause is, and all lengths fit. -/
theorem right_zero (C : List Cl) : (rightM C).2 = 0 ↔ C.length ≤ 400 ∧ (∀ x ∈ C, mayC x = true ∧ safeC x = true) ∧ fitL (C.flatMap keysC) = true := by
  unfold rightM
  split
  · rename_i h; constructor
    · intro e; cases e
    · rintro ⟨e, _⟩; omega
  · rename_i h
    rw [rightFrom_zero]
    constructor
    · intro H
      refine ⟨by omega, fun x hx => ?_, ?_⟩
      · obtain ⟨j, hj, rfl⟩ := List.mem_iff_getElem.1 hx
        obtain ⟨a, b, _⟩ := (badAt_zero _ _ _).1 (H j _ (List.getElem?_eq_getElem hj))
        exact ⟨a, b⟩
      · rcases Nat.eq_zero_or_pos C.length with h0 | h0
        · rw [List.length_eq_zero_iff] at h0
          subst h0
          rfl
        · obtain ⟨_, _, c⟩ := (badAt_zero _ _ _).1 (H (C.length - 1) _ (List.getElem?_eq_getElem (by omega)))
          rwa [show 0 + (C.length - 1) + 1 = C.length by omega, List.take_length] at c
    · rintro ⟨_, H, hf⟩ j x hx
      refine (badAt_zero _ _ _).2 ⟨(H x (List.mem_of_getElem? hx)).1, (H x (List.mem_of_getElem? hx)).2, fit_sub ?_ hf⟩
      rw [Nat.zero_add]
      conv => rhs; rw [← List.take_append_drop (j + 1) C]
      rw [List.flatMap_append]
      exact List.sublist_append_left _ _
theorem flat_sub {A B : List Cl} (h : A.Sublist B) : (A.flatMap keysC).Sublist (B.flatMap keysC) := by
  induction h with
  | slnil => exact List.Sublist.slnil
  | cons x _ ih => rw [List.flatMap_cons]; exact ih.trans (List.sublist_append_right _ _)
  | cons_cons x _ ih => rw [List.flatMap_cons, List.flatMap_cons]; exact (List.Sublist.refl _).append ih
/-- A program less a clause. -/
def lessC (C : List Cl) (k : Nat) : List Cl := C.take k ++ C.drop (k + 1)
theorem less_sub (C : List Cl) (k : Nat) : (lessC C k).Sublist C := by
  unfold lessC
  conv => rhs; rw [← List.take_append_drop k C]
  refine (List.Sublist.refl _).append ?_
  rw [← List.drop_drop]
  exact List.drop_sublist _ _
/-- A part of a right program is right. -/
theorem right_less {C D : List Cl} (hs : D.Sublist C) (h : (rightM C).2 = 0) : (rightM D).2 = 0 := by
  obtain ⟨h1, h2, h3⟩ := (right_zero C).1 h
  exact (right_zero D).2 ⟨by have := hs.length_le; omega, fun x hx => h2 x (hs.subset hx), fit_sub (flat_sub hs) h3⟩
end Go.Proofs.YtfmghkplafploaaGreat

set_option linter.unusedVariables false
set_option linter.unusedSimpArgs false
namespace Go.Proofs.YtfmghkplafploaaGreat
open Go Go.RowKit

/-- From a head to a literal of its body; is it Not? -/
abbrev Ed := UInt32 × UInt32 × Bool
def edgC (x : Cl) : List Ed := x.2.map fun y => (x.1.1, y.2.1, y.1)
def edL (C : List Cl) : List Ed := C.flatMap edgC
def prC (x : Cl) : List UInt32 := x.1.1 :: x.2.map fun y => y.2.1
def prL (C : List Cl) : List UInt32 := C.flatMap prC
def dl (b : Bool) : Nat := if b then 1 else 0
theorem dl_le (b : Bool) : dl b ≤ 1 := by cases b <;> decide
/-- Levels. -/
def Valid (E : List Ed) (f : UInt32 → Nat) : Prop := ∀ e ∈ E, f e.2.1 + dl e.2.2 ≤ f e.1
/-- The least ones. -/
structure Least (E : List Ed) (f : UInt32 → Nat) : Prop where
  valid : Valid E f
  le : ∀ g, Valid E g → ∀ p, f p ≤ g p
theorem Least.unique {E : List Ed} {f g : UInt32 → Nat} (h : Least E f) (k : Least E g) : f = g := by
  funext p
  have h1 := h.le g k.valid p
  have h2 := k.le f h.valid p
  omega
theorem min_ex (P : Nat → Prop) (h : ∃ n, P n) : ∃ n, P n ∧ ∀ m, P m → n ≤ m := by
  obtain ⟨n, hn⟩ := h
  induction n using Nat.strongRecOn with
  | _ n ih =>
    by_cases hm : ∃ m, m < n ∧ P m
    · obtain ⟨m, h1, h2⟩ := hm
      exact ih m h1 h2
    · refine ⟨n, hn, fun m hm2 => ?_⟩
      rcases Nat.lt_or_ge m n with h3 | h3
      · exact absurd ⟨m, h3, hm2⟩ hm
      · exact h3
theorem least_ex {E : List Ed} (h : ∃ g, Valid E g) : ∃ f, Least E f := by
  obtain ⟨g, hg⟩ := h
  have hmin : ∀ p : UInt32, ∃ n, (∃ g, Valid E g ∧ g p = n) ∧ ∀ m, (∃ g, Valid E g ∧ g p = m) → n ≤ m := fun p => min_ex (fun n => ∃ g, Valid E g ∧ g p = n) ⟨g p, g, hg, rfl⟩
  refine ⟨fun p => Classical.choose (hmin p), fun e he => ?_, fun k hk p => ?_⟩
  · obtain ⟨⟨k, hk, hkp⟩, _⟩ := Classical.choose_spec (hmin e.1)
    have h2 := (Classical.choose_spec (hmin e.2.1)).2 (k e.2.1) ⟨k, hk, rfl⟩
    have h3 := hk e he
    have h4 : Classical.choose (hmin e.1) = k e.1 := hkp.symm
    show Classical.choose (hmin e.2.1) + dl e.2.2 ≤ Classical.choose (hmin e.1)
    omega
  · exact (Classical.choose_spec (hmin p)).2 (k p) ⟨k, hk, rfl⟩
/-- There is no gap. -/
theorem Least.gap {E : List Ed} {f : UInt32 → Nat} (h : Least E f) {v : Nat} {p : UInt32} (hp : v + 1 ≤ f p) : ∃ e ∈ E, f e.2.1 = v := by
  apply Classical.byContradiction
  intro hno
  have hne : ∀ e ∈ E, f e.2.1 ≠ v := fun e he e2 => hno ⟨e, he, e2⟩
  have hv : Valid E (fun q => if v + 1 ≤ f q then f q - 1 else f q) := fun e he => by
    have h1 := h.valid e he
    have h2 := hne e he
    have h3 := dl_le e.2.2
    dsimp only
    split <;> split <;> omega
  have := h.le _ hv p
  rw [if_pos hp] at this
  omega
theorem pigeon : ∀ (P : List UInt32) (f : UInt32 → Nat) (S : List Nat), S.Nodup → (∀ v ∈ S, ∃ q ∈ P, f q = v) → S.length ≤ P.length
  | [], f, S, _, h => by
    cases S with
    | nil => exact Nat.le_refl _
    | cons v S => obtain ⟨q, hq, _⟩ := h v (by simp); cases hq
  | q :: P, f, S, hn, h => by
    have h1 := pigeon P f (S.erase (f q)) (hn.erase _) (fun v hv => by
      obtain ⟨h2, h3⟩ := (List.Nodup.mem_erase_iff hn).1 hv
      obtain ⟨r, hr, hrv⟩ := h v h3
      rcases List.mem_cons.1 hr with e | e
      · subst e; exact absurd hrv.symm h2
      · exact ⟨r, e, hrv⟩)
    have h2 : S.length ≤ (S.erase (f q)).length + 1 := by
      by_cases hm : f q ∈ S
      · rw [List.length_erase_of_mem hm]; omega
      · rw [List.erase_of_not_mem hm]; omega
    rw [List.length_cons]
    omega
/-- No level is above the number of predicates, less one. -/
theorem Least.lt {E : List Ed} {f : UInt32 → Nat} (h : Least E f) {P : List UInt32} (hP : ∀ e ∈ E, e.2.1 ∈ P) {p : UInt32} (hp : p ∈ P) : f p < P.length := by
  have := pigeon P f (List.range (f p + 1)) List.nodup_range (fun v hv => by
    rw [List.mem_range] at hv
    rcases Nat.lt_or_ge v (f p) with h1 | h1
    · obtain ⟨e, he, hev⟩ := h.gap (v := v) (p := p) (by omega)
      exact ⟨_, hP e he, hev⟩
    · exact ⟨p, hp, by omega⟩)
  rw [List.length_range] at this
  omega
theorem Least.zero {E : List Ed} {f : UInt32 → Nat} (h : Least E f) {p : UInt32} (hp : ∀ e ∈ E, e.1 ≠ p) : f p = 0 := by
  have hv : Valid E (fun q => if q = p then 0 else f q) := fun e he => by
    have h1 := h.valid e he
    have h2 := hp e he
    dsimp only
    rw [if_neg h2]
    split <;> omega
  have := h.le _ hv p
  rw [if_pos rfl] at this
  omega
/-- Each one is wanted. -/
theorem Least.wants {E : List Ed} {f : UInt32 → Nat} (h : Least E f) {p : UInt32} (hp : 0 < f p) : ∃ e ∈ E, e.1 = p ∧ f e.2.1 + dl e.2.2 = f p := by
  apply Classical.byContradiction
  intro hno
  have hv : Valid E (fun q => if q = p then f p - 1 else f q) := fun e he => by
    have h1 := h.valid e he
    have h2 : e.1 = p → f e.2.1 + dl e.2.2 ≠ f p := fun e1 e2 => hno ⟨e, he, e1, e2⟩
    dsimp only
    by_cases a : e.1 = p
    · have h3 := h2 a
      rw [a] at h1
      rw [if_pos a]
      by_cases b : e.2.1 = p
      · rw [if_pos b]
        rw [b] at h1 h3
        omega
      · rw [if_neg b]
        omega
    · rw [if_neg a]
      split
      · rename_i b; rw [b] at h1; omega
      · exact h1
  have := h.le _ hv p
  rw [if_pos rfl] at this
  omega
theorem edge_head {C : List Cl} {e : Ed} (h : e ∈ edL C) : e.1 ∈ prL C := by
  obtain ⟨x, hx, he⟩ := List.mem_flatMap.1 h
  obtain ⟨y, hy, rfl⟩ := List.mem_map.1 he
  exact List.mem_flatMap.2 ⟨x, hx, by unfold prC; simp⟩
theorem edge_body {C : List Cl} {e : Ed} (h : e ∈ edL C) : e.2.1 ∈ prL C := by
  obtain ⟨x, hx, he⟩ := List.mem_flatMap.1 h
  obtain ⟨y, hy, rfl⟩ := List.mem_map.1 he
  exact List.mem_flatMap.2 ⟨x, hx, by unfold prC; exact List.mem_cons_of_mem _ (List.mem_map.2 ⟨y, hy, rfl⟩)⟩

/-! ### Lists of levels -/
abbrev Lv := UInt32 × Nat
/-- A predicate's level in a list. -/
def lvO (X : List Lv) (p : UInt32) : Option Nat := (X.find? fun x => x.1 == p).map (·.2)
def lvN (X : List Lv) (p : UInt32) : Nat := (lvO X p).getD 0
theorem lvO_mem {X : List Lv} {p : UInt32} {v : Nat} (h : lvO X p = some v) : (p, v) ∈ X := by
  unfold lvO at h
  cases hf : X.find? fun x => x.1 == p with
  | none => rw [hf] at h; cases h
  | some x =>
    rw [hf] at h
    have h1 := List.find?_some hf
    have h2 := List.mem_of_find?_eq_some hf
    simp only [beq_iff_eq] at h1
    simp only [Option.map_some, Option.some.injEq] at h
    subst h1 h
    exact h2
theorem lvO_some {X : List Lv} {p : UInt32} (h : p ∈ X.map (·.1)) : ∃ v, lvO X p = some v := by
  unfold lvO
  cases hf : X.find? fun x => x.1 == p with
  | none =>
    obtain ⟨x, hx, rfl⟩ := List.mem_map.1 h
    have := List.find?_eq_none.1 hf x hx
    simp at this
  | some x => exact ⟨_, rfl⟩
theorem lvO_none {X : List Lv} {p : UInt32} (h : p ∉ X.map (·.1)) : lvO X p = none := by
  unfold lvO
  rw [List.find?_eq_none.2 fun x hx => by
    intro e
    simp only [beq_iff_eq] at e
    exact h (List.mem_map.2 ⟨x, hx, e⟩)]
  rfl
theorem lvN_mem {X : List Lv} {p : UInt32} (h : p ∈ X.map (·.1)) : (p, lvN X p) ∈ X := by
  obtain ⟨v, hv⟩ := lvO_some h
  unfold lvN
  rw [hv]
  exact lvO_mem hv
theorem lvO_of {X : List Lv} (hn : (X.map (·.1)).Nodup) {x : Lv} (h : x ∈ X) : lvO X x.1 = some x.2 := by
  induction X with
  | nil => cases h
  | cons y X ih =>
    unfold lvO
    rw [List.find?_cons]
    rcases List.mem_cons.1 h with rfl | h1
    · simp
    · rw [List.map_cons, List.nodup_cons] at hn
      have : (y.1 == x.1) = false := by
        rw [beq_eq_false_iff_ne]
        intro e
        exact hn.1 (e ▸ List.mem_map.2 ⟨x, h1, rfl⟩)
      rw [this]
      exact ih hn.2 h1
theorem lvN_of {X : List Lv} (hn : (X.map (·.1)).Nodup) {x : Lv} (h : x ∈ X) : lvN X x.1 = x.2 := by
  unfold lvN
  rw [lvO_of hn h]
  rfl
theorem set_fst {X : List Lv} {j : Nat} {x : Lv} {v : Nat} (hx : X[j]? = some x) : (X.set j (x.1, v)).map (·.1) = X.map (·.1) := by
  obtain ⟨hj, e⟩ := List.getElem?_eq_some_iff.1 hx
  refine List.ext_getElem (by simp) fun i h1 h2 => ?_
  simp only [List.getElem_map, List.getElem_set]
  split
  · rename_i h; subst h; rw [e]
  · rfl
/-- One of them raised. -/
theorem lvN_set {X : List Lv} (hn : (X.map (·.1)).Nodup) {j : Nat} {x : Lv} {v : Nat} (hx : X[j]? = some x) (q : UInt32) : lvN (X.set j (x.1, v)) q = if q = x.1 then v else lvN X q := by
  have hn' : ((X.set j (x.1, v)).map (·.1)).Nodup := by rw [set_fst hx]; exact hn
  obtain ⟨hj, e⟩ := List.getElem?_eq_some_iff.1 hx
  have hm : (x.1, v) ∈ X.set j (x.1, v) := List.mem_iff_getElem.2 ⟨j, by simpa using hj, by simp⟩
  split
  · rename_i h
    subst h
    exact lvN_of hn' hm
  · rename_i h
    by_cases hq : q ∈ X.map (·.1)
    · have h1 := lvN_mem hq
      obtain ⟨i, hi, he⟩ := List.mem_iff_getElem.1 h1
      have hij : j ≠ i := fun c => by subst c; rw [e] at he; exact h (by rw [he])
      have h2 : (q, lvN X q) ∈ X.set j (x.1, v) := List.mem_iff_getElem.2 ⟨i, by simpa using hi, by rw [List.getElem_set_ne hij]; exact he⟩
      exact lvN_of hn' h2
    · unfold lvN
      rw [lvO_none hq, lvO_none (by rw [set_fst hx]; exact hq)]
theorem sorted_nodup {P : List UInt32} (h : P.Pairwise (· < ·)) : P.Nodup := h.imp fun {a b} hab e => by subst e; exact (UInt32.lt_irrefl a) hab
theorem sorted_extU : ∀ {P Q : List UInt32}, P.Pairwise (· < ·) → Q.Pairwise (· < ·) → (∀ p, p ∈ P ↔ p ∈ Q) → P = Q
  | [], [], _, _, _ => rfl
  | [], q :: Q, _, _, h => by have := (h q).2 (by simp); cases this
  | p :: P, [], _, _, h => by have := (h p).1 (by simp); cases this
  | p :: P, q :: Q, hp, hq, h => by
    rw [List.pairwise_cons] at hp hq
    have hpq : p = q := by
      rcases List.mem_cons.1 ((h p).1 (by simp)) with e | e
      · exact e
      · rcases List.mem_cons.1 ((h q).2 (by simp)) with e2 | e2
        · exact e2.symm
        · exact absurd (UInt32.lt_trans (hq.1 p e) (hp.1 q e2)) (UInt32.lt_irrefl _)
    subst hpq
    have hmem : ∀ x, x ∈ P ↔ x ∈ Q := fun x => by
      have hx := h x
      simp only [List.mem_cons] at hx
      constructor
      · intro m
        rcases hx.1 (.inr m) with e | e
        · subst e; exact absurd (hp.1 x m) (UInt32.lt_irrefl _)
        · exact e
      · intro m
        rcases hx.2 (.inr m) with e | e
        · subst e; exact absurd (hq.1 x m) (UInt32.lt_irrefl _)
        · exact e
    rw [sorted_extU hp.2 hq.2 hmem]
/-- What Levels answers. -/
inductive LevTold (C : List Cl) : Nat → List Lv → Prop
  | wrong : (rightM C).2 ≠ 0 → LevTold C (rightM C).2 []
  | none : (rightM C).2 = 0 → (¬ ∃ f, Valid (edL C) f) → LevTold C 11 []
  | some {f : UInt32 → Nat} {L : List Lv} : (rightM C).2 = 0 → Least (edL C) f → (L.map (·.1)).Pairwise (· < ·) → (∀ p, p ∈ L.map (·.1) ↔ p ∈ prL C) → (∀ x ∈ L, x.2 = f x.1) → LevTold C 0 L
theorem rightM_err (C : List Cl) : (rightM C).2 ≠ 11 := by
  unfold rightM
  split
  · decide
  · generalize hr : C = R
    conv => lhs; rw [← hr]
    clear hr
    suffices h : ∀ (D R : List Cl) (i : Nat), (rightFrom D R i).2 ≠ 11 from h _ _ _
    intro D R
    induction R with
    | nil => intro i; exact (by decide : (0 : Nat) ≠ 11)
    | cons x R ih =>
      intro i
      by_cases hb : badAt D i x = 0
      · rw [rightFrom_ok hb]; exact ih _
      · rw [rightFrom_bad hb]
        show badAt D i x ≠ 11
        unfold badAt
        split
        · decide
        · split
          · decide
          · split <;> decide
theorem LevTold.unique {C : List Cl} {e e' : Nat} {L L' : List Lv} (h : LevTold C e L) (k : LevTold C e' L') : e = e' ∧ L = L' := by
  cases h with
  | wrong h1 =>
    cases k with
    | wrong _ => exact ⟨rfl, rfl⟩
    | none k1 _ => exact absurd k1 h1
    | some k1 _ _ _ _ => exact absurd k1 h1
  | none h1 h2 =>
    cases k with
    | wrong k1 => exact absurd h1 k1
    | none _ _ => exact ⟨rfl, rfl⟩
    | some _ k2 _ _ _ => exact absurd ⟨_, k2.valid⟩ h2
  | some h1 h2 h3 h4 h5 =>
    cases k with
    | wrong k1 => exact absurd h1 k1
    | none _ k2 => exact absurd ⟨_, h2.valid⟩ k2
    | some _ k2 k3 k4 k5 =>
      refine ⟨rfl, ?_⟩
      have hf := h2.unique k2
      subst hf
      have hm := sorted_extU h3 k3 fun p => (h4 p).trans (k4 p).symm
      refine List.ext_getElem (by have := congrArg List.length hm; simpa using this) fun i h1 h2 => ?_
      have e1 : L[i].1 = L'[i].1 := by
        have h7 : (L.map (·.1))[i]? = (L'.map (·.1))[i]? := by rw [hm]
        rw [List.getElem?_map, List.getElem?_map, List.getElem?_eq_getElem h1, List.getElem?_eq_getElem h2] at h7
        simpa using h7
      exact Prod.ext e1 (by rw [h5 _ (List.getElem_mem h1), k5 _ (List.getElem_mem h2), e1])
end Go.Proofs.YtfmghkplafploaaGreat

