/- Layer 11 (safe): lists of clauses in memory; the document's Atoms. -/
import Derived.Test.YtggnhgfickkgdaaSaD
import Derived.Great.BuildSlice
set_option linter.unusedVariables false
set_option linter.unusedSimpArgs false
namespace Go.Proofs.Ytggnhgfickkgdaa
open Go Go.RowKit

abbrev ClA := SlA × SlA × List SlA
def clC (z : Cl × ClA) : List Value := [nv z.1.1.1, z.2.1.val, z.2.2.1.val]
/-- A slice of clauses that is read. -/
structure RdCs (w : World) (B : Nat) (A : Option Addr) (n : Nat) (Q : List ClA) (C : List Cl) : Prop where
  lenQ : Q.length = n
  lenC : C.length = n
  top : Rd w B 3 A n ((C.zip Q).flatMap clC)
  row : ∀ (i : Nat) (q : ClA) (x : Cl), Q[i]? = some q → C[i]? = some x → RdT w B q.1.1 q.1.2.1 x.1.2 ∧ RdL w B q.2.1.1 q.2.1.2.1 q.2.2 x.2
section
variable {w w' : World} {B n : Nat} {A : Option Addr} {Q : List ClA} {C : List Cl}
theorem RdCs.below (h : RdCs w B A n Q C) (hb : Below B w w') : RdCs w' B A n Q C :=
  ⟨h.lenQ, h.lenC, h.top.below hb, fun i q x h1 h2 => ⟨(h.row i q x h1 h2).1.below hb, (h.row i q x h1 h2).2.below hb⟩⟩
theorem RdCs.more {B' : Nat} (h : RdCs w B A n Q C) (hB : B ≤ B') : RdCs w B' A n Q C :=
  ⟨h.lenQ, h.lenC, h.top.more hB, fun i q x h1 h2 => ⟨(h.row i q x h1 h2).1.more hB, (h.row i q x h1 h2).2.more hB⟩⟩
theorem RdCs.at_ (h : RdCs w B A n Q C) {i : Nat} (hi : i < n) :
    ∃ b o p l L A0 n0 c0 A1 n1 c1 R, A = some ⟨b, o, none⟩ ∧ b < B ∧ C[i]? = some ((p, l), L) ∧ Q[i]? = some ((A0, n0, c0), (A1, n1, c1), R) ∧ w.cell? ⟨b, o + i * 3, none⟩ = some (nv p) ∧ w.cell? ⟨b, o + i * 3 + 1, none⟩ = some (.slice A0 n0 c0) ∧ w.cell? ⟨b, o + i * 3 + 2, none⟩ = some (.slice A1 n1 c1) ∧ RdT w B A0 n0 l ∧ RdL w B A1 n1 R L := by
  obtain ⟨b, o, e, hb, hc⟩ := h.top.2 (by omega)
  have h1 : Q[i]? = some (Q[i]'(by rw [h.lenQ]; exact hi)) := List.getElem?_eq_getElem _
  have h2 : C[i]? = some (C[i]'(by rw [h.lenC]; exact hi)) := List.getElem?_eq_getElem _
  generalize Q[i]'(by rw [h.lenQ]; exact hi) = q at h1
  generalize C[i]'(by rw [h.lenC]; exact hi) = x at h2
  obtain ⟨⟨A0, n0, c0⟩, ⟨A1, n1, c1⟩, R⟩ := q
  obtain ⟨⟨p, l⟩, L⟩ := x
  have hz : (C.zip Q)[i]? = some (((p, l), L), ((A0, n0, c0), (A1, n1, c1), R)) := by
    rw [List.getElem?_zip_eq_some]
    exact ⟨h2, h1⟩
  have hl : ∀ x : Cl × ClA, (clC x).length = 3 := fun _ => rfl
  have f0 := flat_at clC 3 hl hz 0 (by omega)
  have f1 := flat_at clC 3 hl hz 1 (by omega)
  have f2 := flat_at clC 3 hl hz 2 (by omega)
  have hr := h.row i _ _ h1 h2
  exact ⟨b, o, p, l, L, A0, n0, c0, A1, n1, c1, R, e, hb, h2, h1, hc _ _ f0, hc _ _ f1, hc _ _ f2, hr.1, hr.2⟩
end
/-! ### Rows of atoms of the call's own -/
abbrev AtR := UInt32 × SlA
def atC (x : AtR) : List Value := [nv x.1, x.2.val]
theorem atC_len (X : List AtR) : (X.flatMap atC).length = X.length * 2 := by
  induction X with
  | nil => rfl
  | cons x X ih => rw [List.flatMap_cons, List.length_append, ih, List.length_cons]; simp [atC]; omega
theorem atC_one (X : List AtR) : ∀ u ∈ X.flatMap atC, u.oneCell' = true := by
  intro u hu
  obtain ⟨x, _, hx⟩ := List.mem_flatMap.1 hu
  simp only [atC, List.mem_cons, List.not_mem_nil, or_false] at hx
  rcases hx with rfl | rfl <;> rfl
def OwAt (w : World) (base : Nat) (A : Option Addr) (c n : Nat) (X : List AtR) : Prop := w.ownsRow base 33 2 (.slice A n c) n (X.flatMap atC)
theorem OwAt.len {w : World} {base c n : Nat} {A : Option Addr} {X : List AtR} (h : OwAt w base A c n X) : X.length = n := by
  have := h.1
  rw [atC_len] at this
  omega
theorem OwAt.rd {w : World} {base c n : Nat} {A : Option Addr} {X : List AtR} (h : OwAt w base A c n X) : Rd w w.heap.size 2 A n (X.flatMap atC) := Rd.ofOwn h
theorem OwAt.later {w w' : World} {base c n : Nat} {A : Option Addr} {X : List AtR} (h : OwAt w base A c n X) (hb : Below w.heap.size w w') : OwAt w' base A c n X := ownBelow h hb (Nat.le_refl _)
theorem OwAt.one (w : World) (p : UInt32) (A : Option Addr) (n c : Nat) : OwAt (w.alloc (.cells #[nv p, .slice A n c] 33)) w.heap.size (some ⟨w.heap.size, 0, none⟩) 1 1 [(p, A, n, c)] := World.ownsRow_lit w #[nv p, .slice A n c] 1 (Nat.le_refl _) (by simp [maxLen]) rfl
theorem OwAt.mono {w : World} {base base' c n : Nat} {A : Option Addr} {X : List AtR} (h : OwAt w base A c n X) (hb : base' ≤ base) : OwAt w base' A c n X := by
  refine ⟨h.1, ?_⟩
  rcases h.2 with h2 | ⟨g, cap, cur, hv, hg, r⟩
  · exact .inl h2
  · exact .inr ⟨g, cap, cur, hv, Nat.le_trans hb hg, r⟩
theorem ownBlk_slice (A : Option Addr) (n c : Nat) : (Value.slice A n c).ownBlock = A.map (·.block) := by cases A <;> rfl
theorem OwAt.low {w : World} {base c n : Nat} {A : Option Addr} {X : List AtR} (h : OwAt w base A c n X) {k : Nat} (hk : A.map (·.block) = some k) : base ≤ k ∧ k < w.heap.size := World.ownsRow.lt h k (by rw [ownBlk_slice]; exact hk)
theorem atInfo : (Try.prog.info? 33).map (fun i => (i.zero, i.size, i.bytes)) = some (some (.agg #[.int .u32 0, .slice none 0 0]), 2, 32) := by kernel_rfl
theorem appA {ops : Array Oper} {rest : List Oper} {o : Oper} {a : Act} {Q : Exit → Act → World → Prop} (w : World) (hgd : o.guard = none) (p x : Operand)
    (ho : o.op = .call { callee := .builtin .append, args := #[p, x], argTypes := #[57, 57] })
    (base : Nat) (A0 : Option Addr) (c0 n : Nat) (X : List AtR) (hv : a.eval p = .slice A0 n c0) (hown : OwAt w base A0 c0 n X)
    (B : Nat) (A : Option Addr) (m c : Nat) (Y : List AtR) (hx : a.eval x = .slice A m c) (hr : Rd w B 2 A m (Y.flatMap atC)) (hb : n + m ≤ 1000000000000) (hbase : base ≤ w.heap.size)
    (h : ∀ A' c' w', OwAt w' base A' c' (n + m) (X ++ Y) → Turn (fun k => A0.map (·.block) = some k) w w' → (A'.map (·.block) = A0.map (·.block) ∨ A'.map (·.block) = some w.heap.size) → wpList Try.prog ops Q rest (a.put o.dst (.slice A' (n + m) c')) w') : wpList Try.prog ops Q (o :: rest) a w := by
  obtain ⟨i0, hi, hz0, hz1, hz2⟩ := info_parts atInfo
  refine wpList_app w hgd p x 57 ho base 33 i0 _ 2 32 Try.underlying57 hi hz0 hz1 hz2 rfl (by decide) _ n _ hv hown B A m c _ hx hr (atC_one Y) (by simp only [maxLen]; omega) (by omega) hbase ?_
  intro A' c' w' h4 h2 h3
  rw [ownBlk_slice, ownBlk_slice] at h3
  exact h A' c' w' (by unfold OwAt; rw [List.flatMap_append]; exact h4) (Turn.ofGrown h2 fun k hk => by rw [ownBlk_slice] at hk; exact hk) h3
theorem RdL.at2 {w : World} {B n : Nat} {A : Option Addr} {R : List SlA} {L : List Li} (h : RdL w B A n R L) {i : Nat} (hi : i < n) :
    ∃ b o g p l Ai ni ci, A = some ⟨b, o, none⟩ ∧ b < B ∧ L[i]? = some (g, p, l) ∧ R[i]? = some (Ai, ni, ci) ∧ w.cell? ⟨b, o + i * 3, none⟩ = some (.bool g) ∧ w.cell? ⟨b, o + i * 3 + 1, none⟩ = some (nv p) ∧ w.cell? ⟨b, o + i * 3 + 2, none⟩ = some (.slice Ai ni ci) ∧ RdT w B Ai ni l := by
  obtain ⟨b, o, e, hb, hc⟩ := h.top.2 (by omega)
  have h1 : R[i]? = some (R[i]'(by rw [h.lenR]; exact hi)) := List.getElem?_eq_getElem _
  have h2 : L[i]? = some (L[i]'(by rw [h.lenL]; exact hi)) := List.getElem?_eq_getElem _
  generalize R[i]'(by rw [h.lenR]; exact hi) = r at h1
  generalize L[i]'(by rw [h.lenL]; exact hi) = x at h2
  obtain ⟨Ai, ni, ci⟩ := r
  obtain ⟨g, p, l⟩ := x
  have hz : (L.zip R)[i]? = some ((g, p, l), (Ai, ni, ci)) := by
    rw [List.getElem?_zip_eq_some]
    exact ⟨h2, h1⟩
  have hl : ∀ x : Li × SlA, (liC x).length = 3 := fun _ => rfl
  have f0 := flat_at liC 3 hl hz 0 (by omega)
  have f1 := flat_at liC 3 hl hz 1 (by omega)
  have f2 := flat_at liC 3 hl hz 2 (by omega)
  exact ⟨b, o, g, p, l, Ai, ni, ci, e, hb, h2, h1, hc _ _ f0, hc _ _ f1, hc _ _ f2, h.row i _ _ h1 h2⟩
/-- All atoms of a clause, as slices. -/
def atomsR (p : UInt32) (s : SlA) (R : List SlA) (L : List Li) : List AtR := (p, s) :: (L.zip R).map fun z => (z.1.2.1, z.2)
set_option maxRecDepth 100000 in
set_option maxHeartbeats 2000000 in
theorem rAtoms_any (p : UInt32) (A : Option Addr) (n c : Nat) (A1 : Option Addr) (n1 c1 : Nat) (R : List SlA) (L : List Li) (w : World) (h1 : RdL w w.heap.size A1 n1 R L) (hn1 : n1 ≤ 1000000) :
    Calls Try.prog 25 #[.agg #[nv p, .slice A n c, .slice A1 n1 c1]] w fun e w' => ∃ A' c', e = .returned (.slice A' (n1 + 1) c') ∧ OwAt w' w.heap.size A' c' (n1 + 1) (atomsR p (A, n, c) R L) ∧ Below w.heap.size w w' := by
  have HL1 := Lib.hid h1.lenL
  have HLR := Lib.hid h1.lenR
  obtain ⟨W, hW, hb, hbw⟩ := box3 w p (.slice A n c) (.slice A1 n1 c1) 36
  obtain ⟨W0, hW0, hO, hb0⟩ : ∃ W0, W0 = W.alloc (.cells #[nv p, .slice A n c] 33) ∧ OwAt W0 W.heap.size (some ⟨W.heap.size, 0, none⟩) 1 1 [(p, A, n, c)] ∧ Below W.heap.size W W0 := ⟨_, rfl, OwAt.one W p A n c, (Below.refl _ _).alloc (Nat.le_refl _) _⟩
  have HW := Lib.hid hW
  have HW0 := Lib.hid hW0
  have HB := Lib.hid hb
  have HBW := Lib.hid hbw
  have HO := Lib.hid hO
  have HB0 := Lib.hid hb0
  have HR1 := Lib.hid ((h1.below hbw).more hbw.size)
  have k0 := hb.read (Below.refl _ _) 0 rfl
  have k1 := hb.read (Below.refl _ _) 1 rfl
  clear hW hW0 hb hO h1 hbw hb0
  go_enter Try.func25, Try.ntmps25
  go_upto_region 1 with (fail)
  rw [← HW.out]
  go_upto_region 2 with (fail)
  rw [← HW0.out]
  clear k0 k1
  repeat (first | go_skip | go_guarded | go_step)
  go_loopw [3, 4] (fun lv q wr => ∃ (i : Nat) (Al : Option Addr) (cl : Nat), i ≤ n1 ∧ lv = .slice Al (i + 1) cl ∧ q = .int .i64 (i : Int) ∧ OwAt wr W.heap.size Al cl (i + 1) ((p, A, n, c) :: ((L.zip R).take i).map fun z => (z.1.2.1, z.2)) ∧ Below W.heap.size W wr) (fun _ q _ => n1 - (intOf q).toNat)
  case atStart => exact ⟨0, _, 1, by omega, rfl, rfl, HO.out, HB0.out⟩
  case round =>
    rename World => wr
    obtain ⟨i, Al, cl, hi, rfl, rfl, how, hbr⟩ := hrel
    have HOW := Lib.hid how
    have HBR := Lib.hid hbr
    clear how hbr
    have e2 := HB.out.read HBR.out 2 rfl
    by_cases hlt : i < n1
    · have hci : (i : Int) < (n1 : Int) := by omega
      obtain ⟨b3, o3, g3, p3, l3, Ai, ni, ci, hA1, hb3, hx3, hr3, hd0, hd1, hd2, hrow⟩ := (HR1.out.below HBR.out).at2 hlt
      subst hA1
      have hz : (L.zip R)[i]? = some ((g3, p3, l3), (Ai, ni, ci)) := by
        rw [List.getElem?_zip_eq_some]
        exact ⟨hx3, hr3⟩
      have HZT := Lib.hid (show ((L.zip R).take (i + 1)).map (fun z => ((z.1.2.1, z.2) : AtR)) = ((L.zip R).take i).map (fun z => (z.1.2.1, z.2)) ++ [(p3, Ai, ni, ci)] by rw [List.take_add_one, hz, List.map_append]; rfl)
      have hZ : Below wr.heap.size wr (wr.alloc (.cells #[nv p3, .slice Ai ni ci] 33)) := (Below.refl _ _).alloc (Nat.le_refl _) _
      have HOZ := Lib.hid (HOW.out.later hZ)
      have HBZ := Lib.hid (HBR.out.trans (hZ.mono HBR.out.size))
      have HONE := Lib.hid (OwAt.one wr p3 Ai ni ci).rd
      clear hx3 hr3 hz hrow hZ
      repeat (first
        | (at_builtin; refine appA _ rfl (.tmp 15) (.tmp 22) rfl W.heap.size Al cl (i + 1) _ rfl HOZ.out _ _ 1 1 [(p3, Ai, ni, ci)] rfl HONE.out (by omega) HBZ.out.size ?_
           intro A3 c3 Z hoZ htZ hfZ
           have HO3 := Lib.hid hoZ
           have HB3 := Lib.hid (HBZ.out.trans (htZ.below (B := W.heap.size) (fun y _ e => (HOZ.out.low e).1) HBZ.out.size))
           clear hoZ htZ hfZ e2 hd0 hd1 hd2)
        | go_skip | go_guarded | go_step)
      go_roundw
      case rel => exact ⟨i + 1, A3, c3, by omega, rfl, by go_num, by rw [HZT.out]; exact HO3.out, HB3.out⟩
      case measure => simp [intOf]; omega
    · obtain rfl : n1 = i := by omega
      have hci : ¬ (n1 : Int) < (n1 : Int) := by omega
      have HFULL := Lib.hid (show OwAt wr W.heap.size Al cl (n1 + 1) (atomsR p (A, n, c) R L) by
        have h := HOW.out
        rw [List.take_of_length_le (by rw [List.length_zip, HL1.out, HLR.out, Nat.min_self]; exact Nat.le_refl _)] at h
        exact h)
      repeat (first | go_skip | go_guarded | go_step)
      go_ret
      exact ⟨Al, cl, rfl, HFULL.out.mono HBW.out.size, HBW.out.trans (HBR.out.mono HBW.out.size)⟩
end Go.Proofs.Ytggnhgfickkgdaa
