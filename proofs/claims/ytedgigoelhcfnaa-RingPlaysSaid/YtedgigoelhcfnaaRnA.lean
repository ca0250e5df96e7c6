/- Layer 18 (ring), the document's ring in memory: entries, place. -/
import Derived.Test.YtedgigoelhcfnaaRnM
import Derived.Test.YtedgigoelhcfnaaAid
import Derived.Test.YtedgigoelhcfnaaBlk
import Derived.Test.YtedgigoelhcfnaaChecked
import Derived.Maps.StringElems
import Derived.Test.YtedgigoelhcfnaaFp
import Derived.Test.YtedgigoelhcfnaaRows
import Derived.Great.BuildSlice
import Derived.Deep.QuietTactic
import Derived.BigQuiet
import Derived.WalkKit
set_option linter.unusedVariables false
set_option linter.unusedSimpArgs false
namespace Go.Proofs.Ytedgigoelhcfnaa
open Go Go.RowKit

abbrev nr (x : UInt32) : Value := .int .u32 (x.toNat : Int)
def bsOf (k : List UInt8) : ByteArray := ⟨k.toArray⟩
theorem bsOf_size (k : List UInt8) : (bsOf k).size = k.length := by simp [bsOf, ByteArray.size]
def enC (e : RgE) : List Value := [nr e.1, .string (bsOf e.2)]
theorem enC_len (K : List RgE) : (K.flatMap enC).length = K.length * 2 := by
  induction K with
  | nil => rfl
  | cons x X ih => rw [List.flatMap_cons, List.length_append, ih, List.length_cons]; simp [enC]; omega
theorem enC_one (K : List RgE) : ∀ u ∈ K.flatMap enC, u.oneCell' = true := by
  intro u hu
  obtain ⟨x, _, hx⟩ := List.mem_flatMap.1 hu
  simp only [enC, List.mem_cons, List.not_mem_nil, or_false] at hx
  rcases hx with rfl | rfl <;> rfl
theorem enC_cons (x : RgE) (X : List RgE) : (x :: X).flatMap enC = nr x.1 :: .string (bsOf x.2) :: X.flatMap enC := rfl
theorem enC_set (X : List RgE) (i : Nat) (x : RgE) (hi : i < X.length) : ((X.flatMap enC).set (i * 2) (nr x.1)).set (i * 2 + 1) (.string (bsOf x.2)) = (X.set i x).flatMap enC := by
  induction X generalizing i with
  | nil => simp at hi
  | cons y X ih =>
    cases i with
    | zero => rfl
    | succ i =>
      rw [enC_cons, List.set_cons_succ, enC_cons, show (i + 1) * 2 = i * 2 + 1 + 1 by omega, List.set_cons_succ, List.set_cons_succ, List.set_cons_succ, List.set_cons_succ, ih i (by simpa using hi)]
theorem enInfo : (Try.prog.info? 43).map (fun i => (i.zero, i.size, i.bytes)) = some (some (.agg #[.int .u32 0, .string ByteArray.empty]), 2, 24) := by kernel_rfl
def OwEn (w : World) (base : Nat) (A : Option Addr) (c n : Nat) (K : List RgE) : Prop := w.ownsRow base 43 2 (.slice A n c) n (K.flatMap enC)
abbrev RdEn (w : World) (B : Nat) (A : Option Addr) (n : Nat) (K : List RgE) : Prop := Rd w B 2 A n (K.flatMap enC)
theorem ownBlkR (A : Option Addr) (n c : Nat) : (Value.slice A n c).ownBlock = A.map (·.block) := by cases A <;> rfl
section
variable {w w' : World} {B base c n : Nat} {A : Option Addr} {K : List RgE}
theorem rdEn_len (h : RdEn w B A n K) : K.length = n := by
  have := h.1
  rw [enC_len] at this
  omega
theorem OwEn.rd (h : OwEn w base A c n K) : RdEn w w.heap.size A n K := Rd.ofOwn h
theorem OwEn.len (h : OwEn w base A c n K) : K.length = n := rdEn_len h.rd
theorem OwEn.later (h : OwEn w base A c n K) (hb : Below w.heap.size w w') : OwEn w' base A c n K := ownBelow h hb (Nat.le_refl _)
theorem OwEn.low (h : OwEn w base A c n K) {k : Nat} (hk : A.map (·.block) = some k) : base ≤ k ∧ k < w.heap.size := World.ownsRow.lt h k (by rw [ownBlkR]; exact hk)
theorem OwEn.cap (h : OwEn w base A c n K) : n ≤ c := by
  obtain ⟨A1, c1, hv, hl⟩ := ownForm h
  cases hv
  exact hl
theorem rdEn_at (h : RdEn w B A n K) {i : Nat} (hi : i < n) : ∃ b o x, A = some ⟨b, o, none⟩ ∧ b < B ∧ K[i]? = some x ∧ w.cell? ⟨b, o + i * 2, none⟩ = some (nr x.1) ∧ w.cell? ⟨b, o + i * 2 + 1, none⟩ = some (.string (bsOf x.2)) := by
  obtain ⟨b, o, e, hb, hc⟩ := h.2 (by omega)
  have hl := rdEn_len h
  have hx : K[i]? = some (K[i]'(by omega)) := List.getElem?_eq_getElem _
  have at2 : ∀ (X : List RgE) (i : Nat) (x : RgE), X[i]? = some x → (X.flatMap enC)[i * 2]? = some (nr x.1) ∧ (X.flatMap enC)[i * 2 + 1]? = some (.string (bsOf x.2)) := fun X => by
    induction X with
    | nil => intro i x h; simp at h
    | cons y X ih =>
      intro i x h
      cases i with
      | zero => simp only [List.getElem?_cons_zero, Option.some.injEq] at h; subst h; exact ⟨rfl, rfl⟩
      | succ i =>
        rw [List.getElem?_cons_succ] at h
        have := ih i x h
        rw [show (i + 1) * 2 + 1 = (i * 2 + 1) + 1 + 1 by omega, show (i + 1) * 2 = i * 2 + 1 + 1 by omega]
        exact this
  obtain ⟨f0, f1⟩ := at2 K i _ hx
  exact ⟨b, o, _, e, hb, hx, hc _ _ f0, hc _ _ f1⟩
theorem OwEn.block (h : OwEn w base A c n K) (hn : 0 < n) :
    ∃ g rest, A = some ⟨g, 0, none⟩ ∧ base ≤ g ∧ n ≤ c ∧ c ≤ maxLen ∧ rest.length = c * 2 - n * 2 ∧ Bk w g 43 (K.flatMap enC ++ rest) := by
  have hl := h.len
  rcases h.2 with ⟨_, h0⟩ | ⟨g, cap, cur, hv, hb, hg, h1, h2, h3, h4⟩
  · omega
  · cases hv
    refine ⟨g, cur.toList.drop (n * 2), rfl, hb, h1, h2, by simp; omega, ?_⟩
    unfold Bk
    rw [← h4, List.take_append_drop]
    exact hg
theorem OwEn.ofBlock {g : Nat} {rest : List Value} (hb : base ≤ g) (hl : K.length = n) (hr : rest.length = c * 2 - n * 2) (hn : n ≤ c) (hc : c ≤ maxLen) (h : Bk w g 43 (K.flatMap enC ++ rest)) : OwEn w base (some ⟨g, 0, none⟩) c n K := by
  have h2 := enC_len K
  refine ⟨by omega, .inr ⟨g, c, _, rfl, hb, h, hn, hc, by simp only [List.size_toArray, List.length_append]; omega, ?_⟩⟩
  rw [List.toList_toArray, List.take_append_of_le_length (by omega), List.take_of_length_le (by omega)]
theorem OwEn.set2 (h : OwEn w base A c n K) {i : Nat} (hi : i < n) (y : RgE) :
    ∃ (g : Nat), A = some ⟨g, 0, none⟩ ∧ base ≤ g ∧ g < w.heap.size ∧ w.frozen? ⟨g, i * 2, none⟩ = false ∧ w.frozen? ⟨g, i * 2 + 1, none⟩ = false ∧
      OwEn ((w.setCell ⟨g, i * 2, none⟩ (nr y.1)).setCell ⟨g, i * 2 + 1, none⟩ (.string (bsOf y.2))) base A c n (K.set i y) ∧ Turn (fun k => k = g) w ((w.setCell ⟨g, i * 2, none⟩ (nr y.1)).setCell ⟨g, i * 2 + 1, none⟩ (.string (bsOf y.2))) := by
  have hl := h.len
  have hll := enC_len K
  obtain ⟨g, rest, rfl, hb, hc, hm, hr, hbk⟩ := h.block (by omega)
  refine ⟨g, rfl, hb, hbk.lt, hbk.frozen _, hbk.frozen _, ?_, ((Turn.refl (fun k => k = g) w).setCell (p := ⟨g, i * 2, none⟩) (fun _ => rfl) _).setCell (p := ⟨g, i * 2 + 1, none⟩) (fun _ => rfl) _⟩
  have h2 := (hbk.set_ (i * 2) (nr y.1)).set_ (i * 2 + 1) (.string (bsOf y.2))
  rw [List.set_append_left _ _ (by omega), List.set_append_left _ _ (by rw [List.length_set]; omega), enC_set K i y (by omega)] at h2
  exact OwEn.ofBlock hb (by simp [hl]) hr hc hm h2
end
theorem appEn {ops : Array Oper} {rest : List Oper} {o : Oper} {a : Act} {Q : Exit → Act → World → Prop} (w : World) (hgd : o.guard = none) (p x : Operand)
    (ho : o.op = .call { callee := .builtin .append, args := #[p, x], argTypes := #[28, 28] })
    (base : Nat) (A0 : Option Addr) (c0 n : Nat) (X : List RgE) (hv : a.eval p = .slice A0 n c0) (hown : OwEn w base A0 c0 n X)
    (B : Nat) (A : Option Addr) (m c : Nat) (Y : List RgE) (hx : a.eval x = .slice A m c) (hr : RdEn w B A m Y) (hb : n + m ≤ 1000000000) (hbase : base ≤ w.heap.size)
    (h : ∀ A' c' w', OwEn w' base A' c' (n + m) (X ++ Y) → Turn (fun k => A0.map (·.block) = some k) w w' → (A'.map (·.block) = A0.map (·.block) ∨ A'.map (·.block) = some w.heap.size) → wpList Try.prog ops Q rest (a.put o.dst (.slice A' (n + m) c')) w') : wpList Try.prog ops Q (o :: rest) a w := by
  obtain ⟨i0, hi, hz0, hz1, hz2⟩ := info_parts enInfo
  refine wpList_app w hgd p x 28 ho base 43 i0 _ 2 24 Try.underlying28 hi hz0 hz1 hz2 rfl (by decide) _ n _ hv hown B A m c _ hx hr (enC_one Y) (by simp only [maxLen]; omega) (by omega) hbase ?_
  intro A' c' w' h4 h2 h3
  rw [ownBlkR, ownBlkR] at h3
  exact h A' c' w' (by unfold OwEn; rw [List.flatMap_append]; exact h4) (Turn.ofGrown h2 fun k hk => by rw [ownBlkR] at hk; exact hk) h3
/-- The document's ring: a struct in block b with the entries' slice. -/
structure Rf (w : World) (base b : Nat) (A : Option Addr) (c : Nat) (K : List RgE) : Prop where
  box : Bk w b 30 [.slice A K.length c]
  own : OwEn w base A c K.length K
  hb : base ≤ b
  ne : ¬ A.map (·.block) = some b
theorem Rf.later {w w' : World} {base b c : Nat} {A : Option Addr} {K : List RgE} (h : Rf w base b A c K) (hb : Below w.heap.size w w') : Rf w' base b A c K := ⟨h.box.later hb, h.own.later hb, h.hb, h.ne⟩
theorem Rf.turn {G : Nat → Prop} {w w' : World} {base b c : Nat} {A : Option Addr} {K : List RgE} (h : Rf w base b A c K) (T : Turn G w w') (h1 : ¬ G b) (h2 : ∀ k, A.map (·.block) = some k → ¬ G k) : Rf w' base b A c K :=
  ⟨T.bk h.box h1, T.own h.own (fun k hk => h2 k (by rw [ownBlkR] at hk; exact hk)), h.hb, h.ne⟩
def rgIxF (u : UInt32) : List RgE → Nat → Int
  | [], _ => -1
  | e :: r, i => if e.1 = u then (i : Int) else rgIxF u r (i + 1)
/-- Where somebody's stands; -1: nowhere. -/
def rgIx (K : List RgE) (u : UInt32) : Int := rgIxF u K 0
theorem rgIxF_cases (u : UInt32) : ∀ (K : List RgE) (i : Nat), (rgIxF u K i = -1 ∧ K.find? (fun e => e.1 == u) = none) ∨ ∃ (j : Nat) (x : RgE), K[j]? = some x ∧ x.1 = u ∧ rgIxF u K i = ((i + j : Nat) : Int) ∧ K.find? (fun e => e.1 == u) = some x
  | [], i => .inl ⟨rfl, rfl⟩
  | e :: r, i => by
    unfold rgIxF
    rw [List.find?_cons]
    by_cases h : e.1 = u
    · rw [if_pos h, show (e.1 == u) = true from beq_iff_eq.2 h]
      exact .inr ⟨0, e, rfl, h, rfl, rfl⟩
    · rw [if_neg h, show (e.1 == u) = false from beq_eq_false_iff_ne.2 h]
      rcases rgIxF_cases u r (i + 1) with ⟨h1, h2⟩ | ⟨j, x, h1, h2, h3, h4⟩
      · exact .inl ⟨h1, h2⟩
      · exact .inr ⟨j + 1, x, h1, h2, by rw [h3]; congr 1; omega, h4⟩
theorem rgIx_cases (K : List RgE) (u : UInt32) : (rgIx K u = -1 ∧ rgAt K u = none) ∨ ∃ (j : Nat) (x : RgE), K[j]? = some x ∧ x.1 = u ∧ rgIx K u = (j : Int) ∧ rgAt K u = some x.2 := by
  rcases rgIxF_cases u K 0 with ⟨h1, h2⟩ | ⟨j, x, h1, h2, h3, h4⟩
  · exact .inl ⟨h1, by unfold rgAt; rw [h2]; rfl⟩
  · exact .inr ⟨j, x, h1, h2, by show rgIxF u K 0 = _; rw [h3, Nat.zero_add], by unfold rgAt; rw [h4]; rfl⟩
theorem u32ne2 {a b : UInt32} (h : ¬ a = b) : ((a.toNat : Int) == (b.toNat : Int)) = false := by
  rw [beq_eq_false_iff_ne]; intro e; exact h (UInt32.toNat_inj.1 (by omega))
set_option maxRecDepth 100000 in
set_option maxHeartbeats 1000000 in
theorem rPlace_any (base b : Nat) (A : Option Addr) (c : Nat) (K : List RgE) (u : UInt32) (w : World) (h : Rf w base b A c K) (hn : K.length ≤ 1000000) :
    Calls Try.prog 17 #[.pointer (some ⟨b, 0, none⟩), nr u] w fun e w' => e = .returned (.int .i64 (rgIx K u)) ∧ w' = w := by
  have k0 := h.box.cell 0
  have HX := Lib.hid h.own.rd
  obtain ⟨n, hnl⟩ : ∃ n, n = K.length := ⟨_, rfl⟩
  rw [← hnl] at hn HX k0
  have HL := Lib.hid hnl
  simp only [List.getElem?_cons_zero] at k0
  clear h hnl
  go_enter Try.func17, Try.ntmps17
  repeat (first | go_skip | go_guarded | go_step)
  go_loopw [5] (fun q wr => ∃ i : Nat, i ≤ n ∧ q = .int .i64 (i : Int) ∧ rgIx K u = rgIxF u (K.drop i) i ∧ wr = w) (fun q _ => n - (intOf q).toNat)
  case atStart => exact ⟨0, by omega, rfl, rfl, rfl⟩
  case round =>
    obtain ⟨i, hi, rfl, hix, hw⟩ := hrel
    rw [hw]
    have HIX := Lib.hid hix
    clear hix hw
    by_cases hlt : i < n
    · have hci : (i : Int) < (n : Int) := by omega
      have hi0 : (0 : Int) ≤ (i : Int) := by omega
      obtain ⟨b1, o1, x, hA, hb, hx, hc0, hc1⟩ := rdEn_at HX.out hlt
      obtain ⟨p, k⟩ := x
      dsimp only at hc0 hc1
      have HD := Lib.hid (show K.drop i = (p, k) :: K.drop (i + 1) by
        obtain ⟨q1, q2⟩ := List.getElem?_eq_some_iff.1 hx
        rw [List.drop_eq_getElem_cons q1, q2])
      subst hA
      clear hx hb hc1
      by_cases hp : p = u
      · have hd : ((p.toNat : Int) == (u.toNat : Int)) = true := by rw [hp]; simp
        have HP := Lib.hid hp
        clear hp
        repeat (first | go_skip | go_guarded | go_step)
        go_ret
        exact ⟨by rw [HIX.out, HD.out]; unfold rgIxF; rw [if_pos HP.out]; rfl, rfl⟩
      · have hd := u32ne2 hp
        have HP := Lib.hid hp
        clear hp
        repeat (first | go_skip | go_guarded | go_step)
        go_roundw
        case rel => exact ⟨i + 1, by omega, by go_num, by rw [HIX.out, HD.out]; conv => lhs; unfold rgIxF; rw [if_neg HP.out], (by first | rfl | trivial)⟩
        case measure => simp [intOf]; omega
    · obtain rfl : n = i := by omega
      have hci : ¬ (n : Int) < (n : Int) := by omega
      repeat (first | go_skip | go_guarded | go_step)
      go_ret
      exact ⟨by rw [HIX.out, List.drop_of_length_le (by rw [← HL.out]; exact Nat.le_refl _)]; rfl, rfl⟩
end Go.Proofs.Ytedgigoelhcfnaa
