/- Texts, packed: SfV SfM SfL SfA -/
import Derived.Test.YtfmghkplafploaaPwQ
import Derived.Maps.OwnSet
import Derived.Maps.OwnOps
import Derived.RangeFuncNested
import Derived.RangeFuncBound
import Derived.RangeFuncCalls
import Derived.RangeFuncLeaves
import Derived.Shelf.Abstract
import Derived.Shelf.RegionOpen
import Derived.WalkKit
import Derived.OwnWalkIn
import Derived.TacticsInMore
import Derived.LoopNIn
import Derived.LoopIn
set_option linter.unusedVariables false
set_option linter.unusedSimpArgs false
namespace Go.Proofs.Ytfmghkplafploaa
open Go Go.RowKit

def vlist (l : List Tm) : List UInt32 := (l.filter (·.1)).map (·.2)
theorem vlist_mem (l : List Tm) (v : UInt32) : v ∈ vlist l ↔ (true, v) ∈ l := by
  unfold vlist
  simp only [List.mem_map, List.mem_filter]
  constructor
  · rintro ⟨⟨b, x⟩, ⟨h1, h2⟩, rfl⟩
    dsimp only at h2
    subst h2
    exact h1
  · intro h
    exact ⟨(true, v), ⟨h, rfl⟩, rfl⟩
theorem vlist_le (l : List Tm) : (vlist l).length ≤ l.length := by
  unfold vlist
  rw [List.length_map]
  exact List.length_filter_le _ _
theorem vlist_yes {l : List Tm} {i : Nat} {x : UInt32} (h : l[i]? = some (true, x)) : vlist (l.take (i + 1)) = vlist (l.take i) ++ [x] := by
  unfold vlist
  rw [List.take_add_one, h]
  simp
theorem vlist_no {l : List Tm} {i : Nat} {x : UInt32} (h : l[i]? = some (false, x)) : vlist (l.take (i + 1)) = vlist (l.take i) := by
  unfold vlist
  rw [List.take_add_one, h]
  simp
theorem oneU (w : World) (x : UInt32) : OwU (w.alloc (.cells #[nv x] 25)) w.heap.size (some ⟨w.heap.size, 0, none⟩) 1 1 [x] := World.ownsRow_lit w #[nv x] 1 (Nat.le_refl _) (by decide) rfl
theorem OwU.later {w w' : World} {base c n : Nat} {A : Option Addr} {l : List UInt32} (h : OwU w base A c n l) (hb : Below w.heap.size w w') : OwU w' base A c n l := ownBelow h hb (Nat.le_refl _)
theorem OwU.low {w : World} {base c n : Nat} {A : Option Addr} {l : List UInt32} (h : OwU w base A c n l) {k : Nat} (hk : A.map (·.block) = some k) : base ≤ k ∧ k < w.heap.size := World.ownsRow.lt h k (by rw [ownBlk_slice]; exact hk)
theorem compU_any (A : Option Addr) (c n : Nat) (l : List UInt32) (w : World) (base : Nat) (h : OwU w base A c n l) (hn : n ≤ 6) :
    Calls Try.prog 20 #[.slice A n c] w fun e w' => ∃ (m : Nat) (l' : List UInt32), e = .returned (.slice A m c) ∧ m ≤ n ∧ (∀ v, v ∈ l' ↔ v ∈ l) ∧ RdU w' w'.heap.size A m l' ∧ Turn (fun k => A.map (·.block) = some k) w w' := by
  have hl := rdU_len h.rd
  by_cases h0 : n = 0
  · subst h0
    have HR := Lib.hid h.rd
    clear h
    go_enter Try.func20, Try.ntmps20
    repeat (first | go_skip | go_guarded | go_step)
    go_ret
    exact ⟨0, l, rfl, Nat.le_refl _, fun v => Iff.rfl, HR.out, Turn.refl _ _⟩
  · obtain ⟨g, rest, rfl, hb, hc, hm, hr, hbk⟩ := h.block (by omega)
    refine (compU_arr g c n l rest w hl hn hc hm hbk).mono ?_
    rintro e w' ⟨m, l', rfl, h1, h2, h3, h4⟩
    exact ⟨m, l', rfl, h1, h2, h3, h4.mono fun k _ e => by rw [e]; rfl⟩
set_option maxRecDepth 100000 in
set_option maxHeartbeats 4000000 in
theorem vars_any (p : UInt32) (A : Option Addr) (n c : Nat) (l : List Tm) (w : World) (h : RdT w w.heap.size A n l) (hn : n ≤ 6) :
    Calls Try.prog 42 #[.agg #[nv p, .slice A n c]] w fun e w' => ∃ (A' : Option Addr) (m c' : Nat) (vs : List UInt32), e = .returned (.slice A' m c') ∧ m ≤ 6 ∧ (∀ v, v ∈ vs ↔ (true, v) ∈ l) ∧ RdU w' w'.heap.size A' m vs ∧ (∀ k, A'.map (·.block) = some k → w.heap.size ≤ k) ∧ Below w.heap.size w w' := by
  have HL := Lib.hid (rdT_len h)
  obtain ⟨W, hW, hb, hbw⟩ : ∃ W, W = w.alloc (.cells #[nv p, .slice A n c] 28) ∧ Bk W w.heap.size 28 [nv p, .slice A n c] ∧ Below w.heap.size w W := ⟨_, rfl, Bk.new w _ _, (Below.refl _ _).alloc (Nat.le_refl _) _⟩
  have HR := Lib.hid ((h.below hbw).more hbw.size)
  have HW := Lib.hid hW
  have HB := Lib.hid hbw
  have c1 := hb.read (Below.refl _ _) 1 rfl
  clear h hW hb hbw
  go_enter Try.func42, Try.ntmps42
  go_upto_region 1 with (fail)
  rw [← HW.out]
  repeat (first | go_skip | go_guarded | go_step)
  clear c1
  go_loopw [3, 9] (fun lv q wr => ∃ (i : Nat) (Al : Option Addr) (ml cl : Nat), i ≤ n ∧ lv = .slice Al ml cl ∧ q = .int .i64 (i : Int) ∧ OwU wr W.heap.size Al cl ml (vlist (l.take i)) ∧ Below W.heap.size W wr) (fun _ q _ => n - (intOf q).toNat)
  case atStart => exact ⟨0, none, 0, 0, by omega, rfl, rfl, World.ownsRow_nil _ _ _ _, Below.refl _ _⟩
  case round =>
    rename World => wr
    obtain ⟨i, Al, ml, cl, hi, rfl, rfl, how, hbr⟩ := hrel
    have hml : ml ≤ 6 := by
      have h1 := rdU_len how.rd
      have h2 := vlist_le (l.take i)
      rw [List.length_take] at h2
      omega
    have HOW := Lib.hid how
    have HBR := Lib.hid hbr
    clear how hbr
    by_cases hlt : i < n
    · have hci : (i : Int) < (n : Int) := by omega
      obtain ⟨b, o, ⟨v, x⟩, hA, hbb, ht, hc0, hc1⟩ := rdT_at (HR.out.below HBR.out) hlt
      subst hA
      dsimp only at hc0 hc1
      have HT := Lib.hid ht
      clear ht
      obtain ⟨U, hU, hbU, hbu⟩ : ∃ U, U = wr.alloc (.cells #[.bool v, nv x] 126) ∧ Bk U wr.heap.size 126 [.bool v, nv x] ∧ Below wr.heap.size wr U := ⟨_, rfl, Bk.new wr _ _, (Below.refl _ _).alloc (Nat.le_refl _) _⟩
      have HU := Lib.hid hU
      have HOU := Lib.hid (HOW.out.later hbu)
      have HBU := Lib.hid (HBR.out.trans (hbu.mono HBR.out.size))
      have d0 := hbU.read (Below.refl _ _) 0 rfl
      have d1 := hbU.read (Below.refl _ _) 1 rfl
      clear hU hbU hbu
      go_upto_region 5 with (fail)
      rw [← HU.out]
      clear hc0 hc1 HU
      cases v with
      | false =>
        repeat (first | go_skip | go_guarded | go_step)
        go_roundw
        case rel => exact ⟨i + 1, Al, ml, cl, by omega, rfl, by go_num, by rw [vlist_no HT.out]; exact HOU.out, HBU.out⟩
        case measure => simp [intOf]; omega
      | true =>
        have HONE := Lib.hid (oneU U x).rd
        have hZ : Below U.heap.size U (U.alloc (.cells #[nv x] 25)) := (Below.refl _ _).alloc (Nat.le_refl _) _
        have HOZ := Lib.hid (HOU.out.later hZ)
        have HBZ := Lib.hid (HBU.out.trans (hZ.mono HBU.out.size))
        clear hZ
        repeat (first
          | (at_builtin; refine appU _ rfl (.tmp 15) (.tmp 18) rfl W.heap.size Al cl ml _ rfl HOZ.out _ _ 1 1 [x] rfl HONE.out (by omega) HBZ.out.size ?_
             intro A3 c3 Z hoZ hbZ
             have HO3 := Lib.hid hoZ
             have HB3 := Lib.hid (HBZ.out.trans hbZ)
             clear hoZ hbZ)
          | go_skip | go_guarded | go_step)
        go_roundw
        case rel => exact ⟨i + 1, A3, ml + 1, c3, by omega, rfl, by go_num, by rw [vlist_yes HT.out]; exact HO3.out, HB3.out⟩
        case measure => simp [intOf]; omega
    · obtain rfl : i = n := by omega
      have hci : ¬ (i : Int) < (i : Int) := by omega
      have HOL := Lib.hid (show OwU wr W.heap.size Al cl ml (vlist l) by have := HOW.out; rwa [List.take_of_length_le (by have := HL.out; omega)] at this)
      repeat (first | go_skip | go_guarded | go_step)
      refine (sortU_any Al cl ml _ wr W.heap.size HOL.out hml).mono ?_
      rintro e w1 ⟨rfl, l1, hp, ho1, ht1⟩
      have HB1 := Lib.hid (HBR.out.trans (ht1.below (B := W.heap.size) (fun y _ e => (HOL.out.low e).1) HBR.out.size))
      have HO1 := Lib.hid ho1
      have HP := Lib.hid hp
      clear ho1 hp ht1
      dsimp only
      repeat (first | go_skip | go_guarded | go_step)
      refine (compU_any Al cl ml _ w1 W.heap.size HO1.out hml).mono ?_
      rintro e w2 ⟨m, l2, rfl, hm, hmem, hrd, ht2⟩
      have HB2 := Lib.hid (HB1.out.trans (ht2.below (B := W.heap.size) (fun y _ e => (HO1.out.low e).1) HB1.out.size))
      have HM := Lib.hid hmem
      have HRD := Lib.hid hrd
      clear hmem hrd ht2
      dsimp only
      repeat (first | go_skip | go_guarded | go_step)
      go_ret
      exact ⟨Al, m, cl, l2, rfl, by omega, fun v => by rw [HM.out, HP.out.mem_iff, vlist_mem], HRD.out, fun k hk => Nat.le_trans HB.out.size (HO1.out.low hk).1, HB.out.trans (HB2.out.mono HB.out.size)⟩
end Go.Proofs.Ytfmghkplafploaa

set_option linter.unusedVariables false
set_option linter.unusedSimpArgs false
namespace Go.Proofs.Ytfmghkplafploaa
open Go Go.RowKit Go.Maps

abbrev LenF := UInt32 → Option Nat
def fitsB (f : LenF) (k : Key) : Bool := match f k.1 with | some m => decide (m = k.2) | none => true
def fitsF (f : LenF) (k : Key) : LenF := match f k.1 with | some _ => f | none => fun q => if q = k.1 then some k.2 else f q
def keyU (p : UInt32) : Lit := .int .u32 (p.toNat : Int)
theorem keyU_inj {a b : UInt32} (h : keyU a = keyU b) : a = b := by
  simp only [keyU, Lit.int.injEq, true_and] at h
  exact UInt32.toNat_inj.1 (by omega)
theorem keyU_law : Keyed Try.prog 25 := int_keyed Try.underlying25
theorem keyU_of (p : UInt32) : keyOf Try.prog 25 (nv p) = some (keyU p) := keyOf_int_mk Try.underlying25 (by
  have h := n32_lt p
  have e1 : IntKind.u32.min = 0 := rfl
  have e2 : IntKind.u32.max = 4294967295 := rfl
  simp only [Lit.wf, Bool.and_eq_true, decide_eq_true_eq]
  omega)
theorem zero_i64 (w : World) : (zeroValue 3).run Try.prog w = .ok (.int .i64 0) w := by kernel_rfl
/-- Block b is a map that tells of each predicate what f does; it was written at most M times. -/
def MapL (w : World) (b M : Nat) (f : LenF) : Prop :=
  ∃ (m : Nat) (D : DataW Unit), m ≤ M ∧ w.ownsMap Try.prog 25 (plainElem Try.prog 3) b m D ∧ ∀ p, has D (keyU p) = (f p).isSome ∧ ∀ k, f p = some k → ∀ z, D.atKey (keyU p) z = .lit (.int .i64 (k : Int))
theorem MapL.lt {w : World} {b M : Nat} {f : LenF} (h : MapL w b M f) : b < w.heap.size := by
  obtain ⟨m, D, _, h1, _⟩ := h
  exact h1.lt
theorem MapL.turn {G : Nat → Prop} {w w' : World} {b M : Nat} {f : LenF} (h : MapL w b M f) (ht : Turn G w w') (hn : ¬ G b) : MapL w' b M f := by
  obtain ⟨m, D, hm, ⟨es, clock, hb, h1⟩, h2⟩ := h
  exact ⟨m, D, hm, ⟨es, clock, (ht.block b (Array.getElem?_eq_some_iff.1 hb).1 hn).trans hb, h1⟩, h2⟩
theorem MapL.below {w w' : World} {b M : Nat} {f : LenF} (h : MapL w b M f) (hb : Below w.heap.size w w') : MapL w' b M f := h.turn (G := fun _ => False) (Turn.ofBelow hb) id
theorem MapL.more {w : World} {b M M' : Nat} {f : LenF} (h : MapL w b M f) (hM : M ≤ M') : MapL w b M' f := by
  obtain ⟨m, D, hm, h1, h2⟩ := h
  exact ⟨m, D, by omega, h1, h2⟩
theorem MapL.made (w : World) : MapL (w.alloc (.map #[] 0)) w.heap.size 0 (fun _ => none) :=
  ⟨0, .map [], Nat.le_refl _, World.ownsMap_made w _ _ _, fun p => ⟨rfl, fun k hk => by simp at hk⟩⟩
/-- 'n, is := m[p]': a predicate that is there. -/
theorem lookL_is {ops : Array Oper} {rest : List Oper} {o : Oper} {a : Act} {Q : Exit → Act → World → Prop} (w : World) (hg : o.guard = none) (m x : Operand) (hop : o.op = Op.lookup 63 m x true)
    (b M : Nat) (f : LenF) (p : UInt32) (k : Nat) (hm : a.eval m = .map (some b)) (hx : a.eval x = nv p) (h : MapL w b M f) (hf : f p = some k)
    (hK : wpList Try.prog ops Q rest (a.put o.dst (.tuple #[.int .i64 (k : Int), .bool true])) w) : wpList Try.prog ops Q (o :: rest) a w := by
  obtain ⟨_, D, _, h1, h2⟩ := h
  refine wpList_lookup_own_ok_int w hg m x _ hop 25 3 .i64 keyU_law Try.underlying63 Try.underlying3 (zero_i64 w) b _ D hm h1 (nv p) (keyU p) hx (keyU_of p) ?_
  intro c hc _
  rw [(h2 p).2 k hf] at hc
  rw [(h2 p).1, hf]
  simp only [DataW.lit.injEq, Lit.int.injEq, true_and] at hc
  subst hc
  exact hK
/-- .. one that is not. -/
theorem lookL_not {ops : Array Oper} {rest : List Oper} {o : Oper} {a : Act} {Q : Exit → Act → World → Prop} (w : World) (hg : o.guard = none) (m x : Operand) (hop : o.op = Op.lookup 63 m x true)
    (b M : Nat) (f : LenF) (p : UInt32) (hm : a.eval m = .map (some b)) (hx : a.eval x = nv p) (h : MapL w b M f) (hf : f p = none)
    (hK : wpList Try.prog ops Q rest (a.put o.dst (.tuple #[.int .i64 0, .bool false])) w) : wpList Try.prog ops Q (o :: rest) a w := by
  obtain ⟨_, D, _, h1, h2⟩ := h
  refine wpList_lookup_own_ok_int w hg m x _ hop 25 3 .i64 keyU_law Try.underlying63 Try.underlying3 (zero_i64 w) b _ D hm h1 (nv p) (keyU p) hx (keyU_of p) ?_
  intro c hc _
  have hh := (h2 p).1
  rw [hf] at hh
  rw [atKey_of_not_has (by simpa using hh)] at hc
  rw [hh]
  simp only [DataW.lit.injEq, Lit.int.injEq, true_and] at hc
  subst hc
  exact hK
/-- 'm[p] = n', of a new predicate. -/
theorem putL_new {ops : Array Oper} {rest : List Oper} {o : Oper} {a : Act} {Q : Exit → Act → World → Prop} (w : World) (hg : o.guard = none) (m x v : Operand) (hop : o.op = Op.mapUpdate 63 m x v)
    (b M n : Nat) (f : LenF) (p : UInt32) (hm : a.eval m = .map (some b)) (hx : a.eval x = nv p) (hv : a.eval v = .int .i64 (n : Int)) (h : MapL w b M f) (hf : f p = none) (hM : M ≤ 1000000000000000) (hn : n ≤ 1000000000)
    (hK : ∀ w', MapL w' b (M + 1) (fitsF f (p, n)) → w.grownBy w' (some b) → wpList Try.prog ops Q rest (a.put o.dst undef) w') : wpList Try.prog ops Q (o :: rest) a w := by
  obtain ⟨mm, D, hmm, h1, h2⟩ := h
  have hwf : (Lit.int .i64 (n : Int)).wf = true := by
    have e1 : IntKind.i64.min = -9223372036854775808 := rfl
    have e2 : IntKind.i64.max = 9223372036854775807 := rfl
    simp only [Lit.wf, Bool.and_eq_true, decide_eq_true_eq]
    omega
  refine wpList_mapUpdate_own w hg m x v _ hop 25 3 keyU_law Try.underlying63 (plainElem Try.prog 3) b _ D hm h1 (by simp only [maxLen]; omega) (nv p) _ (keyU p) hx hv (keyU_of p) (.lit (.int .i64 (n : Int))) [] (plainElem_int Try.underlying3 hwf) ?_
  intro w' h3 h4
  refine hK w' ⟨mm + 1, _, by omega, h3, fun q => ?_⟩ h4
  have e : fitsF f (p, n) q = if q = p then some n else f q := by unfold fitsF; rw [show f (p, n).1 = none from hf]
  rw [e]
  by_cases hq : q = p
  · subst hq
    rw [if_pos rfl]
    refine ⟨has_put_same (World.ownsMap.isMap h1) (by trivial) _, fun k hk z => ?_⟩
    simp only [Option.some.injEq] at hk
    subst hk
    exact atKey_put_same (World.ownsMap.isMap h1) (by trivial) _ z
  · have hne : keyU q ≠ keyU p := fun e => hq (keyU_inj e)
    rw [if_neg hq]
    refine ⟨by rw [has_put_other hne]; exact (h2 q).1, fun k hk z => ?_⟩
    rw [atKey_put_other hne]
    exact (h2 q).2 k hk z
set_option maxRecDepth 100000 in
set_option maxHeartbeats 4000000 in
theorem fits_any (b M : Nat) (f : LenF) (p : UInt32) (n : Nat) (w : World) (h : MapL w b M f) (hM : M ≤ 1000000000000000) (hn : n ≤ 1000000000) :
    Calls Try.prog 43 #[.map (some b), nv p, .int .i64 (n : Int)] w fun e w' => e = .returned (.bool (fitsB f (p, n))) ∧ MapL w' b (M + 1) (fitsF f (p, n)) ∧ w.grownBy w' (some b) := by
  have HM := Lib.hid h
  clear h
  cases hf : f p with
  | some k =>
    have HF := Lib.hid hf
    have HB := Lib.hid (show fitsB f (p, n) = decide (k = n) by unfold fitsB; rw [show f (p, n).1 = some k from hf])
    have HG := Lib.hid (show fitsF f (p, n) = f by unfold fitsF; rw [show f (p, n).1 = some k from hf])
    clear hf
    by_cases hkn : k = n
    · have hd : ((k : Int) == (n : Int)) = true := by rw [hkn]; simp
      have HD := Lib.hid (decide_eq_true hkn)
      clear hkn
      go_enter Try.func43, Try.ntmps43
      repeat (first | (at_lookup; refine lookL_is w rfl _ _ rfl b M f p k rfl rfl HM.out HF.out ?_) | go_skip | go_guarded | go_step)
      go_ret
      exact ⟨by rw [HB.out, HD.out]; rfl, by rw [HG.out]; exact HM.out.more (by omega), World.grownBy.refl _ _⟩
    · have hd : ((k : Int) == (n : Int)) = false := by rw [beq_eq_false_iff_ne]; omega
      have HD := Lib.hid (decide_eq_false hkn)
      clear hkn
      go_enter Try.func43, Try.ntmps43
      repeat (first | (at_lookup; refine lookL_is w rfl _ _ rfl b M f p k rfl rfl HM.out HF.out ?_) | go_skip | go_guarded | go_step)
      go_ret
      exact ⟨by rw [HB.out, HD.out]; rfl, by rw [HG.out]; exact HM.out.more (by omega), World.grownBy.refl _ _⟩
  | none =>
    have HF := Lib.hid hf
    have HB := Lib.hid (show fitsB f (p, n) = true by unfold fitsB; rw [show f (p, n).1 = none from hf])
    clear hf
    go_enter Try.func43, Try.ntmps43
    repeat (first
      | (at_lookup; refine lookL_not w rfl _ _ rfl b M f p rfl rfl HM.out HF.out ?_)
      | (at_mapUpdate; refine putL_new w rfl _ _ _ rfl b M n f p rfl rfl rfl HM.out HF.out hM hn ?_; intro w3 hm3 hg3)
      | go_skip | go_guarded | go_step)
    go_ret
    exact ⟨by rw [HB.out]; rfl, hm3, hg3⟩
end Go.Proofs.Ytfmghkplafploaa

set_option linter.unusedVariables false
set_option linter.unusedSimpArgs false
namespace Go.Proofs.Ytfmghkplafploaa
open Go Go.RowKit Go.Shelf
attribute [local go_sem] Oper.semAt_some

/-- What is yielded of a clause: all its atoms, each with whether it holds its variables. -/
def litE (p : UInt32) (s : SlA) (R : List SlA) (L : List Li) : List (Array Value) :=
  #[.agg #[nv p, s.val], .bool false] :: (L.zip R).map fun z => #[.agg #[nv z.1.2.1, z.2.val], .bool (!z.1.1)]
theorem literals_any (p : UInt32) (A : Option Addr) (n c : Nat) (A1 : Option Addr) (n1 c1 : Nat) (w : World) :
    Calls Try.prog 41 #[.agg #[nv p, .slice A n c, .slice A1 n1 c1]] w fun e w' => e = .returned (.func (.func 66) #[] #[.pointer (some ⟨w.heap.size, 0, none⟩)]) ∧ w' = w.alloc (.cells #[nv p, .slice A n c, .slice A1 n1 c1] 31) := by
  go_enter Try.func41, Try.ntmps41
  repeat (first | go_skip | go_guarded | go_step)
  go_ret
  exact ⟨rfl, rfl⟩
set_option maxRecDepth 100000 in
set_option maxHeartbeats 4000000 in
theorem lit1_in (F : Fence) (n : Nat) (hf : F.fn 66) (hro : F.round = none) (hn : 1 ≤ n) {α : Type} (encs : α → Array Value) (items : List α) (G : Nat → Prop)
    (p : UInt32) (A : Option Addr) (n0 c : Nat) (A1 : Option Addr) (n1 c1 : Nat) (R : List SlA) (L : List Li) (hit : items.map encs = litE p (A, n0, c) R L)
    (l Bn B : Nat) (hG : ¬ G Bn) (hGB : ∀ k, k < B → ¬ G k) (hBn1 : n1 ≤ 1000000) (J Jx : List α → World → Prop) (W : World) (hJ : AbidesFrom W.heap.size J)
    (hY : ∀ pre x W1, J pre W1 → pre.length < items.length → YieldAt F (n - 1) Try.prog l (encs x) W1 fun e W' =>
      (e = .returned (.bool true) ∧ J (pre ++ [x]) W' ∧ Turn G W1 W') ∨ (e = .returned (.bool false) ∧ Jx (pre ++ [x]) W'))
    (hBn : Bk W Bn 31 [nv p, .slice A n0 c, .slice A1 n1 c1]) (hB : B ≤ W.heap.size) (hR : RdL W B A1 n1 R L) (h0 : J [] W) :
    CallsIn F n Try.prog 66 #[.func (.yield l) #[] #[], .pointer (some ⟨Bn, 0, none⟩)] W fun e W' => (∃ v, e = .returned v) ∧
      ((∃ ys, ys = items ∧ J ys W') ∨ (∃ pre, pre <+: items ∧ Jx pre W')) := by
  have hlen : items.length = n1 + 1 := by
    have := congrArg List.length hit
    simp only [litE, List.length_map, List.length_cons, List.length_zip, hR.lenL, hR.lenR] at this
    omega
  have HIT := Lib.hid hit
  have HLEN := Lib.hid hlen
  obtain ⟨x0, hx0⟩ : ∃ x0, items[0]? = some x0 := ⟨_, List.getElem?_eq_getElem (by omega)⟩
  have he0 : encs x0 = #[.agg #[nv p, .slice A n0 c], .bool false] := by
    have := congrArg (fun l => l[0]?) hit
    simp only [List.getElem?_map, hx0, litE] at this
    simpa using this
  have HX0 := Lib.hid hx0
  have k0 := hBn.cell 0
  have k1 := hBn.cell 1
  simp only [List.getElem?_cons_zero, List.getElem?_cons_succ] at k0 k1
  obtain ⟨fn, tmps, assign, body, hy, hRd⟩ := hY [] x0 W h0 (by simp; omega)
  rw [he0] at hy
  have HB0 := Lib.hid hBn
  have HR0 := Lib.hid hR
  clear hit hlen hx0 he0 hBn hR
  refine callsIn_of_wp Try.func66 rfl hf ?_ hro
  simp only [Try.ntmps66, List.size_toArray, List.length_cons, List.length_nil, Nat.reduceAdd, Nat.reduceSub, Array.replicate_succ, Array.replicate_zero, List.push_toArray, List.append_toArray, List.nil_append, List.cons_append]
  gi_wp2
  refine hRd.mono ?_
  rintro e W3 (⟨rfl, hJ3, hk3⟩ | ⟨rfl, hJx3⟩)
  · have k2 := (hk3.bk HB0.out hG).cell 2
    simp only [List.getElem?_cons_zero, List.getElem?_cons_succ] at k2
    have HJ3 := Lib.hid (show J (items.take 1) W3 by rw [List.take_add_one, HX0.out]; exact hJ3)
    have HK3 := Lib.hid hk3
    clear hJ3 hk3 k0 k1 hy hRd
    gi_wp2
    clear k2
    gi_loopw [13] (fun q wr => ∃ k : Nat, k ≤ n1 ∧ q = .int .i64 (k : Int) ∧ J (items.take (k + 1)) wr ∧ RdL wr B A1 n1 R L ∧ W.heap.size ≤ wr.heap.size) (fun q _ => n1 - (intOf q).toNat)
    case atStart => exact ⟨0, by omega, rfl, HJ3.out, ⟨HR0.out.lenR, HR0.out.lenL, HK3.out.rd HR0.out.top hB hGB, fun i r x h1 h2 => HK3.out.rd (HR0.out.row i r x h1 h2) hB hGB⟩, HK3.out.size⟩
    case round =>
      obtain ⟨k, hk, rfl, hJk, hrk, hsz⟩ := hrel
      have HJK := Lib.hid hJk
      have HRK := Lib.hid hrk
      clear hJk hrk
      by_cases hlt : k < n1
      · have hci : (k : Int) < (n1 : Int) := by omega
        obtain ⟨b3, o3, g3, p3, l3, Ai, ni, ci, hA1, hb3, hx3, hr3, hd0, hd1, hd2, hrow⟩ := HRK.out.at2 hlt
        subst hA1
        obtain ⟨x, hx⟩ : ∃ x, items[k + 1]? = some x := ⟨_, List.getElem?_eq_getElem (by have := HLEN.out; omega)⟩
        have hz : (L.zip R)[k]? = some ((g3, p3, l3), (Ai, ni, ci)) := by
          rw [List.getElem?_zip_eq_some]
          exact ⟨hx3, hr3⟩
        have he : encs x = #[.agg #[nv p3, .slice Ai ni ci], .bool (!g3)] := by
          have := congrArg (fun l => l[k + 1]?) HIT.out
          simp only [List.getElem?_map, hx, litE, List.getElem?_cons_succ, hz] at this
          simpa using this
        obtain ⟨U, hU, hTU⟩ : ∃ U, U = wr.alloc (.cells #[.bool g3, nv p3, .slice Ai ni ci] 33) ∧ Turn G wr U := ⟨_, rfl, (Turn.refl G wr).alloc _⟩
        have hJU : J (items.take (k + 1)) U := by
          rw [hU]
          exact hJ _ _ _ none HJK.out (World.grownBy_alloc wr _ none) (fun r e => by cases e)
        obtain ⟨fn, tmps, assign, body, hy, hRd⟩ := hY (items.take (k + 1)) x U hJU (by rw [List.length_take]; have := HLEN.out; omega)
        rw [he, hU] at hy
        rw [hU] at hRd
        have HTU := Lib.hid (show Turn G wr (wr.alloc (.cells #[.bool g3, nv p3, .slice Ai ni ci] 33)) by rw [← hU]; exact hTU)
        have HX := Lib.hid (show items.take (k + 1 + 1) = items.take (k + 1) ++ [x] by rw [List.take_add_one, hx]; rfl)
        have hBw : B ≤ wr.heap.size := Nat.le_trans hB hsz
        clear hJU hU hTU hx3 hr3 hz he hx hrow
        gi_wp2
        refine hRd.mono ?_
        rintro e W4 (⟨rfl, hJ4, hk4⟩ | ⟨rfl, hJx4⟩)
        · have HJ4 := Lib.hid hJ4
          have HK4 := Lib.hid (HTU.out.trans hk4)
          clear hJ4 hk4 hy hRd hd0 hd1 hd2
          gi_wp2
          go_roundw
          case rel => exact ⟨k + 1, by omega, by go_num, by rw [HX.out]; exact HJ4.out, ⟨HRK.out.lenR, HRK.out.lenL, HK4.out.rd HRK.out.top hBw hGB, fun i r x h1 h2 => HK4.out.rd (HRK.out.row i r x h1 h2) hBw hGB⟩, Nat.le_trans hsz HK4.out.size⟩
          case measure => simp [intOf]; omega
        · clear hy hRd hd0 hd1 hd2
          gi_wp2
          refine bodyPost_ret (results_none rfl _ _ _) rfl ?_
          exact ⟨⟨_, rfl⟩, .inr ⟨_, by rw [← HX.out]; exact List.take_prefix _ _, hJx4⟩⟩
      · obtain rfl : n1 = k := by omega
        have hci : ¬ (n1 : Int) < (n1 : Int) := by omega
        have HJE := Lib.hid (show J items wr by have := HJK.out; rwa [List.take_of_length_le (by have := HLEN.out; omega)] at this)
        gi_wp2
        go_end0
        exact ⟨⟨_, rfl⟩, .inl HJE.out⟩
  · clear k0 k1 hy hRd
    gi_wp2
    refine bodyPost_ret (results_none rfl _ _ _) rfl ?_
    exact ⟨⟨_, rfl⟩, .inr ⟨_, by rw [List.nil_append, show [x0] = items.take 1 by rw [List.take_add_one, HX0.out]; rfl]; exact List.take_prefix _ _, hJx3⟩⟩
theorem lit_stops (F : Fence) (n : Nat) (hf : F.fn 66) (hro : F.round = none) (hn : 1 ≤ n) {α : Type} (encs : α → Array Value) (items : List α) (G : Nat → Prop)
    (p : UInt32) (A : Option Addr) (n0 c : Nat) (A1 : Option Addr) (n1 c1 : Nat) (R : List SlA) (L : List Li) (hit : items.map encs = litE p (A, n0, c) R L)
    (Bn B : Nat) (hG : ¬ G Bn) (hGB : ∀ k, k < B → ¬ G k) (hBn1 : n1 ≤ 1000000) (w : World) (hB : B ≤ w.heap.size)
    (hBn : Bk w Bn 31 [nv p, .slice A n0 c, .slice A1 n1 c1]) (hR : RdL w B A1 n1 R L) :
    SeqStopsK F n Try.prog 66 #[.pointer (some ⟨Bn, 0, none⟩)] encs (Turn G) (fun ys => ys = items) (fun pre => pre <+: items) items.length w := fun l J Jx W hW hJ _ hY h0 =>
  lit1_in F n hf hro hn encs items G p A n0 c A1 n1 c1 R L hit l Bn B hG hGB hBn1 J Jx W hJ hY (hBn.later hW) (Nat.le_trans hB hW.size) (hR.below (hW.mono hB)) h0
end Go.Proofs.Ytfmghkplafploaa

set_option linter.unusedVariables false
set_option linter.unusedSimpArgs false
namespace Go.Proofs.Ytfmghkplafploaa
open Go Go.RowKit Go.Shelf
attribute [local go_sem] Oper.semAt_some

/-- Keys that come one by one: whether all fit, and the lengths behind. -/
def runK (f : LenF) : List Key → Bool × LenF
  | [] => (true, f)
  | k :: r => if fitsB f k = true then runK (fitsF f k) r else (false, f)
theorem runK_snoc {f g : LenF} {l : List Key} (k : Key) (h : runK f l = (true, g)) : runK f (l ++ [k]) = if fitsB g k = true then (true, fitsF g k) else (false, g) := by
  induction l generalizing f with
  | nil =>
    simp only [runK, Prod.mk.injEq, true_and] at h
    subst h
    simp [runK]
  | cons a l ih =>
    simp only [runK, List.cons_append] at h ⊢
    by_cases ha : fitsB f a = true
    · rw [if_pos ha] at h ⊢
      exact ih h
    · rw [if_neg ha] at h
      cases h
theorem runK_false {f g : LenF} {l : List Key} (r : List Key) (h : runK f l = (false, g)) : runK f (l ++ r) = (false, g) := by
  induction l generalizing f with
  | nil => simp [runK] at h
  | cons a l ih =>
    simp only [runK, List.cons_append] at h ⊢
    by_cases ha : fitsB f a = true
    · rw [if_pos ha] at h ⊢
      exact ih h
    · rw [if_neg ha] at h ⊢
      exact h
/-- All atoms of a clause, as they are yielded. -/
def atE (p : UInt32) (s : SlA) (R : List SlA) (L : List Li) : List (AtR × Bool) := ((p, s), false) :: (L.zip R).map fun z => ((z.1.2.1, z.2), !z.1.1)
def encA (x : AtR × Bool) : Array Value := #[.agg #[nv x.1.1, x.1.2.val], .bool x.2]
theorem atE_enc (p : UInt32) (s : SlA) (R : List SlA) (L : List Li) : (atE p s R L).map encA = litE p s R L := by
  simp [atE, litE, encA]
theorem atE_keys {w : World} {B n1 : Nat} {A1 : Option Addr} {R : List SlA} {L : List Li} (h : RdL w B A1 n1 R L) (p : UInt32) (A : Option Addr) (n c : Nat) (l : List Tm) (hl : l.length = n) :
    (atE p (A, n, c) R L).map (fun x => keyR x.1) = keysC ((p, l), L) := by
  rw [← keys_atoms h p A n c l hl]
  simp [atE, atomsR]
theorem subs {β : Type} {P : β → Prop} : ∀ (l : List β), (∀ x ∈ l, P x) → ∃ items : List {x // P x}, items.map (·.1) = l
  | [], _ => ⟨[], rfl⟩
  | x :: l, h => by
    obtain ⟨i, hi⟩ := subs l fun y hy => h y (List.mem_cons_of_mem _ hy)
    exact ⟨⟨x, h x (List.mem_cons_self ..)⟩ :: i, by simp [hi]⟩
theorem ownFrom_turn {β : Type} {B : Nat} {I : β → World → Prop} (h : ∀ s W W', I s W → Turn (fun k => B ≤ k) W W' → I s W') : OwnFrom B I :=
  fun s W W' row hs hg hr => h s W W' hs (Turn.ofGrown hg fun k e => (hr k e).1)
theorem bk_kept {W W' : World} {g : Nat} {t : TypeId} {cs : List Value} {row : Option Nat} (h : Bk W g t cs) (hg : W.grownBy W' row) (hr : ∀ r, row = some r → ∃ o : Obj, W.heap[r]? = some o ∧ o.isCells = false) : Bk W' g t cs :=
  (hg.block g h.lt fun e => by
    obtain ⟨o, ho, hc⟩ := hr g e.symm
    rw [show W.heap[g]? = _ from h] at ho
    cases ho
    cases hc).trans h
theorem turnKb {G : Nat → Prop} (W : World) (l : Nat) (o o' : Obj) (hl : G l) : Turn G W (W.putObj l o') := Turn.ofGrown (grownBy_putObj' W l o') fun k e => by cases e; exact hl
set_option maxRecDepth 100000 in
set_option maxHeartbeats 4000000 in
theorem fitAll_any (b M : Nat) (f : LenF) (p : UInt32) (A : Option Addr) (n c : Nat) (l : List Tm) (A1 : Option Addr) (n1 c1 : Nat) (R : List SlA) (L : List Li) (B : Nat) (w : World) (hm : MapL w b M f) (hM : M + (n1 + 1) ≤ 1000000000000000)
    (h : RdT w B A n l) (h1 : RdL w B A1 n1 R L) (hB : B ≤ w.heap.size) (hbB : B ≤ b) (hn : n ≤ 1000000) (hn1 : n1 ≤ 1000000) (hk : ∀ x ∈ L, x.2.2.length ≤ 1000000) :
    Calls Try.prog 28 #[.map (some b), .agg #[nv p, .slice A n c, .slice A1 n1 c1]] w fun e w' =>
      e = .returned (.bool (runK f (keysC ((p, l), L))).1) ∧ MapL w' b (M + (n1 + 1)) (runK f (keysC ((p, l), L))).2 ∧ Turn (fun k => k = b) w w' := by
  have HM := Lib.hid hm
  have HR1 := Lib.hid h1
  have HKE := Lib.hid (atE_keys h1 p A n c l (rdT_len h))
  have hbw := hm.lt
  obtain ⟨items, hit⟩ : ∃ items : List {x : AtR × Bool // x.1.2.2.1 ≤ 1000000}, items.map (·.1) = atE p (A, n, c) R L := subs _ (fun x hx => by
    simp only [atE, List.mem_cons, List.mem_map] at hx
    rcases hx with rfl | ⟨⟨y, r⟩, hy, rfl⟩
    · exact hn
    · obtain ⟨i, hi⟩ := List.mem_iff_getElem?.1 hy
      rw [List.getElem?_zip_eq_some] at hi
      have h2 := rdT_len (h1.row i r y hi.2 hi.1)
      have h3 := hk y (List.mem_of_getElem? hi.1)
      dsimp only
      omega)
  have hlen : items.length = n1 + 1 := by
    have := congrArg List.length hit
    simp only [atE, List.length_map, List.length_cons, List.length_zip, h1.lenL, h1.lenR] at this
    omega
  have HIT := Lib.hid hit
  have HLEN := Lib.hid hlen
  obtain ⟨W0, hW0, bS, bC, bR, hB0, hsz⟩ : ∃ W0, W0 = (((w.alloc (.cells #[.map (some b)] 63)).alloc (.cells #[nv p, .slice A n c, .slice A1 n1 c1] 31)).alloc (.cells #[.bool false] 4)).alloc (.cells #[nv p, .slice A n c, .slice A1 n1 c1] 31) ∧
      Bk W0 w.heap.size 63 [.map (some b)] ∧ Bk W0 (w.heap.size + 1 + 1 + 1) 31 [nv p, .slice A n c, .slice A1 n1 c1] ∧ Bk W0 (w.heap.size + 1 + 1) 4 [.bool false] ∧ Below w.heap.size w W0 ∧ W0.heap.size = w.heap.size + 1 + 1 + 1 + 1 := by
    refine ⟨_, rfl, ?_, ?_, ?_, ?_, ?_⟩
    · exact (((Bk.new w _ _).later ((Below.refl _ _).alloc (Nat.le_refl _) _)).later ((Below.refl _ _).alloc (Nat.le_refl _) _)).later ((Below.refl _ _).alloc (Nat.le_refl _) _)
    · have := Bk.new (((w.alloc (.cells #[.map (some b)] 63)).alloc (.cells #[nv p, .slice A n c, .slice A1 n1 c1] 31)).alloc (.cells #[.bool false] 4)) 31 [nv p, .slice A n c, .slice A1 n1 c1]
      simpa only [World.size_alloc] using this
    · have := (Bk.new ((w.alloc (.cells #[.map (some b)] 63)).alloc (.cells #[nv p, .slice A n c, .slice A1 n1 c1] 31)) 4 [.bool false]).later ((Below.refl _ _).alloc (Nat.le_refl _) (.cells #[nv p, .slice A n c, .slice A1 n1 c1] 31))
      simpa only [World.size_alloc] using this
    · exact ((((Below.refl w.heap.size w).alloc (Nat.le_refl _) _).alloc (by simp) _).alloc (by simp; omega) _).alloc (by simp; omega) _
    · simp only [World.size_alloc]
  have HW0 := Lib.hid hW0
  have HB0 := Lib.hid hB0
  obtain ⟨G, hG⟩ : ∃ G : Nat → Prop, G = fun k => k = b ∨ k = w.heap.size + 1 + 1 ∨ w.heap.size + 1 + 1 + 1 + 1 ≤ k := ⟨_, rfl⟩
  have gb : G b := by rw [hG]; exact Or.inl rfl
  have gr : G (w.heap.size + 1 + 1) := by rw [hG]; exact Or.inr (Or.inl rfl)
  have gn : ∀ k, w.heap.size + 1 + 1 + 1 + 1 ≤ k → G k := fun k hk => by rw [hG]; exact Or.inr (Or.inr hk)
  have ng : ∀ k, k < w.heap.size + 1 + 1 + 1 + 1 → k ≠ b → k ≠ w.heap.size + 1 + 1 → ¬ G k := fun k h1 h2 h3 h4 => by rw [hG] at h4; rcases h4 with h | h | h <;> omega
  have hout : ∀ W, Turn G W0 W → Turn (fun k => k = b) w W := fun W ht =>
    ⟨ht.os.trans hB0.os, ht.tape.trans hB0.tape, ht.output.trans hB0.output, Nat.le_trans hB0.size ht.size, fun k hk hn => (ht.block k (by omega) (ng k (by omega) hn (by omega))).trans (hB0.block k hk)⟩
  have HOUT := Lib.hid hout
  have hm0 : MapL W0 b M f := hm.below hB0
  have hr0 : RdL W0 B A1 n1 R L := h1.below (hB0.mono hB)
  clear hit hlen hW0 hG hout hm h h1 hk
  refine (callsIn_wide (n := 6)).1 ?_
  refine callsIn_of_wp_marks Try.func28 rfl trivial ?_ rfl
  simp only [Try.ntmps28, List.size_toArray, List.length_cons, List.length_nil, Nat.reduceAdd, Nat.reduceSub, Array.replicate_succ, Array.replicate_zero, List.push_toArray, List.append_toArray, List.nil_append, List.cons_append]
  gi_wp2_with (refine ⟨trivial, ?_⟩; gi_at_call 41; refine (callsIn_wide.2 (literals_any p A n c A1 n1 c1 _)).mono ?_; rintro e w' ⟨rfl, rfl⟩)
  rw [← HW0.out]
  refine wpIn_rangeFunc_ownH (n := 6) rfl (by omega) (gf := 66) (lb := #[.pointer (some ⟨w.heap.size + 1 + 1 + 1, 0, none⟩)]) rfl trivial (enters_of Try.func66 (by kernel_rfl) rfl)
    (lit_stops Fence.wide 5 trivial rfl (by omega) (fun x : {x : AtR × Bool // x.1.2.2.1 ≤ 1000000} => encA x.1) items G p A n c A1 n1 c1 R L (by rw [← atE_enc, ← HIT.out, List.map_map]; rfl) (w.heap.size + 1 + 1 + 1) B (ng _ (by omega) (by omega) (by omega)) (fun k hk => ng k (by omega) (by omega) (by omega)) hn1 W0 (Nat.le_trans hB hB0.size) bC hr0)
    (fun h k => Turn.trans h k) (fun W l o o' hl _ _ _ => turnKb W l o o' (gn l (by omega))) (Below.refl _ _) (fun _ => rfl)
    (fun pre W => (∃ g, runK f (pre.map fun x => keyR x.1.1) = (true, g) ∧ MapL W b (M + pre.length) g) ∧ Bk W (w.heap.size + 1 + 1) 4 [.bool false] ∧ Turn G W0 W)
    (fun cc pre W => cc = .ret ∧ (∃ g, runK f (pre.map fun x => keyR x.1.1) = (false, g) ∧ MapL W b (M + pre.length) g) ∧ Bk W (w.heap.size + 1 + 1) 4 [.bool false] ∧ Turn G W0 W)
    (ownFrom_turn fun s W W' hs ht => by
      obtain ⟨⟨g, h1, h2⟩, h3, h4⟩ := hs
      exact ⟨⟨g, h1, h2.turn ht (by omega)⟩, ht.bk h3 (by omega), h4.trans (ht.mono fun k _ hk => gn k (by omega))⟩)
    (fun cc => ownFrom_turn fun s W W' hs ht => by
      obtain ⟨h0, ⟨g, h1, h2⟩, h3, h4⟩ := hs
      exact ⟨h0, ⟨g, h1, h2.turn ht (by omega)⟩, ht.bk h3 (by omega), h4.trans (ht.mono fun k _ hk => gn k (by omega))⟩)
    ⟨⟨f, rfl, hm0⟩, bR, Turn.refl _ _⟩
    (fun x a' W => ∃ Bx, w.heap.size + 1 + 1 + 1 + 1 ≤ Bx ∧ Bk W Bx 28 [nv x.1.1.1, x.1.1.2.val] ∧ a' = { tmps := #[.map (some b), .agg #[nv p, .slice A n c, .slice A1 n1 c1], .pointer (some ⟨w.heap.size, 0, none⟩), .pointer (some ⟨w.heap.size + 1, 0, none⟩), .pointer (some ⟨w.heap.size + 1 + 1, 0, none⟩), .pointer (some ⟨Bx, 0, none⟩), .agg #[nv p, .slice A n c, .slice A1 n1 c1], .func (.func 66) #[] #[.pointer (some ⟨w.heap.size + 1 + 1 + 1, 0, none⟩)], .agg #[nv x.1.1.1, x.1.1.2.val], .bool x.1.2, undef, undef, undef, undef, undef, undef, undef, undef], defers := [] })
    (fun x a' _ X Y row hs hg hr => by
      obtain ⟨Bx, h1, h2, h3⟩ := hs
      exact ⟨Bx, h1, bk_kept h2 hg (fun r e => (hr r e).2), h3⟩)
    ?assign ?body ?done ?stop
  case assign =>
    rintro l pre ⟨⟨⟨q, ⟨Aq, nq, cq⟩⟩, hq⟩, hx⟩ W K ⟨⟨g, h1, h2⟩, h3, h4⟩ hK
    have hsW := h4.size
    dsimp only [encA, SlA.val]
    gi_wp2
    exact hK _ _ ((KeepsOthers.alloc _ _).from _) ((Turn.refl G W).alloc _) ⟨⟨g, h1, h2.below ((Below.refl _ _).alloc (Nat.le_refl _) _)⟩, h3.later ((Below.refl _ _).alloc (Nat.le_refl _) _), h4.alloc _⟩ ⟨W.heap.size, by omega, Bk.new W _ _, rfl⟩
  case body =>
    rintro l pre ⟨⟨⟨q, ⟨Aq, nq, cq⟩⟩, hq⟩, hx⟩ a' W hl hrec ⟨⟨g, h1, h2⟩, h3, h4⟩ ⟨Bx, hBx, bX, rfl⟩ hlt
    have hsW := h4.size
    have cS := (h4.bk bS (ng _ (by omega) (by omega) (by omega))).cell 0
    have x0 := bX.cell 0
    have x1 := bX.cell 1
    dsimp only [SlA.val] at hx x0 x1
    simp only [List.getElem?_cons_zero, List.getElem?_cons_succ] at cS x0 x1
    have hcall := fits_any b (M + pre.length) g q nq W h2 (by have := HLEN.out; omega) (by omega)
    have HT := Lib.hid h4
    have H3 := Lib.hid h3
    have HL := Lib.hid h1
    clear h1 h2 h3 h4
    cases hfb : fitsB g (q, nq) with
    | false =>
      rw [hfb] at hcall
      have HF := Lib.hid hfb
      clear hfb
      gi_wp2_with (refine ⟨trivial, ?_⟩; gi_at_call 43; refine (CallsIn.inRound l (callsIn_wide.2 hcall)).mono ?_; rintro e w2 ⟨rfl, hm2, hg2⟩; have b2 := (Turn.ofGrown (G := fun k => k = b) hg2 fun k e => by cases e; rfl).bk H3.out (by omega); have c2 := b2.cell 0; have f2 := b2.frozen 0; simp only [List.getElem?_cons_zero] at c2)
      have ht2 : Turn G W w2 := Turn.ofGrown hg2 fun k e => by cases e; exact gb
      refine ⟨(KeepsFrom.of_grownBy hg2 (by intro j e; cases e; omega)).trans ((KeepsOthers.setCell _ _ _).from _), rfl, ⟨fitsF g (q, nq), ?_, ?_⟩, ?_, ?_⟩
      · rw [List.map_append, List.map_cons, List.map_nil, runK_snoc _ HL.out]
        have e : fitsB g (keyR (q, Aq, nq, cq)) = false := HF.out
        rw [e, if_neg (by decide)]
        have e2 : fitsF g (q, nq) = g := by
          have := HF.out
          unfold fitsB at this
          unfold fitsF
          split at this
          · rfl
          · cases this
        rw [e2]
      · have := hm2.turn ((Turn.refl (fun k => k = w.heap.size + 1 + 1) w2).setCell (p := ⟨w.heap.size + 1 + 1, 0, none⟩) (fun _ => rfl) (.bool false)) (by omega)
        rw [List.length_append, List.length_cons, List.length_nil]
        exact this
      · exact b2.set_ 0 (.bool false)
      · exact (HT.out.trans ht2).setCell (p := ⟨w.heap.size + 1 + 1, 0, none⟩) (fun _ => gr) _
    | true =>
      rw [hfb] at hcall
      have HF := Lib.hid hfb
      clear hfb
      gi_wp2_with (refine ⟨trivial, ?_⟩; gi_at_call 43; refine (CallsIn.inRound l (callsIn_wide.2 hcall)).mono ?_; rintro e w2 ⟨rfl, hm2, hg2⟩)
      have ht2 : Turn G W w2 := Turn.ofGrown hg2 fun k e => by cases e; exact gb
      refine ⟨KeepsFrom.of_grownBy hg2 (by intro j e; cases e; omega), ht2, ⟨fitsF g (q, nq), ?_, ?_⟩, ?_, HT.out.trans ht2⟩
      · rw [List.map_append, List.map_cons, List.map_nil, runK_snoc _ HL.out]
        have e : fitsB g (keyR (q, Aq, nq, cq)) = true := HF.out
        rw [e, if_pos rfl]
        rfl
      · rw [List.length_append, List.length_cons, List.length_nil]
        exact hm2
      · exact (Turn.ofGrown (G := fun k => k = b) hg2 fun k e => by cases e; rfl).bk H3.out (by omega)
  case done =>
    rintro D ys W hD rfl ⟨⟨g, h1, h2⟩, h3, h4⟩ hK
    have c2 := h3.cell 0
    have f2 := h3.frozen 0
    simp only [List.getElem?_cons_zero] at c2
    have hkeys : ys.map (fun x => keyR x.1.1) = keysC ((p, l), L) := by
      rw [← HKE.out, ← HIT.out, List.map_map]
      rfl
    rw [hkeys] at h1
    have H1 := Lib.hid h1
    have H3 := Lib.hid h3
    have HT := Lib.hid h4
    have hD4 := h4.size
    clear h1 hkeys h3 h4
    gi_wp2
    have hK2 : (W.setCell ⟨w.heap.size + 1 + 1, 0, none⟩ (.bool true)).heap[D]? = some (.deferred (some [])) := (KeepsOthers.setCell W ⟨w.heap.size + 1 + 1, 0, none⟩ (.bool true)).same D _ hK rfl
    have b3 := H3.out.set_ 0 (.bool true)
    have c3 := (bk_kept b3 (grownBy_putObj' _ D (.deferred none)) (fun r e => by cases e; exact ⟨_, hK2, rfl⟩)).cell 0
    simp only [List.set_cons_zero, List.getElem?_cons_zero] at c3
    refine ⟨by simp, .inl ⟨_, _, rfl, run_takeDeferred hK2, ?_⟩⟩
    refine ⟨.bool true, by simp [results, Try.f28, go_sem, c3], ?_, ?_, ?_⟩
    · rw [H1.out]
    · rw [H1.out]
      have hl2 : M + ys.length = M + (n1 + 1) := by rw [HLEN.out]
      rw [← hl2]
      exact (h2.turn ((Turn.refl (fun k => k = w.heap.size + 1 + 1) W).setCell (p := ⟨w.heap.size + 1 + 1, 0, none⟩) (fun _ => rfl) (.bool true)) (by omega)).turn (turnKb (G := fun k => k = D) _ D (.deferred (some [])) (.deferred none) rfl) (by omega)
    · exact HOUT.out _ ((HT.out.setCell (p := ⟨w.heap.size + 1 + 1, 0, none⟩) (fun _ => gr) _).trans (turnKb _ D (.deferred (some [])) (.deferred none) (gn D (by omega))))
  case stop =>
    rintro D cc pre W hD hpre ⟨rfl, ⟨g, h1, h2⟩, h3, h4⟩ hK
    have H1 := Lib.hid h1
    have H3 := Lib.hid h3
    have HT := Lib.hid h4
    clear h1 h3 h4
    gi_wp2
    have c3 := (bk_kept H3.out (grownBy_putObj' _ D (.deferred none)) (fun r e => by cases e; exact ⟨_, hK, rfl⟩)).cell 0
    simp only [List.getElem?_cons_zero] at c3
    have hkeys : runK f (keysC ((p, l), L)) = (false, g) := by
      obtain ⟨r, hr⟩ := hpre
      rw [← HKE.out, ← HIT.out, ← hr, List.map_append, List.map_append, List.map_map]
      exact runK_false _ H1.out
    have hpl := hpre.length_le
    refine ⟨by simp, .inl ⟨_, _, rfl, run_takeDeferred hK, ?_⟩⟩
    refine ⟨.bool false, by simp [results, Try.f28, go_sem, c3], ?_, ?_, ?_⟩
    · rw [hkeys]
    · rw [hkeys]
      exact (h2.turn (turnKb (G := fun k => k = D) _ D (.deferred (some [])) (.deferred none) rfl) (by omega)).more (by have := HLEN.out; omega)
    · exact HOUT.out _ (HT.out.trans (turnKb _ D (.deferred (some [])) (.deferred none) (gn D (by omega))))
end Go.Proofs.Ytfmghkplafploaa

