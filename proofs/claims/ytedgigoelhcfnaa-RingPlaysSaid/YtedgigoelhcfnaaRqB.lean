/- Layer 18 (ring), the landed program: maps.Keys of the map, its iterator; slices.AppendSeq and slices.Collect over it. -/
import Derived.Test.YtedgigoelhcfnaaRqA
import Derived.Sort.MapsRangeIn
import Derived.RangeFuncNested
import Derived.RangeFuncBound
import Derived.RangeFuncCalls
import Derived.RangeFuncLeaves
import Derived.Shelf.Abstract
import Derived.Shelf.RegionOpen
import Derived.WalkKit
import Derived.OwnWalkIn
import Derived.TacticsInMore
import Derived.RegionIn
import Derived.LoopNIn
import Derived.LoopIn
set_option linter.unusedVariables false
set_option linter.unusedSimpArgs false
namespace Go.Proofs.Ytedgigoelhcfnaa
open Go Go.RowKit Go.Maps Go.Shelf
attribute [local go_sem] Oper.semAt_some

/-- What has come of a map's keys: none twice; just those that are no longer to come. -/
def CameR (D : DataW Value) (left : Lit → Bool) (ys : List UInt32) : Prop := ys.Nodup ∧ ∀ u, u ∈ ys ↔ (has D (keyR u) = true ∧ left (keyR u) = false)
theorem CameR.start (D : DataW Value) : CameR D (has D) [] := ⟨List.nodup_nil, fun u => by cases has D (keyR u) <;> simp⟩
theorem CameR.step {D : DataW Value} {left : Lit → Bool} {ys : List UInt32} {x : UInt32} (h : CameR D left ys) (h1 : left (keyR x) = true) (h2 : has D (keyR x) = true) : CameR D (fun z => left z && !z.sameKey (keyR x)) (ys ++ [x]) := by
  have hno : x ∉ ys := fun q => by
    have := ((h.2 x).1 q).2
    rw [h1] at this
    cases this
  refine ⟨List.nodup_append.2 ⟨h.1, by simp, fun a ha b hb e => ?_⟩, fun u => ?_⟩
  · rw [List.mem_singleton] at hb
    exact hno (by rw [← hb, ← e]; exact ha)
  · rw [List.mem_append, List.mem_singleton, h.2 u]
    by_cases hu : u = x
    · subst hu
      have : (keyR u).sameKey (keyR u) = true := WideAt.sameKey_self (by trivial)
      simp [this, h2]
    · have : (keyR u).sameKey (keyR x) = false := by
        cases hs : (keyR u).sameKey (keyR x)
        · rfl
        · exact absurd (keyR_inj (WideAt.sameKey_eq hs)) hu
      simp [this, hu]
/-- All keys, each once. -/
def AllR (K : List RgE) (ys : List UInt32) : Prop := ys.Nodup ∧ ∀ u, u ∈ ys ↔ u ∈ K.map (·.1)
def encR (u : UInt32) : Array Value := #[nr u]
set_option maxRecDepth 100000 in
set_option maxHeartbeats 2000000 in
theorem rKeys1_in (F : Fence) (n : Nat) (hf : F.fn 24) (hro : F.round = none) (hn : 1 ≤ n) (l Bm b : Nat) (O : Nat → Prop) (K : List RgE) (hr : (K.map (·.1)).Pairwise (· < ·)) (J Jx : List UInt32 → World → Prop) (W : World) (hJ : AbidesFrom W.heap.size J)
    (hY : ∀ pre x W1, J pre W1 → pre.length < K.length → YieldAt F (n - 1) Try.prog l (encR x) W1 fun e W' =>
      (e = .returned (.bool true) ∧ J (pre ++ [x]) W' ∧ KeepsWalks W1 W') ∨ (e = .returned (.bool false) ∧ Jx (pre ++ [x]) W'))
    (hm : W.cell? ⟨Bm, 0, none⟩ = some (.map (some b))) (h : MapK W b O K) (h0 : J [] W) :
    CallsIn F n Try.prog 24 #[.func (.yield l) #[] #[], .pointer (some ⟨Bm, 0, none⟩)] W fun e W' => (∃ v, e = .returned v) ∧
      ((∃ ys, AllR K ys ∧ J ys W') ∨ (∃ pre, True ∧ Jx pre W')) := by
  obtain ⟨m, D, _, hown, hh, _⟩ := h
  have HSZ := Lib.hid (sizeK hown hh hr)
  have HALL := Lib.hid (show ∀ left ys, CameR D left ys → (∀ kl, left kl = false) → AllR K ys from fun left ys hC hl => ⟨hC.1, fun u => by
    rw [hC.2 u, hh u, hl]
    cases hq : rgAt K u with
    | none => exact ⟨fun h => (by cases h.1), fun h => absurd h (rgAt_none.1 hq)⟩
    | some k => exact ⟨fun _ => List.mem_map.2 ⟨_, rgAt_mem hq, rfl⟩, fun _ => ⟨rfl, rfl⟩⟩⟩)
  clear hh hr
  refine callsIn_of_wp Try.func24 rfl hf ?_ hro
  simp only [Try.ntmps24, List.size_toArray, List.length_cons, List.length_nil, Nat.reduceAdd, Nat.reduceSub, Array.replicate_succ, Array.replicate_zero, List.push_toArray, List.append_toArray, List.nil_append, List.cons_append]
  gi_wp2_with (first
    | (gi_at_range; refine wpListIn_range_own _ rfl _ 46 rfl 31 32 keyR_law Try.underlying46 _ b m _ rfl hown ?_; intro w0 hrg0 hg0 hs0)
    | gi_in)
  go_frame
  gi_loopw [3] (fun _ wr => ∃ (left : Lit → Bool) (cnt : Nat) (ys : List UInt32), wr.ranges Try.prog 31 slcE b W.heap.size m D left cnt ∧ ys.length + cnt ≤ K.length ∧ CameR D left ys ∧ J ys wr)
    (fun _ wr => wr.rangeLeft b W.heap.size)
  case atStart =>
    exact ⟨_, _, [], hrg0, by rw [HSZ.out]; simp, CameR.start D, hJ [] W w0 none h0 hg0 (fun r e => by cases e)⟩
  case round =>
    obtain ⟨left, cnt, ys, hrg, hcs, hC, hJs⟩ := hrel
    gi_wp2_with (first
      | (gi_at_next; refine wpListIn_next_ranges _ rfl _ rfl 31 keyR_law slcE nr id (fun key kl hk => by obtain ⟨x, hx, _⟩ := keyR_back hk; exact ⟨x, hx⟩) (fun v _ _ => ⟨v, rfl⟩) b W.heap.size m _ _ _ rfl hrg ?_ ?_)
      | gi_in)
    · intro hc0 hl0
      gi_wp2
      go_end0
      exact ⟨⟨_, rfl⟩, .inl ⟨ys, HALL.out _ _ hC hl0, hJs⟩⟩
    · intro x c kl yd yp w2 cnt2 hkey hlk hv hat hrg2 hlt hg2 hs2 hen
      obtain ⟨x', ex, rfl⟩ := keyR_back hkey
      obtain rfl : x = x' := by
        simp only [nr, Value.int.injEq, true_and] at ex
        exact UInt32.toNat_inj.1 (by omega)
      have hJ2 : J ys w2 := hJ ys wr w2 (some W.heap.size) hJs hg2 (fun r e => by cases e; exact ⟨Nat.le_refl _, hrg.iter_walk⟩)
      obtain ⟨fn, tmps, assign, body, hy, hR⟩ := hY ys x w2 hJ2 (by omega)
      unfold encR at hy
      clear hs2
      gi_wp2
      refine hR.mono ?_
      have hC2 := hC.step hlk (has_true_of_atKey hat)
      rintro e W3 (⟨rfl, hJ3, hk3⟩ | ⟨rfl, hJx3⟩)
      · gi_wp2
        have hrg3 := hrg2.of_walks hk3
        go_roundw
        case rel => exact ⟨_, cnt2, ys ++ [x], hrg3, by simp; omega, hC2, hJ3⟩
        case measure => rw [hrg3.left_eq, hrg.left_eq]; exact hlt
      · gi_wp2
        refine bodyPost_ret (results_none rfl _ _ _) rfl ?_
        exact ⟨⟨_, rfl⟩, .inr ⟨_, trivial, hJx3⟩⟩
set_option maxRecDepth 100000 in
set_option maxHeartbeats 1000000 in
theorem rKeys0_in (F : Fence) (n : Nat) (hf : F.fn 24) (hro : F.round = none) (l Bm : Nat) (J : List UInt32 → World → Prop) (W : World) (hJ : AbidesFrom W.heap.size J)
    (hm : W.cell? ⟨Bm, 0, none⟩ = some (.map none)) (h0 : J [] W) :
    CallsIn F n Try.prog 24 #[.func (.yield l) #[] #[], .pointer (some ⟨Bm, 0, none⟩)] W fun e W' => (∃ v, e = .returned v) ∧ J [] W' := by
  refine callsIn_of_wp Try.func24 rfl hf ?_ hro
  simp only [Try.ntmps24, List.size_toArray, List.length_cons, List.length_nil, Nat.reduceAdd, Nat.reduceSub, Array.replicate_succ, Array.replicate_zero, List.push_toArray, List.append_toArray, List.nil_append, List.cons_append]
  have hrg := run_range_nilMap (P := Try.prog) W 46 31 32 Try.underlying46
  have hnx : ∀ ty, (Instr.next (.pointer (some ⟨W.heap.size, 0, none⟩)) false ty).run Try.prog (W.alloc (.mapIter none 0 #[] 0)) = _ := fun ty => run_next_nilMap _ ty 0 0 #[]
  gi_wp2
  refine wpIn_loop_rounds 1 ?_
  rw [roundsIn_succ]
  gi_wp2
  go_end0
  exact ⟨⟨_, rfl⟩, hJ [] W _ none h0 (World.grownBy_alloc W _ none) (fun r e => by cases e)⟩
/-- The iterator of the map's keys, whether the map was made or not. -/
theorem rKeys_stops (F : Fence) (n : Nat) (hf : F.fn 24) (hro : F.round = none) (hn : 1 ≤ n) (Bm : Nat) (mb : Option Nat) (O : Nat → Prop) (K : List RgE) (hr : (K.map (·.1)).Pairwise (· < ·)) (w : World)
    (hB : Bm < w.heap.size) (hm : w.cell? ⟨Bm, 0, none⟩ = some (.map mb)) (h : MapN w mb O K) (hO : ∀ x, O x → x < w.heap.size) :
    SeqStopsK F n Try.prog 24 #[.pointer (some ⟨Bm, 0, none⟩)] encR KeepsWalks (AllR K) (fun _ => True) K.length w := fun l J Jx W hW hJ _ hY h0 => by
  have hm2 : W.cell? ⟨Bm, 0, none⟩ = some (.map mb) := (hW.cell (p := ⟨Bm, 0, none⟩) hB).trans hm
  cases mb with
  | none =>
    have hK : K = [] := h
    subst hK
    exact (rKeys0_in F n hf hro l Bm J W hJ hm2 h0).mono fun _ _ ⟨he, hj⟩ => ⟨he, .inl ⟨[], ⟨List.nodup_nil, fun u => Iff.rfl⟩, hj⟩⟩
  | some b =>
    exact rKeys1_in F n hf hro hn l Bm b O K hr J Jx W hJ hY hm2 (h.2.turn (H := fun _ => False) (Turn.ofBelow hW) id (fun _ _ => id) hO) h0
theorem rKeys_any (mb : Option Nat) (w : World) :
    Calls Try.prog 21 #[.map mb] w fun e w' => e = .returned (.func (.func 24) #[] #[.pointer (some ⟨w.heap.size, 0, none⟩)]) ∧ w' = w.alloc (.cells #[.map mb] 46) := by
  go_enter Try.func21, Try.ntmps21
  repeat (first | go_skip | go_guarded | go_step)
  go_ret
  exact ⟨rfl, rfl⟩
end Go.Proofs.Ytedgigoelhcfnaa
