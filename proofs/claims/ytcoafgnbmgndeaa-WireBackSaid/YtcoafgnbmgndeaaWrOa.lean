/- Layer 1 (octet), as later layers call it: PutVar and TakeVar. -/
import Derived.Test.YtcoafgnbmgndeaaOctM
import Derived.Test.YtcoafgnbmgndeaaChecked
import Derived.Test.YtcoafgnbmgndeaaOw
import Derived.RangeFuncNested
import Derived.RangeFuncBound
import Derived.RangeFuncCalls
import Derived.RangeFuncLeaves
import Derived.Shelf.Abstract
import Derived.Shelf.RegionOpen
import Derived.OwnWalkIn
import Derived.TacticsInMore
import Derived.LoopNIn
import Derived.LoopIn
import Derived.Test.YtcoafgnbmgndeaaRows
import Derived.WalkMore
import Derived.Deep.LoopGhost
import Derived.BigQuiet
import Derived.Deep.QuietTactic
import Derived.Deep.Cut
import Derived.Deep.DeepCutAuto
set_option linter.unusedVariables false
set_option linter.unusedSimpArgs false
namespace Go.Proofs.Ytcoafgnbmgndeaa
open Go Go.RowKit Go.Shelf

set_option maxHeartbeats 400000 in
theorem fresh_nat (A : Option Addr) (n c r : Nat) (bs : List UInt8) (w : World) (hr : Rd w w.heap.size 1 A n (bs.map bv)) (hb : n + r ≤ 70368744177664) :
    Calls Try.prog 107 #[.slice A n c, .int .i64 (r : Int)] w fun e w' => ∃ A' c', e = .returned (.slice A' n c') ∧ Ow w' w.heap.size A' c' n bs ∧ Below w.heap.size w w' := by
  obtain ⟨i0, hi, hz0, hz1, hz2⟩ := info_parts u8info
  go_enter Try.func107, Try.ntmps107
  go_wp2_with (first
    | (at_make; refine wpList_make_own _ rfl _ _ 22 rfl w.heap.size 5 i0 _ 1 Try.underlying22 hi hz0 hz1 _ _ _ (n + r) rfl rfl (by omega) (by rw [hz2]; omega) (by simp only [maxLen]; omega) (Nat.le_refl _) ?_; intro w1 hown1 hg1)
    | (at_builtin; refine wpList_app _ rfl _ _ 22 rfl w.heap.size 5 i0 _ 1 1 Try.underlying22 hi hz0 hz1 hz2 rfl (by decide) _ _ _ rfl hown1 w.heap.size A n c (bs.map bv) rfl (hr.below ((Below.refl _ _).grown hg1 (Nat.le_refl _) (by simp))) (bv_one bs) (by simp only [maxLen]; omega) (by omega) hg1.size ?_; intro A' c' w2 hown2 hg2 _))
  go_ret
  simp only [Nat.zero_add, List.nil_append] at *
  exact ⟨A', c', rfl, hown2, belowApp ((Below.refl _ _).grown hg1 (Nat.le_refl _) (by simp)) hown1 hg2 hg1.size⟩
theorem fresh_any (A : Option Addr) (n c : Nat) (r : Int) (bs : List UInt8) (w : World) (hr : Rd w w.heap.size 1 A n (bs.map bv)) (h0 : 0 ≤ r) (hb : n + r.toNat ≤ 70368744177664) :
    Calls Try.prog 107 #[.slice A n c, .int .i64 r] w fun e w' => ∃ A' c', e = .returned (.slice A' n c') ∧ Ow w' w.heap.size A' c' n bs ∧ Below w.heap.size w w' := by
  obtain ⟨r, rfl⟩ := Int.eq_ofNat_of_zero_le h0
  exact fresh_nat A n c r bs w hr (by simpa using hb)
theorem isPlace_yes (A : Option Addr) (n c : Nat) (t : Int) (w : World) (h : 0 ≤ t ∧ t ≤ n) :
    Calls Try.prog 108 #[.slice A n c, .int .i64 t] w fun e w' => e = .returned (.bool true) ∧ w = w' := by
  obtain ⟨h1, h2⟩ := h
  go_enter Try.func108, Try.ntmps108
  go_wp2
  go_ret
  exact ⟨rfl, rfl⟩
theorem isPlace_no (A : Option Addr) (n c : Nat) (t : Int) (w : World) (h : t < 0 ∨ (n : Int) < t) :
    Calls Try.prog 108 #[.slice A n c, .int .i64 t] w fun e w' => e = .returned (.bool false) ∧ w = w' := by
  rcases h with h | h
  · go_enter Try.func108, Try.ntmps108
    go_wp2
    go_ret
    exact ⟨rfl, rfl⟩
  · have h0 : 0 ≤ t := by omega
    have hd : decide (t ≤ (n : Int)) = false := by simp; omega
    go_enter Try.func108, Try.ntmps108
    go_wp2
    go_ret
    exact ⟨rfl, rfl⟩
attribute [local go_sem] Oper.semAt_some

set_option maxHeartbeats 1000000 in
theorem varBytes_in (F : Fence) (n : Nat) (hf : F.fn 110) (hro : F.round = none) (N : Int) (w : World) :
    CallsIn F n Try.prog 110 #[.int .u64 N] w fun e w' => e = .returned (.func (.func 111) #[] #[.pointer (some ⟨w.heap.size, 0, none⟩)]) ∧ w' = w.alloc (.cells #[.int .u64 N] 75) := by
  refine callsIn_of_wp Try.func110 rfl hf ?_ hro
  simp only [Try.ntmps110, List.size_toArray, List.length_cons, List.length_nil, Nat.reduceAdd, Nat.reduceSub, Array.replicate_succ, Array.replicate_zero, List.push_toArray, List.append_toArray, List.nil_append, List.cons_append]
  gi_wp2
  go_ret
  exact ⟨rfl, rfl⟩
set_option maxRecDepth 100000 in
set_option maxHeartbeats 1000000 in
theorem varIter_in (F : Fence) (n : Nat) (hf : F.fn 111) (hro : F.round = none) (hn : 1 ≤ n) (l Bn n₀ : Nat) (N : Nat) (hN : N < 18446744073709551616) (J Jx : List UInt8 → World → Prop)
    (hY : ∀ pre x W, J pre W → pre.length < 10 → YieldAt F (n - 1) Try.prog l #[bv x] W fun e W' =>
      (e = .returned (.bool true) ∧ J (pre ++ [x]) W' ∧ Below n₀ W W') ∨ (e = .returned (.bool false) ∧ Jx (pre ++ [x]) W'))
    (W : World) (hBn : W.cell? ⟨Bn, 0, none⟩ = some (.int .u64 (N : Int))) (h0 : J [] W) :
    CallsIn F n Try.prog 111 #[.func (.yield l) #[] #[], .pointer (some ⟨Bn, 0, none⟩)] W fun e W' => (∃ v, e = .returned v) ∧
      ((∃ ys, ys = var N ∧ J ys W') ∨ (∃ pre, True ∧ Jx pre W')) := by
  refine callsIn_of_wp Try.func111 rfl hf ?_ hro
  simp only [Try.ntmps111, List.size_toArray, List.length_cons, List.length_nil, Nat.reduceAdd, Nat.reduceSub, Array.replicate_succ, Array.replicate_zero, List.push_toArray, List.append_toArray, List.nil_append, List.cons_append]
  gi_wp2
  gi_loopw [3] (fun p wr => ∃ (pre : List UInt8) (f r : Nat), p = .int .u64 (r : Int) ∧ r < 18446744073709551616 ∧ r < 128 ^ (f + 1) ∧ pre.length + f = 9 ∧ pre ++ varF f r = var N ∧ J pre wr)
    (fun p _ => (intOf p).toNat)
  case atStart =>
    exact ⟨[], 9, N, rfl, hN, by omega, rfl, rfl, h0⟩
  case round =>
    obtain ⟨pre, f, r, rfl, hr, hrf, hlen, hx, hJs⟩ := hrel
    by_cases hge : r < 128
    · obtain ⟨fn, tmps, assign, body, hy, hR⟩ := hY pre (UInt8.ofNat r) wr hJs (by omega)
      rw [← byteV r (by omega)] at hy
      gi_wp2
      refine hR.mono ?_
      rintro e W3 (⟨rfl, hJ3, hk3⟩ | ⟨rfl, hJx3⟩)
      · gi_wp2
        go_end0
        refine ⟨⟨_, rfl⟩, .inl ⟨_, ?_, hJ3⟩⟩
        rw [← hx]
        cases f <;> simp [varF, hge]
      · gi_wp2
        go_end0
        exact ⟨⟨_, rfl⟩, .inr ⟨_, trivial, hJx3⟩⟩
    · obtain ⟨f, rfl⟩ : ∃ g, f = g + 1 := ⟨f - 1, by
        rcases f with _ | f
        · simp at hrf; omega
        · rfl⟩
      obtain ⟨fn, tmps, assign, body, hy, hR⟩ := hY pre (UInt8.ofNat (r % 128 + 128)) wr hJs (by omega)
      unfold bv at hy
      rw [← or128 r] at hy
      gi_wp2
      refine hR.mono ?_
      rintro e W3 (⟨rfl, hJ3, hk3⟩ | ⟨rfl, hJx3⟩)
      · gi_wp2
        go_roundw
        case rel => exact ⟨pre ++ [UInt8.ofNat (r % 128 + 128)], f, r / 128, by go_num, by omega, by omega, by simp; omega, by rw [← hx]; simp [varF, hge], hJ3⟩
        case measure => simp [intOf]; omega
      · gi_wp2
        refine bodyPost_ret (results_none rfl _ _ _) rfl ?_
        exact ⟨⟨_, rfl⟩, .inr ⟨_, trivial, hJx3⟩⟩
theorem varBytes_stops (F : Fence) (n : Nat) (hf : F.fn 111) (hro : F.round = none) (hn : 1 ≤ n) (Bn n₀ : Nat) (N : Nat) (hN : N < 18446744073709551616) (w : World) (hBn : Bn < w.heap.size)
    (hc : w.cell? ⟨Bn, 0, none⟩ = some (.int .u64 (N : Int))) :
    SeqStopsK F n Try.prog 111 #[.pointer (some ⟨Bn, 0, none⟩)] (fun x : UInt8 => #[Value.int .u8 (x.toNat : Int)]) (Below n₀) (fun ys => ys = var N) (fun _ => True) 10 w := fun l J Jx W hW _ _ hY h0 =>
  varIter_in F n hf hro hn l Bn n₀ N hN J Jx hY W ((hW.cell (p := ⟨Bn, 0, none⟩) hBn).trans hc) h0
set_option maxRecDepth 100000 in
set_option maxHeartbeats 2000000 in
theorem appendVar_in (F : Fence) (n : Nat) (h23 : F.fn 106) (h28 : F.fn 110) (h29 : F.fn 111) (hro : F.round = none) (hn : 3 ≤ n) (base : Nat) (A0 : Option Addr) (n0 c0 : Nat) (bs : List UInt8) (N : Nat) (hN : N < 18446744073709551616)
    (w : World) (hown : Ow w base A0 c0 n0 bs) (hbase : base ≤ w.heap.size) (hn0 : n0 + 10 ≤ 70368744177664) :
    CallsIn F n Try.prog 106 #[.slice A0 n0 c0, .int .u64 (N : Int)] w fun e W' => ∃ v, e = .returned v ∧ W'.ownsRow base 5 1 v (n0 + (var N).length) ((bs ++ var N).map bv) ∧ Below base w W' := by
  have h1 : 1 ≤ n := by omega
  obtain ⟨i0, hi, hz0, hz1, hz2⟩ := info_parts u8info
  refine callsIn_of_wp_marks Try.func106 rfl h23 ?_ hro
  simp only [Try.ntmps106, List.size_toArray, List.length_cons, List.length_nil, Nat.reduceAdd, Nat.reduceSub, Array.replicate_succ, Array.replicate_zero, List.push_toArray, List.append_toArray, List.nil_append, List.cons_append]
  gi_wp2_with (gi_at_call 110; refine (varBytes_in F (n - 1) h28 hro _ _).mono ?_; rintro e w' ⟨rfl, rfl⟩)
  have bO := Boxed.new w 22 (.slice A0 n0 c0)
  have bN := Boxed.new (w.alloc (.cells #[.slice A0 n0 c0] 22)) 75 (.int .u64 (N : Int))
  rw [World.size_alloc] at bN
  have hB0 : Below base w ((w.alloc (.cells #[.slice A0 n0 c0] 22)).alloc (.cells #[.int .u64 (N : Int)] 75)) := ((Below.refl base w).alloc hbase _).alloc (by simp; omega) _
  have hown0 := World.ownsRow.alloc (World.ownsRow.alloc hown (.cells #[.slice A0 n0 c0] 22)) (.cells #[.int .u64 (N : Int)] 75)
  refine wpIn_rangeFunc_ownG hro h1 (gf := 111) (lb := #[.pointer (some ⟨w.heap.size + 1, 0, none⟩)]) rfl h29 (enters_of Try.func111 (by kernel_rfl) rfl)
    (varBytes_stops F (n - 1) h29 hro (by omega) (w.heap.size + 1) base N hN _ (by simp) bN.cell) belowK_t (belowK_b (by simp; omega)) (Below.refl _ _) (fun _ => rfl)
    (fun pre W => (∃ v, Boxed W w.heap.size 22 v ∧ W.ownsRow base 5 1 v (n0 + pre.length) ((bs ++ pre).map bv) ∧ True) ∧ Below base w W)
    (fun _ _ _ => False)
    (OwnFrom.and (Own.from (holdsRow_own base w.heap.size 22 5 1 (fun pre => n0 + pre.length) (fun pre => (bs ++ pre).map bv) (fun _ _ => True)) _) (ownFrom_below hbase (by simp; omega)))
    (fun _ _ _ _ _ hs _ _ => hs)
    ⟨⟨_, bO.alloc _, by simpa using hown0, trivial⟩, hB0⟩
    (fun x => { tmps := #[.slice A0 n0 c0, .int .u64 (N : Int), .pointer (some ⟨w.heap.size, 0, none⟩), undef, .slice none 0 0, .int .u8 (x.toNat : Int), .int .u64 (N : Int), .func (.func 111) #[] #[.pointer (some ⟨w.heap.size + 1, 0, none⟩)], .int .u8 (x.toNat : Int), undef, undef, undef, undef, undef], defers := [] }) ?assign ?body ?done ?stop
  case assign =>
    intro l x W K hK
    gi_wp2
    exact hK
  case body =>
    rintro l pre x W ⟨⟨v, hv, hrow, _⟩, hB⟩ hlt
    have hc := hv.cell
    gi_wp2_with (gi_at_builtin; refine wpListIn_append_own _ rfl _ _ 22 rfl base 5 i0 (.int .u8 0) 1 1 Try.underlying22 hi hz0 hz1 hz2 rfl (by decide) _ _ _ rfl (hrow.alloc _) ⟨W.heap.size, 0, none⟩ 1 1 [bv x] rfl rfl (cell_one_new _ _ _) (by simp [Value.oneCell', bv]) (by simp only [maxLen]; omega) (by omega) (by have := hB.size; simp; omega) ?_; intro v' w1 hown' hgrow _; obtain ⟨g', cap', rfl⟩ := ownsRow_succ hown'; obtain ⟨hv1, hv2, hr2, hk2, hb2⟩ := hv.appended (by decide) hrow (Nat.le_trans hbase hB.size) hbase hown' hgrow; have hc1 := hv1.cell; have hf1 := hv1.frozen)
    exact ⟨hk2.from _, hb2, ⟨_, hv2, by simpa [Nat.add_assoc] using hr2, trivial⟩, hB.trans hb2⟩
  case done =>
    rintro D ys W hD rfl ⟨⟨v, hv, hrow, _⟩, hB⟩ hK
    have hc := hv.cell
    gi_wp2
    refine ⟨by simp, .inl ⟨_, _, rfl, run_takeDeferred hK, ?_⟩⟩
    exact ⟨_, results_tmp rfl _ _ _, v, rfl, ownsRow_putObj hrow _ hK rfl, hB.trans (belowK_b (w := w) hbase W D _ _ (by simp at hD; omega) hK rfl rfl)⟩
  case stop =>
    rintro D c pre W _ _ h _
    exact h.elim
theorem appendVar_any (base : Nat) (A0 : Option Addr) (n0 c0 : Nat) (bs : List UInt8) (N : Int) (w : World) (h0 : 0 ≤ N) (hN : N < 18446744073709551616) (hown : Ow w base A0 c0 n0 bs) (hbase : base ≤ w.heap.size) (hn0 : n0 + 10 ≤ 70368744177664) :
    Calls Try.prog 106 #[.slice A0 n0 c0, .int .u64 N] w fun e w' => ∃ A' m c', e = .returned (.slice A' m c') ∧ Ow w' base A' c' m (bs ++ var N.toNat) ∧ Below base w w' := by
  obtain ⟨N, rfl⟩ := Int.eq_ofNat_of_zero_le h0
  refine (callsIn_wide.1 (appendVar_in Fence.wide 3 trivial trivial trivial rfl (Nat.le_refl _) base A0 n0 c0 bs N (by omega) w hown hbase hn0)).mono ?_
  rintro e w' ⟨v, rfl, hr, hb⟩
  obtain ⟨A', c', rfl, _⟩ := ownForm hr
  exact ⟨A', _, c', rfl, hr, hb⟩

set_option maxHeartbeats 400000 in
theorem putVar_any (A : Option Addr) (n c : Nat) (bs : List UInt8) (N : Int) (w : World) (hr : Rd w w.heap.size 1 A n (bs.map bv)) (h0 : 0 ≤ N) (hN : N < 18446744073709551616) (hb : n + 10 ≤ 70368744177664) :
    Calls Try.prog 102 #[.slice A n c, .int .u64 N] w fun e w' => ∃ A' m c', e = .returned (.slice A' m c') ∧ Ow w' w.heap.size A' c' m (bs ++ var N.toNat) ∧ Below w.heap.size w w' := by
  go_enter Try.func102, Try.ntmps102
  go_wp2_with (first
    | (go_at_call 107; refine (fresh_any A n c 10 bs _ hr (by omega) (by omega)).mono ?_; rintro e w1 ⟨A1, c1, rfl, ho1, hb1⟩)
    | (go_at_call 106; refine (appendVar_any w.heap.size A1 n c1 bs N _ h0 hN ho1 hb1.size hb).mono ?_; rintro e w2 ⟨A2, m2, c2, rfl, ho2, hb2⟩))
  go_ret
  exact ⟨A2, m2, c2, rfl, ho2, hb1.trans hb2⟩
/-! ### the reference's -/
set_option maxRecDepth 100000 in
set_option maxHeartbeats 1000000 in
theorem takeVar_bad (A : Option Addr) (n c : Nat) (t : Int) (w : World) (h : t < 0 ∨ (n : Int) < t) :
    Calls Try.prog 103 #[.slice A n c, .int .i64 t] w fun e w' => e = .returned (.tuple #[.int .u64 0, .int .i64 0, .int .i64 1]) ∧ w = w' := by
  have H := isPlace_no A n c t w h
  have HH := Lib.hid H
  clear H h
  go_enter Try.func103, Try.ntmps103
  go_wp2
  go_step3
  go_wp2_with (go_at_call 108; refine HH.out.mono ?_; rintro e w1 ⟨rfl, rfl⟩)
  rw [Exit.noGoto_ret]
  go_ret3
  exact ⟨rfl, rfl⟩
set_option maxRecDepth 100000 in
set_option maxHeartbeats 1000000 in
theorem takeVar_end (A : Option Addr) (n c : Nat) (w : World) :
    Calls Try.prog 103 #[.slice A n c, .int .i64 (n : Int)] w fun e w' => e = .returned (.tuple #[.int .u64 0, .int .i64 0, .int .i64 5]) ∧ w = w' := by
  have H := Lib.hid (isPlace_yes A n c n w ⟨by omega, by omega⟩)
  go_enter Try.func103, Try.ntmps103
  go_wp2
  go_step3
  go_wp2_with (go_at_call 108; refine H.out.mono ?_; rintro e w1 ⟨rfl, rfl⟩)
  go_step3
  go_wp2
  all_goals (refine wp_loop_rounds 1 ?_)
  all_goals (rw [rounds_succ])
  all_goals go_wp2
  all_goals rw [Exit.noGoto_ret]
  all_goals go_ret3
  all_goals exact ⟨rfl, rfl⟩
set_option maxRecDepth 100000 in
set_option maxHeartbeats 1000000 in
theorem takeVar_in (b o : Nat) (n c : Nat) (t : Nat) (bs : List UInt8) (w : World) (hc : n ≤ c) (hm : n ≤ 140737488355328) (ht : t < n) (hl : bs.length = n) (hcell : ∀ j (h : j < bs.length), w.cell? ⟨b, o + j, none⟩ = some (.int .u8 (bs[j].toNat : Int))) (v x z : Nat) (hans : tvAns bs t = (v, x, z)) :
    Calls Try.prog 103 #[.slice (some ⟨b, o, none⟩) n c, .int .i64 (t : Int)] w fun e w' => e = .returned (.tuple #[.int .u64 (v : Int), .int .i64 (x : Int), .int .i64 (z : Int)]) ∧ w = w' := by
  have H := Lib.hid (isPlace_yes (some ⟨b, o, none⟩) n c t w ⟨by omega, by omega⟩)
  have HL := Lib.hid hl
  have HC := Lib.hid hcell
  have HA := Lib.hid hans
  clear hl hcell hans
  go_enter Try.func103, Try.ntmps103
  go_wp2
  go_step3
  go_wp2_with (go_at_call 108; refine H.out.mono ?_; rintro e w1 ⟨rfl, rfl⟩)
  go_step3
  go_wp2
  go_loop [4, 17] (fun a i => ∃ (k acc : Nat), a = .int .u64 (acc : Int) ∧ i = .int .i64 (k : Int) ∧ t + k ≤ n ∧ k ≤ 9 ∧ acc < 128 ^ k ∧ tv (bs.drop (t + k)) k acc = tv (bs.drop t) 0 0) (fun _ i => n - (intOf i).toNat)
  case atStart => exact ⟨0, 0, rfl, rfl, by omega, by omega, by simp, rfl⟩
  case round =>
    obtain ⟨k, acc, rfl, rfl, hk, hk9, hacc, htv⟩ := hrel
    have HT := Lib.hid htv
    have HB := Lib.hid hacc
    clear htv hacc
    by_cases hlt : t + k < n
    · have hlb : t + k < bs.length := by rw [HL.out]; exact hlt
      obtain ⟨x8, hx8⟩ : ∃ y, y = bs[t + k] := ⟨_, rfl⟩
      have hcx : w.cell? ⟨b, o + t + k, none⟩ = some (.int .u8 (x8.toNat : Int)) := by rw [hx8, Nat.add_assoc]; exact HC.out _ hlb
      have HX := Lib.hid hx8
      clear hx8
      have h8 := u8_lt x8
      have e1 := u8and127 x8
      have e2 := u8and128 x8
      go_wp2
      all_goals first
        | (have h1 : 1 < (x8.toNat : Int) := by assumption
           have hn : tv (bs.drop t) 0 0 = none := by rw [← HT.out, tvStep bs t k acc x8 hlb HX.out, if_pos (by omega)]
           obtain ⟨rfl, rfl, rfl⟩ := tvEnd_none HA.out (by omega) hn
           go_ret3
           exact ⟨rfl, rfl⟩)
        | (have h1 : ((x8.toNat : Int) == 0) = true := by assumption
           rw [beq_iff_eq] at h1
           have hn : tv (bs.drop t) 0 0 = none := by rw [← HT.out, tvStep bs t k acc x8 hlb HX.out, if_pos (by omega)]
           obtain ⟨rfl, rfl, rfl⟩ := tvEnd_none HA.out (by omega) hn
           go_ret3
           exact ⟨rfl, rfl⟩)
        | (have h1 : ((x8.toNat : Int) / 128 * 128 == 0) = true := by assumption
           rw [beq_iff_eq] at h1
           have h2 : ¬ (0 < k ∧ x8.toNat = 0) := by first | omega | (have h3 : ((x8.toNat : Int) == 0) = false := by assumption
                                                                     rw [beq_eq_false_iff_ne] at h3
                                                                     omega)
           have hn : tv (bs.drop t) 0 0 = some (acc + x8.toNat * 128 ^ k, k + 1) := by rw [← HT.out, tvStep bs t k acc x8 hlb HX.out, if_neg (by omega), if_pos (by omega)]
           obtain ⟨rfl, rfl, rfl⟩ := tvEnd_some HA.out (by omega) hn
           go_ret3
           refine ⟨?_, rfl⟩
           have e3 := orStep acc x8.toNat k hk9 HB.out h8 (by omega)
           have e4 : x8.toNat % 128 = x8.toNat := by omega
           first
             | (have hk : ((k : Int) = 9) := by assumption
                have hk : k = 9 := by omega
                subst hk
                have e5 := orStep9 acc x8.toNat HB.out (by omega)
                simp [e5] <;> omega)
             | (simp [e3, e4] <;> omega))
        | (have h1 : ((x8.toNat : Int) / 128 * 128 == 0) = false := by assumption
           rw [beq_eq_false_iff_ne] at h1
           have h2 : ¬ (0 < k ∧ x8.toNat = 0) := by omega
           have hn := HT.out
           rw [tvStep bs t k acc x8 hlb HX.out, if_neg (by omega), if_neg (by omega)] at hn
           have e3 := orStep acc x8.toNat k hk9 HB.out h8 (by omega)
           have e4 : x8.toNat % 128 = x8.toNat - 128 := by omega
           rw [e4] at e3
           refine ⟨⟨k + 1, acc + (x8.toNat - 128) * 128 ^ k, by rw [e3], by go_num, by omega, by omega, ?_, hn⟩, by simp [intOf]; omega⟩
           rw [Nat.pow_succ]
           have h5 : (x8.toNat - 128) * 128 ^ k ≤ 127 * 128 ^ k := Nat.mul_le_mul_right _ (by omega)
           have h6 := HB.out
           omega)
    · have hnil : bs.drop (t + k) = [] := List.drop_eq_nil_of_le (by rw [HL.out]; omega)
      have hn : tv (bs.drop t) 0 0 = none := by rw [← HT.out, hnil]; rfl
      obtain ⟨rfl, rfl, rfl⟩ := tvEnd_none HA.out (by rw [HL.out]; omega) hn
      go_wp2
      go_ret3
      exact ⟨rfl, rfl⟩
theorem takeVar_any (A : Option Addr) (n c B : Nat) (t : Int) (bs : List UInt8) (w : World) (hr : Rd w B 1 A n (bs.map bv)) (hc : n ≤ c) (hm : n ≤ 140737488355328) (v x z : Nat) (hans : tvAns bs t = (v, x, z)) :
    Calls Try.prog 103 #[.slice A n c, .int .i64 t] w fun e w' => e = .returned (.tuple #[.int .u64 (v : Int), .int .i64 (x : Int), .int .i64 (z : Int)]) ∧ w = w' := by
  have hl : bs.length = n := by simpa using hr.len1
  by_cases hbad : t < 0 ∨ (n : Int) < t
  · unfold tvAns at hans
    rw [if_pos (by omega)] at hans
    simp only [Prod.mk.injEq] at hans
    obtain ⟨rfl, rfl, rfl⟩ := hans
    exact takeVar_bad A n c t w hbad
  · obtain ⟨t, rfl⟩ := Int.eq_ofNat_of_zero_le (show 0 ≤ t by omega)
    by_cases he : t = n
    · subst he
      have hn : tv (bs.drop t) 0 0 = none := by rw [List.drop_eq_nil_of_le (by omega)]; rfl
      obtain ⟨rfl, rfl, rfl⟩ := tvEnd_none hans (by omega) hn
      exact takeVar_end A t c w
    · obtain ⟨b, o, rfl, _, hcell⟩ := hr.2 (by omega)
      exact takeVar_in b o n c t bs w hc hm (by omega) hl (fun j h => hcell j _ (by simp [List.getElem?_eq_getElem h, bv])) v x z hans
end Go.Proofs.Ytcoafgnbmgndeaa
