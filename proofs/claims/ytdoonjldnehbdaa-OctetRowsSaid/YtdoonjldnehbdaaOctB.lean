/- Layer 1 (octet): the iterator over a var's bytes, and appendVar. -/
import Derived.Test.YtdoonjldnehbdaaOctA
set_option linter.unusedVariables false
namespace Go.Proofs.Ytdoonjldnehbdaa
open Go Go.RowKit Go.Shelf
attribute [local go_sem] Oper.semAt_some

set_option maxHeartbeats 1000000 in
theorem varBytes_in (F : Fence) (n : Nat) (hf : F.fn 28) (hro : F.round = none) (N : Int) (w : World) :
    CallsIn F n Try.prog 28 #[.int .u64 N] w fun e w' => e = .returned (.func (.func 29) #[] #[.pointer (some ⟨w.heap.size, 0, none⟩)]) ∧ w' = w.alloc (.cells #[.int .u64 N] 23) := by
  refine callsIn_of_wp Try.func28 rfl hf ?_ hro
  simp only [Try.ntmps28, List.size_toArray, List.length_cons, List.length_nil, Nat.reduceAdd, Nat.reduceSub, Array.replicate_succ, Array.replicate_zero, List.push_toArray, List.append_toArray, List.nil_append, List.cons_append]
  gi_wp2
  go_ret
  exact ⟨rfl, rfl⟩

set_option maxRecDepth 100000 in
set_option maxHeartbeats 1000000 in
theorem varIter_in (F : Fence) (n : Nat) (hf : F.fn 29) (hro : F.round = none) (hn : 1 ≤ n) (l Bn n₀ : Nat) (N : Nat) (hN : N < 18446744073709551616) (J Jx : List UInt8 → World → Prop)
    (hY : ∀ pre x W, J pre W → pre.length < 10 → YieldAt F (n - 1) Try.prog l #[bv x] W fun e W' =>
      (e = .returned (.bool true) ∧ J (pre ++ [x]) W' ∧ Below n₀ W W') ∨ (e = .returned (.bool false) ∧ Jx (pre ++ [x]) W'))
    (W : World) (hBn : W.cell? ⟨Bn, 0, none⟩ = some (.int .u64 (N : Int))) (h0 : J [] W) :
    CallsIn F n Try.prog 29 #[.func (.yield l) #[] #[], .pointer (some ⟨Bn, 0, none⟩)] W fun e W' => (∃ v, e = .returned v) ∧
      ((∃ ys, ys = var N ∧ J ys W') ∨ (∃ pre, True ∧ Jx pre W')) := by
  refine callsIn_of_wp Try.func29 rfl hf ?_ hro
  simp only [Try.ntmps29, List.size_toArray, List.length_cons, List.length_nil, Nat.reduceAdd, Nat.reduceSub, Array.replicate_succ, Array.replicate_zero, List.push_toArray, List.append_toArray, List.nil_append, List.cons_append]
  gi_wp2
  gi_loopw [3] (fun p wr => ∃ (pre : List UInt8) (f r : Nat), p = .int .u64 (r : Int) ∧ r < 18446744073709551616 ∧ r < 128 ^ (f + 1) ∧ pre.length + f = 9 ∧ pre ++ varF f r = var N ∧ J pre wr)
    (fun p _ => (intOf p).toNat)
  case atStart =>
    exact ⟨[], 9, N, rfl, hN, by omega, rfl, rfl, h0⟩
  case round =>
    obtain ⟨pre, f, r, rfl, hr, hrf, hlen, hx, hJs⟩ := hrel
    by_cases hge : r < 128
    · obtain ⟨fn, tmps, assign, body, hy, hR⟩ := hY pre (UInt8.ofNat r) wr hJs (by omega)
      rw [← byteV r (by omega)] at hy
      gi_wp2
      refine hR.mono ?_
      rintro e W3 (⟨rfl, hJ3, hk3⟩ | ⟨rfl, hJx3⟩)
      · gi_wp2
        go_end0
        refine ⟨⟨_, rfl⟩, .inl ⟨_, ?_, hJ3⟩⟩
        rw [← hx]
        cases f <;> simp [varF, hge]
      · gi_wp2
        go_end0
        exact ⟨⟨_, rfl⟩, .inr ⟨_, trivial, hJx3⟩⟩
    · obtain ⟨f, rfl⟩ : ∃ g, f = g + 1 := ⟨f - 1, by
        rcases f with _ | f
        · simp at hrf; omega
        · rfl⟩
      obtain ⟨fn, tmps, assign, body, hy, hR⟩ := hY pre (UInt8.ofNat (r % 128 + 128)) wr hJs (by omega)
      unfold bv at hy
      rw [← or128 r] at hy
      gi_wp2
      refine hR.mono ?_
      rintro e W3 (⟨rfl, hJ3, hk3⟩ | ⟨rfl, hJx3⟩)
      · gi_wp2
        go_roundw
        case rel => exact ⟨pre ++ [UInt8.ofNat (r % 128 + 128)], f, r / 128, by go_num, by omega, by omega, by simp; omega, by rw [← hx]; simp [varF, hge], hJ3⟩
        case measure => simp [intOf]; omega
      · gi_wp2
        refine bodyPost_ret (results_none rfl _ _ _) rfl ?_
        exact ⟨⟨_, rfl⟩, .inr ⟨_, trivial, hJx3⟩⟩

theorem varBytes_stops (F : Fence) (n : Nat) (hf : F.fn 29) (hro : F.round = none) (hn : 1 ≤ n) (Bn n₀ : Nat) (N : Nat) (hN : N < 18446744073709551616) (w : World) (hBn : Bn < w.heap.size)
    (hc : w.cell? ⟨Bn, 0, none⟩ = some (.int .u64 (N : Int))) :
    SeqStopsK F n Try.prog 29 #[.pointer (some ⟨Bn, 0, none⟩)] (fun x : UInt8 => #[Value.int .u8 (x.toNat : Int)]) (Below n₀) (fun ys => ys = var N) (fun _ => True) 10 w := fun l J Jx W hW _ _ hY h0 =>
  varIter_in F n hf hro hn l Bn n₀ N hN J Jx hY W ((hW.cell (p := ⟨Bn, 0, none⟩) hBn).trans hc) h0

set_option maxRecDepth 100000 in
set_option maxHeartbeats 2000000 in
theorem appendVar_in (F : Fence) (n : Nat) (h23 : F.fn 23) (h28 : F.fn 28) (h29 : F.fn 29) (hro : F.round = none) (hn : 3 ≤ n) (base : Nat) (A0 : Option Addr) (n0 c0 : Nat) (bs : List UInt8) (N : Nat) (hN : N < 18446744073709551616)
    (w : World) (hown : Ow w base A0 c0 n0 bs) (hbase : base ≤ w.heap.size) (hn0 : n0 + 10 ≤ 70368744177664) :
    CallsIn F n Try.prog 23 #[.slice A0 n0 c0, .int .u64 (N : Int)] w fun e W' => ∃ v, e = .returned v ∧ W'.ownsRow base 5 1 v (n0 + (var N).length) ((bs ++ var N).map bv) ∧ Below base w W' := by
  have h1 : 1 ≤ n := by omega
  obtain ⟨i0, hi, hz0, hz1, hz2⟩ := info_parts u8info
  refine callsIn_of_wp_marks Try.func23 rfl h23 ?_ hro
  simp only [Try.ntmps23, List.size_toArray, List.length_cons, List.length_nil, Nat.reduceAdd, Nat.reduceSub, Array.replicate_succ, Array.replicate_zero, List.push_toArray, List.append_toArray, List.nil_append, List.cons_append]
  gi_wp2_with (gi_at_call 28; refine (varBytes_in F (n - 1) h28 hro _ _).mono ?_; rintro e w' ⟨rfl, rfl⟩)
  have bO := Boxed.new w 22 (.slice A0 n0 c0)
  have bN := Boxed.new (w.alloc (.cells #[.slice A0 n0 c0] 22)) 23 (.int .u64 (N : Int))
  rw [World.size_alloc] at bN
  have hB0 : Below base w ((w.alloc (.cells #[.slice A0 n0 c0] 22)).alloc (.cells #[.int .u64 (N : Int)] 23)) := ((Below.refl base w).alloc hbase _).alloc (by simp; omega) _
  have hown0 := World.ownsRow.alloc (World.ownsRow.alloc hown (.cells #[.slice A0 n0 c0] 22)) (.cells #[.int .u64 (N : Int)] 23)
  refine wpIn_rangeFunc_ownG hro h1 (gf := 29) (lb := #[.pointer (some ⟨w.heap.size + 1, 0, none⟩)]) rfl h29 (enters_of Try.func29 (by kernel_rfl) rfl)
    (varBytes_stops F (n - 1) h29 hro (by omega) (w.heap.size + 1) base N hN _ (by simp) bN.cell) belowK_t (belowK_b (by simp; omega)) (Below.refl _ _) (fun _ => rfl)
    (fun pre W => (∃ v, Boxed W w.heap.size 22 v ∧ W.ownsRow base 5 1 v (n0 + pre.length) ((bs ++ pre).map bv) ∧ True) ∧ Below base w W)
    (fun _ _ _ => False)
    (OwnFrom.and (Own.from (holdsRow_own base w.heap.size 22 5 1 (fun pre => n0 + pre.length) (fun pre => (bs ++ pre).map bv) (fun _ _ => True)) _) (ownFrom_below hbase (by simp; omega)))
    (fun _ _ _ _ _ hs _ _ => hs)
    ⟨⟨_, bO.alloc _, by simpa using hown0, trivial⟩, hB0⟩
    (fun x => { tmps := #[.slice A0 n0 c0, .int .u64 (N : Int), .pointer (some ⟨w.heap.size, 0, none⟩), undef, .slice none 0 0, .int .u8 (x.toNat : Int), .int .u64 (N : Int), .func (.func 29) #[] #[.pointer (some ⟨w.heap.size + 1, 0, none⟩)], .int .u8 (x.toNat : Int), undef, undef, undef, undef, undef], defers := [] }) ?assign ?body ?done ?stop
  case assign =>
    intro l x W K hK
    gi_wp2
    exact hK
  case body =>
    rintro l pre x W ⟨⟨v, hv, hrow, _⟩, hB⟩ hlt
    have hc := hv.cell
    gi_wp2_with (gi_at_builtin; refine wpListIn_append_own _ rfl _ _ 22 rfl base 5 i0 (.int .u8 0) 1 1 Try.underlying22 hi hz0 hz1 hz2 rfl (by decide) _ _ _ rfl (hrow.alloc _) ⟨W.heap.size, 0, none⟩ 1 1 [bv x] rfl rfl (cell_one_new _ _ _) (by simp [Value.oneCell', bv]) (by simp only [maxLen]; omega) (by omega) (by have := hB.size; simp; omega) ?_; intro v' w1 hown' hgrow _; obtain ⟨g', cap', rfl⟩ := ownsRow_succ hown'; obtain ⟨hv1, hv2, hr2, hk2, hb2⟩ := hv.appended (by decide) hrow (Nat.le_trans hbase hB.size) hbase hown' hgrow; have hc1 := hv1.cell; have hf1 := hv1.frozen)
    exact ⟨hk2.from _, hb2, ⟨_, hv2, by simpa [Nat.add_assoc] using hr2, trivial⟩, hB.trans hb2⟩
  case done =>
    rintro D ys W hD rfl ⟨⟨v, hv, hrow, _⟩, hB⟩ hK
    have hc := hv.cell
    gi_wp2
    refine ⟨by simp, .inl ⟨_, _, rfl, run_takeDeferred hK, ?_⟩⟩
    exact ⟨_, results_tmp rfl _ _ _, v, rfl, ownsRow_putObj hrow _ hK rfl, hB.trans (belowK_b (w := w) hbase W D _ _ (by simp at hD; omega) hK rfl rfl)⟩
  case stop =>
    rintro D c pre W _ _ h _
    exact h.elim

theorem appendVar_any (base : Nat) (A0 : Option Addr) (n0 c0 : Nat) (bs : List UInt8) (N : Int) (w : World) (h0 : 0 ≤ N) (hN : N < 18446744073709551616) (hown : Ow w base A0 c0 n0 bs) (hbase : base ≤ w.heap.size) (hn0 : n0 + 10 ≤ 70368744177664) :
    Calls Try.prog 23 #[.slice A0 n0 c0, .int .u64 N] w fun e w' => ∃ A' m c', e = .returned (.slice A' m c') ∧ Ow w' base A' c' m (bs ++ var N.toNat) ∧ Below base w w' := by
  obtain ⟨N, rfl⟩ := Int.eq_ofNat_of_zero_le h0
  refine (callsIn_wide.1 (appendVar_in Fence.wide 3 trivial trivial trivial rfl (Nat.le_refl _) base A0 n0 c0 bs N (by omega) w hown hbase hn0)).mono ?_
  rintro e w' ⟨v, rfl, hr, hb⟩
  obtain ⟨A', c', rfl, _⟩ := ownForm hr
  exact ⟨A', _, c', rfl, hr, hb⟩
end Go.Proofs.Ytdoonjldnehbdaa
