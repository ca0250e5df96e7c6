/- OctetBack: what was put is taken, whatever stands ahead and behind; what is taken is put as it stood. No condition. -/
import Derived.Test.YthkinhgkchbjkaaOctK
import Derived.Test.YthkinhgkchbjkaaOctN
import Derived.Deep.RegionWith
import Derived.Deep.RegionHeld3
import Derived.BigQuiet
import Derived.Deep.QuietTactic
set_option linter.unusedVariables false
set_option linter.unusedSimpArgs false
namespace Go.Proofs.Ythkinhgkchbjkaa.octetBack
open Go Go.RowKit Go.ChangeShapes Go.WideShapes Go.ChangeAt

set_option maxRecDepth 100000 in
set_option maxHeartbeats 2000000 in
theorem walkVast (A0 A1 A2 A3 : Option Addr) (n0 c0 n1 c1 n2 c2 n3 c3 : Nat) (b0 b1 b2 b3 : List UInt8) (N z : Nat) (w : World) (hr0 : Rd w w.heap.size 1 A0 n0 (b0.map bv)) (hr1 : Rd w w.heap.size 1 A1 n1 (b1.map bv)) (hr2 : Rd w w.heap.size 1 A2 n2 (b2.map bv)) (hr3 : Rd w w.heap.size 1 A3 n3 (b3.map bv))
    (hc3 : n3 ≤ c3) (hm3 : c3 ≤ 140737488351232) (hN : N < 18446744073709551616) (hz : z < 256) (hv : 8192 < n0 ∨ 8192 < n1 ∨ 8192 < n2 ∨ 8192 < n3) :
    Calls Try.prog 5 #[.slice A0 n0 c0, .slice A1 n1 c1, .slice A2 n2 c2, .slice A3 n3 c3, .int .u64 (N : Int), .int .u8 (z : Int)] w fun e w' => e = .returned (.bool true) ∧ Below w.heap.size w w' := by
  by_cases hv0 : 8192 < n0
  · skip
    go_enter Try.func5, Try.ntmps5
    go_wp2_with fail
    refine (vast_yes A0 n0 c0 _ hv0).mono ?_
    rintro e w1 ⟨rfl, rfl⟩
    go_wp2_with (go_at_call 9; refine (works_any _).mono ?_; rintro e w2 ⟨rfl, hb2⟩)
    go_ret
    exact ⟨rfl, hb2⟩
  have hv0 : n0 ≤ 8192 := by omega
  by_cases hv1 : 8192 < n1
  · skip
    go_enter Try.func5, Try.ntmps5
    go_wp2_with fail
    refine (vast_no A0 n0 c0 _ hv0).mono ?_
    rintro e w1 ⟨rfl, rfl⟩
    go_wp2_with fail
    refine (vast_yes A1 n1 c1 _ hv1).mono ?_
    rintro e w1 ⟨rfl, rfl⟩
    go_wp2_with (go_at_call 9; refine (works_any _).mono ?_; rintro e w2 ⟨rfl, hb2⟩)
    go_ret
    exact ⟨rfl, hb2⟩
  have hv1 : n1 ≤ 8192 := by omega
  by_cases hv2 : 8192 < n2
  · skip
    go_enter Try.func5, Try.ntmps5
    go_wp2_with fail
    refine (vast_no A0 n0 c0 _ hv0).mono ?_
    rintro e w1 ⟨rfl, rfl⟩
    go_wp2_with fail
    refine (vast_no A1 n1 c1 _ hv1).mono ?_
    rintro e w1 ⟨rfl, rfl⟩
    go_wp2_with fail
    refine (vast_yes A2 n2 c2 _ hv2).mono ?_
    rintro e w1 ⟨rfl, rfl⟩
    go_wp2_with (go_at_call 9; refine (works_any _).mono ?_; rintro e w2 ⟨rfl, hb2⟩)
    go_ret
    exact ⟨rfl, hb2⟩
  have hv2 : n2 ≤ 8192 := by omega
  have hv3 : 8192 < n3 := by omega
  · skip
    go_enter Try.func5, Try.ntmps5
    go_wp2_with fail
    refine (vast_no A0 n0 c0 _ hv0).mono ?_
    rintro e w1 ⟨rfl, rfl⟩
    go_wp2_with fail
    refine (vast_no A1 n1 c1 _ hv1).mono ?_
    rintro e w1 ⟨rfl, rfl⟩
    go_wp2_with fail
    refine (vast_no A2 n2 c2 _ hv2).mono ?_
    rintro e w1 ⟨rfl, rfl⟩
    go_wp2_with fail
    refine (vast_yes A3 n3 c3 _ hv3).mono ?_
    rintro e w1 ⟨rfl, rfl⟩
    go_wp2_with (go_at_call 9; refine (works_any _).mono ?_; rintro e w2 ⟨rfl, hb2⟩)
    go_ret
    exact ⟨rfl, hb2⟩


theorem take_v (A : Option Addr) (n c : Nat) (t : Nat) (k : Int) (bs : List UInt8) (B : Nat) (w : World) (hr : Rd w B 1 A n (bs.map bv)) (hc : n ≤ c) (hm : n ≤ 140737488355328) (hk : 1 ≤ k ∧ k ≤ 8) (htk : t + k.toNat ≤ n) (v p : Nat) (hv : beN ((bs.drop t).take k.toNat) = v) (hp : t + k.toNat = p) :
    Calls Try.prog 22 #[.slice A n c, .int .i64 (t : Int), .int .i64 k] w fun e w' => e = .returned (.tuple #[.int .u64 (v : Int), .int .i64 (p : Int), .int .i64 0]) ∧ w = w' := by
  obtain ⟨k, rfl⟩ := Int.eq_ofNat_of_zero_le (show 0 ≤ k by omega)
  rw [Int.toNat_natCast] at *
  subst hv hp
  exact take_any A n c t k bs B w hr hc hm (by omega) htk
theorem facts (b0 b1 b2 E : List UInt8) (N kk n0 n1 na nb nc : Nat) (h0 : b0.length = n0) (h1 : b1.length = n1) (hE : E = [] ++ (b0 ++ beB N kk ++ var N ++ var n1 ++ b1) ++ b2)
    (ha : (b0 ++ beB N kk).length = na) (hb : (b0 ++ beB N kk ++ var N).length = nb) (hc : (b0 ++ beB N kk ++ var N ++ var n1 ++ b1).length = nc) (hN : N < 18446744073709551616) (hn1 : n1 ≤ 8192) :
    beN ((E.drop n0).take kk) = N % 256 ^ kk ∧ n0 + kk = na ∧ tvAns E na = (N, nb, 0) ∧ tbAns E nb n1 = (b1, nc, 0) := by
  have hbe := beB_len N kk
  refine ⟨?_, ?_, ?_, ?_⟩
  · have e : E = b0 ++ (beB N kk ++ (var N ++ var n1 ++ b1 ++ b2)) := by rw [hE]; simp
    rw [e, ← h0]
    exact beN_take _ _ _ _
  · rw [← ha, List.length_append, h0, hbe]
  · have e : E = (b0 ++ beB N kk) ++ (var N ++ (var n1 ++ b1 ++ b2)) := by rw [hE]; simp
    rw [e, ← ha, tvAns_var _ _ N hN, ← hb]
    simp
    omega
  · subst h1
    have e : E = (b0 ++ beB N kk ++ var N) ++ (var b1.length ++ (b1 ++ b2)) := by rw [hE]; simp
    rw [e, ← hb, tbAns_put _ b1 b2 (by omega), ← hc]
    simp
    omega
theorem pow_wrap (z : Nat) (h : z % 8 < 7) : IntKind.u64.wrap (2 ^ (8 * (1 + z % 8))) = ((256 ^ (1 + z % 8) : Nat) : Int) := by
  have hcases : z % 8 = 0 ∨ z % 8 = 1 ∨ z % 8 = 2 ∨ z % 8 = 3 ∨ z % 8 = 4 ∨ z % 8 = 5 ∨ z % 8 = 6 := by omega
  rcases hcases with h | h | h | h | h | h | h <;> rw [h] <;> decide +kernel

end Go.Proofs.Ythkinhgkchbjkaa.octetBack
