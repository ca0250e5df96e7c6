/- Layer 2 (sha): the small callees' contracts. -/
import Derived.Test.YtgkfebbifgkkeaaDoorShaM
import Derived.Test.YtgkfebbifgkkeaaDoorBlk
import Derived.Test.YtgkfebbifgkkeaaDoorRows
import Derived.Outline
set_option linter.unusedVariables false
namespace Go.Proofs.YtgkfebbifgkkeaaDoor
open Go Go.RowKit

theorem mask32 (k : Int) (h0 : 0 < k) (h1 : k < 32) : bits .and .u64 (IntKind.u64.wrap (-k)) 31 = 32 - k := by
  have e : IntKind.u64.wrap (-k) = ((18446744073709551616 - k.toNat : Nat) : Int) := by rw [IntKind.wrap_u64]; omega
  rw [e, show (31 : Int) = ((31 : Nat) : Int) from rfl, u64_and_nat _ _ (by omega) (by omega)]
  have := Nat.and_two_pow_sub_one_eq_mod (18446744073709551616 - k.toNat) 5
  simp only [Nat.reducePow, Nat.reduceSub] at this
  rw [this]
  omega
theorem rrWalk (x : UInt32) (k : Int) (h0 : 0 < k) (h1 : k < 32) : bits .or .u32 (ui x / 2 ^ k.toNat) (ui x * 2 ^ (32 - k).toNat % 4294967296) = ui (rr x k.toNat) := by
  unfold ui
  have e1 : (x.toNat : Int) / 2 ^ k.toNat = ((x.toNat / 2 ^ k.toNat : Nat) : Int) := by simp
  have e2 : (x.toNat : Int) * 2 ^ (32 - k).toNat % 4294967296 = ((x.toNat * 2 ^ (32 - k.toNat) % 4294967296 : Nat) : Int) := by
    rw [show (32 - k).toNat = 32 - k.toNat from by omega]
    simp
  rw [e1, e2, u32_or_nat _ _ (Nat.lt_of_le_of_lt (Nat.div_le_self _ _) (u32_lt x)) (Nat.mod_lt _ (by decide)), rr_nat]
theorem rrWalk' (x : UInt32) (k : Int) (h0 : 0 < k) (h1 : k < 32) : bits .or .u32 (ui x * 2 ^ (32 - k).toNat % 4294967296) (ui x / 2 ^ k.toNat) = ui (rr x k.toNat) := by
  unfold ui
  have e1 : (x.toNat : Int) / 2 ^ k.toNat = ((x.toNat / 2 ^ k.toNat : Nat) : Int) := by simp
  have e2 : (x.toNat : Int) * 2 ^ (32 - k).toNat % 4294967296 = ((x.toNat * 2 ^ (32 - k.toNat) % 4294967296 : Nat) : Int) := by
    rw [show (32 - k).toNat = 32 - k.toNat from by omega]
    simp
  rw [e1, e2, u32_or_nat _ _ (Nat.mod_lt _ (by decide)) (Nat.lt_of_le_of_lt (Nat.div_le_self _ _) (u32_lt x)), rr_nat, Nat.or_comm]

set_option maxHeartbeats 400000 in
theorem rotl_any (x : UInt32) (k : Int) (w : World) (h0 : 0 < k) (h1 : k < 32) :
    Calls Tryd.prog 41 #[.int .u32 (ui x), .int .i64 (-k)] w fun e w' => e = .returned (.int .u32 (ui (rr x k.toNat))) ∧ w = w' := by
  have hm := mask32 k h0 h1
  have h2 : 0 ≤ 32 - k := by omega
  have h3 : 32 - k ≤ 32 := by omega
  have hs : (32 : Int) - (32 - k) = k := by omega
  go_enter Tryd.func41, Tryd.ntmps41
  go_wp2
  go_ret
  exact ⟨by rw [rrWalk' x k h0 h1]; rfl, rfl⟩
set_option maxHeartbeats 400000 in
theorem rot_any (x : UInt32) (k : Int) (w : World) (h0 : 0 < k) (h1 : k < 32) :
    Calls Tryd.prog 40 #[.int .u32 (ui x), .int .i64 k] w fun e w' => e = .returned (.int .u32 (ui (rr x k.toNat))) ∧ w = w' := by
  go_enter Tryd.func40, Tryd.ntmps40
  go_wp2_with (go_at_call 41; refine (rotl_any x k _ h0 h1).mono ?_; rintro e w' ⟨rfl, rfl⟩)
  go_ret
  exact ⟨rfl, rfl⟩
set_option maxHeartbeats 400000 in
theorem rRot_any (x : UInt32) (k : Int) (w : World) (h0 : 0 < k) (h1 : k < 32) :
    Calls Tryd.prog 35 #[.int .u32 (ui x), .int .u64 k] w fun e w' => e = .returned (.int .u32 (ui (rr x k.toNat))) ∧ w = w' := by
  go_enter Tryd.func35, Tryd.ntmps35
  go_wp2
  go_ret
  exact ⟨by rw [rrWalk x k h0 h1]; rfl, rfl⟩

/-! ### words in a block of their own -/
theorem u32info : (Tryd.prog.info? 53).map (fun i => (i.zero, i.size, i.bytes)) = some (some (.int .u32 0), 1, 4) := by kernel_rfl
theorem uv_one (l : List UInt32) : ∀ u ∈ l.map uv, u.oneCell' = true := by
  intro u hu
  obtain ⟨_, _, rfl⟩ := List.mem_map.1 hu
  rfl
end Go.Proofs.YtgkfebbifgkkeaaDoor
