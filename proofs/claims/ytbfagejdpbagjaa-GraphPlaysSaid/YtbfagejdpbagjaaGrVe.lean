/- Layer 9 (graph): two edges compared. -/
import Derived.Test.YtbfagejdpbagjaaGrX
import Derived.ChangeKeysEq
set_option linter.unusedVariables false
set_option linter.unusedSimpArgs false
namespace Go.Proofs.Ytbfagejdpbagjaa
open Go Go.RowKit
theorem run_eqE_at (d : Nat) (a b : Int) (w : World) : (Op.equalIn (d + 1 + 1) 31 (ag a b) (ag a b)).run Try.prog w = .ok true w := by
  have h1 : ∀ (x : Int) (w : World), (Op.equalIn (d + 1) 3 (.int .i64 x) (.int .i64 x)).run Try.prog w = .ok true w := fun x w => by
    rw [run_equalIn_int w d 3 .i64 .i64 x x Try.underlying3]; simp
  obtain ⟨i0, hi, hz0, hz1, hz2⟩ := info_parts intInfo
  have p0 : ∀ w : World, (Go.part 3 #[Value.int .i64 a, Value.int .i64 b] 0).run Try.prog w = .ok (.int .i64 a) w := fun w => run_part_plain w (by kernel_rfl) rfl
  have p1 : ∀ w : World, (Go.part 3 #[Value.int .i64 a, Value.int .i64 b] 1).run Try.prog w = .ok (.int .i64 b) w := fun w => run_part_plain w (by kernel_rfl) rfl
  have hs : ∀ w : World, (sizeOf 3).run Try.prog w = .ok 1 w := fun w => by simp [sizeOf, typeInfo, hi, hz1]
  unfold ag
  rw [Op.equalIn]
  simp only [Sem.run_bind, run_underlying Try.underlying31, Result.andThen_ok, hs]
  have hr : List.range' 0 2 1 = [0, 1] := rfl
  simp [Std.Legacy.Range.forIn_eq_forIn_range', Std.Legacy.Range.size, hr, Sem.run_bind, p0, p1, h1]
theorem run_eqE (a b : Int) (w : World) : (Op.equalIn 10000 31 (ag a b) (ag a b)).run Try.prog w = .ok true w := run_eqE_at 9998 a b w
end Go.Proofs.Ytbfagejdpbagjaa
