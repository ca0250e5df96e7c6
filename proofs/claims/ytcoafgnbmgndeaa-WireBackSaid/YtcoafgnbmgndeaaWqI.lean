/- Layer 6 (wire), the program's take: the deferred function, where the reader panicked and where it did not. -/
import Derived.Test.YtcoafgnbmgndeaaWqA
import Derived.Recover
set_option linter.unusedVariables false
set_option linter.unusedSimpArgs false
namespace Go.Proofs.Ytcoafgnbmgndeaa
open Go Go.RowKit

set_option maxRecDepth 100000 in
set_option maxHeartbeats 4000000 in
theorem catchFact_panic (g ge : Nat) (A : Option Addr) (n c z : Nat) (t : Int) (w : World) (hk : Rg w g A n c t z) (he : Bk w ge 30 [.int .i64 0]) :
    CallsD Try.prog 66 #[.pointer (some ⟨ge, 0, none⟩)] (.panicking [{ v := .iface 79 (.pointer (some ⟨g, 0, none⟩)), recovered := false }]) w fun e u' w' =>
      e = .returned (.tuple #[]) ∧ u' = .panicking [{ v := .iface 79 (.pointer (some ⟨g, 0, none⟩)), recovered := true }] ∧ w' = w.setCell ⟨ge, 0, none⟩ (.int .i64 (z : Int)) := by
  have hb : Bk w g 113 [.slice A n c, .int .i64 t, .int .i64 (z : Int)] := hk
  have q2 := hb.readT (Below.refl _ _) 2 rfl
  have e0 := he.readT (Below.refl _ _) 0 rfl
  have f0 := he.frozen 0
  have hq : ∀ (p : Addr) (w : World), (binOp .neq 20 (.iface 79 (.pointer (some p))) .nilIface).run Try.prog w = .ok (.bool true) w := fun _ _ => by kernel_rfl
  have hta : ∀ (p : Addr) (w : World), (Instr.typeAssert (.iface 79 (.pointer (some p))) 20 79 false).run Try.prog w = .ok (.pointer (some p)) w := fun _ _ => by kernel_rfl
  refine callsD_of_wpS Try.func66 rfl fun c₀ cs hu => ?_
  apply wpS_seq
  apply wpS_region
  simp [wpOpsS, go_sem, recoverD, hu, Try.ntmps66, Exit.thenS]
  apply wpS_seq
  apply wpS_region
  simp [wpOpsS, go_sem, Exit.thenS, hq]
  refine wpS_cond (t := true) (by simp [Act.eval, Array.replicate]) ?_
  simp only [if_true]
  refine wpS_of_wp ?_
  simp only [Array.replicate, List.replicate, List.setIfInBounds_toArray, List.set_cons_zero, List.set_cons_succ, List.append_toArray, List.cons_append, List.nil_append]
  repeat (first | go_skip | go_guarded | go_step)
  simp [bodyPostS, results, Try.results66]
set_option maxRecDepth 100000 in
theorem catchFact_idle (ge : Nat) (w : World) :
    CallsD Try.prog 66 #[.pointer (some ⟨ge, 0, none⟩)] .returning w fun e u' w' => e = .returned (.tuple #[]) ∧ u' = .returning ∧ w' = w := by
  have hq : ∀ (w : World), (binOp .neq 20 .nilIface .nilIface).run Try.prog w = .ok (.bool false) w := fun _ => by kernel_rfl
  refine callsD_of_wpS Try.func66 rfl fun c₀ cs hu => ?_
  apply wpS_seq
  apply wpS_region
  simp [wpOpsS, go_sem, recoverD, hu, Try.ntmps66, Exit.thenS]
  apply wpS_seq
  apply wpS_region
  simp [wpOpsS, go_sem, Exit.thenS, hq]
  refine wpS_cond (t := false) (by simp [Act.eval, Array.replicate]) ?_
  simp only [Bool.false_eq_true, if_false]
  refine wpS_of_wp (wp_skip ?_)
  cases c₀
  simp_all [bodyPostS, results, Try.results66]

set_option maxRecDepth 100000 in
set_option maxHeartbeats 4000000 in
theorem catchClause_panic (g ge : Nat) (A : Option Addr) (n c z : Nat) (t : Int) (w : World) (hk : Rg w g A n c t z) (he : Bk w ge 30 [.int .i64 0]) :
    CallsD Try.prog 76 #[.pointer (some ⟨ge, 0, none⟩)] (.panicking [{ v := .iface 79 (.pointer (some ⟨g, 0, none⟩)), recovered := false }]) w fun e u' w' =>
      e = .returned (.tuple #[]) ∧ u' = .panicking [{ v := .iface 79 (.pointer (some ⟨g, 0, none⟩)), recovered := true }] ∧ w' = w.setCell ⟨ge, 0, none⟩ (.int .i64 (z : Int)) := by
  have hb : Bk w g 113 [.slice A n c, .int .i64 t, .int .i64 (z : Int)] := hk
  have q2 := hb.readT (Below.refl _ _) 2 rfl
  have e0 := he.readT (Below.refl _ _) 0 rfl
  have f0 := he.frozen 0
  have hq : ∀ (p : Addr) (w : World), (binOp .neq 20 (.iface 79 (.pointer (some p))) .nilIface).run Try.prog w = .ok (.bool true) w := fun _ _ => by kernel_rfl
  have hta : ∀ (p : Addr) (w : World), (Instr.typeAssert (.iface 79 (.pointer (some p))) 20 79 false).run Try.prog w = .ok (.pointer (some p)) w := fun _ _ => by kernel_rfl
  refine callsD_of_wpS Try.func76 rfl fun c₀ cs hu => ?_
  apply wpS_seq
  apply wpS_region
  simp [wpOpsS, go_sem, recoverD, hu, Try.ntmps76, Exit.thenS]
  apply wpS_seq
  apply wpS_region
  simp [wpOpsS, go_sem, Exit.thenS, hq]
  refine wpS_cond (t := true) (by simp [Act.eval, Array.replicate]) ?_
  simp only [if_true]
  refine wpS_of_wp ?_
  simp only [Array.replicate, List.replicate, List.setIfInBounds_toArray, List.set_cons_zero, List.set_cons_succ, List.append_toArray, List.cons_append, List.nil_append]
  repeat (first | go_skip | go_guarded | go_step)
  simp [bodyPostS, results, Try.results76]
set_option maxRecDepth 100000 in
theorem catchClause_idle (ge : Nat) (w : World) :
    CallsD Try.prog 76 #[.pointer (some ⟨ge, 0, none⟩)] .returning w fun e u' w' => e = .returned (.tuple #[]) ∧ u' = .returning ∧ w' = w := by
  have hq : ∀ (w : World), (binOp .neq 20 .nilIface .nilIface).run Try.prog w = .ok (.bool false) w := fun _ => by kernel_rfl
  refine callsD_of_wpS Try.func76 rfl fun c₀ cs hu => ?_
  apply wpS_seq
  apply wpS_region
  simp [wpOpsS, go_sem, recoverD, hu, Try.ntmps76, Exit.thenS]
  apply wpS_seq
  apply wpS_region
  simp [wpOpsS, go_sem, Exit.thenS, hq]
  refine wpS_cond (t := false) (by simp [Act.eval, Array.replicate]) ?_
  simp only [Bool.false_eq_true, if_false]
  refine wpS_of_wp (wp_skip ?_)
  cases c₀
  simp_all [bodyPostS, results, Try.results76]

set_option maxRecDepth 100000 in
set_option maxHeartbeats 4000000 in
theorem catchRule_panic (g ge : Nat) (A : Option Addr) (n c z : Nat) (t : Int) (w : World) (hk : Rg w g A n c t z) (he : Bk w ge 30 [.int .i64 0]) :
    CallsD Try.prog 86 #[.pointer (some ⟨ge, 0, none⟩)] (.panicking [{ v := .iface 79 (.pointer (some ⟨g, 0, none⟩)), recovered := false }]) w fun e u' w' =>
      e = .returned (.tuple #[]) ∧ u' = .panicking [{ v := .iface 79 (.pointer (some ⟨g, 0, none⟩)), recovered := true }] ∧ w' = w.setCell ⟨ge, 0, none⟩ (.int .i64 (z : Int)) := by
  have hb : Bk w g 113 [.slice A n c, .int .i64 t, .int .i64 (z : Int)] := hk
  have q2 := hb.readT (Below.refl _ _) 2 rfl
  have e0 := he.readT (Below.refl _ _) 0 rfl
  have f0 := he.frozen 0
  have hq : ∀ (p : Addr) (w : World), (binOp .neq 20 (.iface 79 (.pointer (some p))) .nilIface).run Try.prog w = .ok (.bool true) w := fun _ _ => by kernel_rfl
  have hta : ∀ (p : Addr) (w : World), (Instr.typeAssert (.iface 79 (.pointer (some p))) 20 79 false).run Try.prog w = .ok (.pointer (some p)) w := fun _ _ => by kernel_rfl
  refine callsD_of_wpS Try.func86 rfl fun c₀ cs hu => ?_
  apply wpS_seq
  apply wpS_region
  simp [wpOpsS, go_sem, recoverD, hu, Try.ntmps86, Exit.thenS]
  apply wpS_seq
  apply wpS_region
  simp [wpOpsS, go_sem, Exit.thenS, hq]
  refine wpS_cond (t := true) (by simp [Act.eval, Array.replicate]) ?_
  simp only [if_true]
  refine wpS_of_wp ?_
  simp only [Array.replicate, List.replicate, List.setIfInBounds_toArray, List.set_cons_zero, List.set_cons_succ, List.append_toArray, List.cons_append, List.nil_append]
  repeat (first | go_skip | go_guarded | go_step)
  simp [bodyPostS, results, Try.results86]
set_option maxRecDepth 100000 in
theorem catchRule_idle (ge : Nat) (w : World) :
    CallsD Try.prog 86 #[.pointer (some ⟨ge, 0, none⟩)] .returning w fun e u' w' => e = .returned (.tuple #[]) ∧ u' = .returning ∧ w' = w := by
  have hq : ∀ (w : World), (binOp .neq 20 .nilIface .nilIface).run Try.prog w = .ok (.bool false) w := fun _ => by kernel_rfl
  refine callsD_of_wpS Try.func86 rfl fun c₀ cs hu => ?_
  apply wpS_seq
  apply wpS_region
  simp [wpOpsS, go_sem, recoverD, hu, Try.ntmps86, Exit.thenS]
  apply wpS_seq
  apply wpS_region
  simp [wpOpsS, go_sem, Exit.thenS, hq]
  refine wpS_cond (t := false) (by simp [Act.eval, Array.replicate]) ?_
  simp only [Bool.false_eq_true, if_false]
  refine wpS_of_wp (wp_skip ?_)
  cases c₀
  simp_all [bodyPostS, results, Try.results86]
end Go.Proofs.Ytcoafgnbmgndeaa
