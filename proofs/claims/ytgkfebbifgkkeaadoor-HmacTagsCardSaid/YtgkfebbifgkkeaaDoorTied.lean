/- The tables of layer 2 (sha), out of the row's condition; the witness. -/
import Derived.Test.YtgkfebbifgkkeaaDoorArg
import Derived.Test.YtgkfebbifgkkeaaDoorShaC
import Derived.Test.YtgkfebbifgkkeaaDoorTie
import Derived.Lib.LaidTab
import Derived.LaidMore
import Derived.Stop.Joined
import Derived.Stop.LaidErr
set_option linter.unusedVariables false
namespace Go.Proofs.YtgkfebbifgkkeaaDoor
open Go Go.RowKit Go.ChangeShapes Go.WideShapes Go.ChangeAt

def firstZ : List Int := [1779033703, 3144134277, 1013904242, 2773480762, 1359893119, 2600822924, 528734635, 1541459225]
def kZ : List Int := kNum.map fun n : Nat => Int.ofNat n
def laid2 : List (String × DataW Unit) := [("bailey/sha.first", Rows.laid_bailey_sha_first), ("bailey/sha.constants", Rows.laid_bailey_sha_constants)]
theorem door_met (os : Os) (args : Array Value) : laidMetH Tryd.prog laid2 ((World.doorLaid Tryd.prog 19 os).forCall (fun _ _ => 0) ⟨#[], args, []⟩).memory :=
  laidMetH_of_parts3 (fuel := 8) (laidMet_of_run' 8 (by kernel_rfl) (by kernel_rfl)) (by kernel_rfl) (by kernel_rfl)
theorem gF : Tryd.prog.globalNamed "bailey/sha.first" = some 0 := by kernel_rfl
theorem gK : Tryd.prog.globalNamed "bailey/sha.constants" = some 1 := by kernel_rfl
theorem tab_of_laid {W : World} (h : laidMetH Tryd.prog laid2 W) : Tab W := by
  rw [MakeChecks.laidMetH_plain _ _ _ (by kernel_rfl)] at h
  have h1 : Lib.TabIs Tryd.prog W "bailey/sha.first" .u32 firstZ := Lib.tabIs_of_head (t := 71) (e := 53) (n := 8) gF (by kernel_rfl) Tryd.underlying71 Tryd.underlying53 (by kernel_rfl) (by kernel_rfl) h
  have h2 : Lib.TabIs Tryd.prog W "bailey/sha.constants" .u32 kZ := Lib.tabIs_of_head (t := 86) (e := 53) (n := 64) gK (by kernel_rfl) Tryd.underlying86 Tryd.underlying53 (by kernel_rfl) (by kernel_rfl) (laidMet.tail h)
  refine ⟨fun j v hv => ?_, fun j v hv => ?_⟩
  · have hj : j < 8 := (List.getElem?_eq_some_iff.1 hv).1
    rw [Nat.zero_add, h1.cell gF j hj, ← hv]
    have c : j = 0 ∨ j = 1 ∨ j = 2 ∨ j = 3 ∨ j = 4 ∨ j = 5 ∨ j = 6 ∨ j = 7 := by omega
    rcases c with rfl | rfl | rfl | rfl | rfl | rfl | rfl | rfl <;> rfl
  · have hj : j < 64 := (List.getElem?_eq_some_iff.1 hv).1
    rw [Nat.zero_add, h2.cell gK j hj, ← hv]
    have key : ∀ j, j < 64 → some (Value.int .u32 (kZ.getD j 0)) = (kL.map uv)[j]? := by
      intro j hj
      have hl : j < kNum.length := hj
      unfold kZ kL uv ui
      simp only [List.getD, List.getElem?_map, List.getElem?_eq_getElem hl, Option.map_some, Option.getD_some]
      have hb : ∀ n ∈ kNum, n < 4294967296 := by decide
      have := hb _ (List.getElem_mem hl)
      rw [UInt32.toNat_ofNat_of_lt' (by show _ < 4294967296; exact this)]
      rfl
    exact key j hj
end Go.Proofs.YtgkfebbifgkkeaaDoor
