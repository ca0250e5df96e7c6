/- slices.Sort of numbers of 32 bits: its own body; what it leaves is the sorted row. -/
import Derived.Test.YtedgigoelhcfnaaUsQ
set_option linter.unusedVariables false
set_option linter.unusedSimpArgs false
namespace Go.Proofs.Ytedgigoelhcfnaa
open Go Go.RowKit Go.Sort

set_option maxRecDepth 100000 in
theorem usSort (g c n : Nat) (d : Array UInt32) (rest : List Value) (w : World) (hn : d.size = n) (hb : BkA w g d rest) (hsz : n ≤ 1000000000000) :
    Calls Try.prog 23 #[.slice (some ⟨g, 0, none⟩) n c] w fun e w' => e = .returned (.tuple #[]) ∧ BkA w' g (Go.Sort.sort ltU d) rest ∧ Turn (fun k => k = g) w w' := by
  have hk : Go.Sort.bitsLen n ≤ 62 := (Go.Sort.bitsLen_le_iff n 62).2 (by omega)
  have HP := Lib.hid (usPdq (n + 1) g c 0 n (Go.Sort.bitsLen n) n d rest w (by omega) hn hb (Nat.zero_le _) (Nat.le_refl _) hsz (by omega) (Or.inl rfl))
  have HE := Lib.hid (show Go.Sort.sort ltU d = pdq ltU d 0 n (Go.Sort.bitsLen n) true true by unfold Go.Sort.sort; rw [hn])
  clear hb hn
  go_enter Try.func23, Try.ntmps23
  repeat (first | go_skip | go_guarded | go_step)
  refine (usLen n (by omega) _).mono ?_
  rintro e w' ⟨rfl, rfl⟩
  dsimp only
  repeat (first | go_skip | go_guarded | go_step)
  refine HP.out.mono ?_
  rintro e w' ⟨rfl, h⟩
  have H := Lib.hid h
  clear h
  dsimp only
  repeat (first | go_skip | go_guarded | go_step)
  go_end0
  exact ⟨rfl, by rw [HE.out]; exact H.out.bk, H.out.tn⟩
end Go.Proofs.Ytedgigoelhcfnaa
