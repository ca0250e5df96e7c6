/- Layer 7 (lex): what a text's words can be, for the laws. -/
import Derived.Test.YtjafbkkdjmlaoaaLxJ
import Derived.Test.YtjafbkkdjmlaoaaLxN
import Derived.Test.YtjafbkkdjmlaoaaArg
set_option linter.unusedVariables false
set_option linter.unusedSimpArgs false
namespace Go.Proofs.Ytjafbkkdjmlaoaa
open Go Go.RowKit

theorem stand_count {bs : List UInt8} : ∀ (ws : List Wd) (a : Nat), Stand bs a ws → a ≤ bs.length → ws.length + a ≤ bs.length
  | [], a, _, ha => by simpa using ha
  | w :: ws, a, h, ha => by
    have h1 := h.2.1
    have h2 := h.2.2.1
    have h3 := stand_count ws _ h.2.2.2.2 h2
    have h4 : 1 ≤ w.2.1.length := by
      cases hw : w.2.1 with
      | nil => exact absurd hw h.1
      | cons c l => simp
    rw [List.length_cons]
    omega
theorem wordsL_split {l : List UInt8} {ws : List Wd} {y z : Nat} (hl : l.length ≤ 65536) (h : (ws, y, z) = wordsL l) :
    (z = 0 ∧ y = 0 ∧ lexG 0 l = (ws, none)) ∨ (z = 5 ∧ ws = [] ∧ y < l.length ∧ ∃ vs, lexG 0 l = (vs, some y)) := by
  cases hx : lexG 0 l with
  | mk vs o =>
    cases o with
    | none =>
      rw [wordsL_ok hl hx] at h
      simp only [Prod.mk.injEq] at h
      obtain ⟨rfl, rfl, rfl⟩ := h
      exact .inl ⟨rfl, rfl, rfl⟩
    | some k =>
      have hp := lexG_pos 0 l (k := k) (by rw [hx])
      rw [wordsL_bad hl hx] at h
      simp only [Prod.mk.injEq] at h
      obtain ⟨rfl, rfl, rfl⟩ := h
      exact .inr ⟨rfl, rfl, by omega, vs, rfl⟩
theorem lexG_stand0 (l : List UInt8) : Stand l 0 (lexG 0 l).1 := by
  have := lexG_stand [] l
  simpa using this
theorem wordsL_small {l : List UInt8} {ws : List Wd} {y z : Nat} (hl : l.length ≤ 65536) (h : (ws, y, z) = wordsL l) : ws.length ≤ l.length ∧ (joinL ws).length ≤ 2 * l.length ∧ y ≤ l.length := by
  rcases wordsL_split hl h with ⟨rfl, rfl, hx⟩ | ⟨rfl, rfl, hy, _⟩
  · have hs := lexG_stand0 l
    rw [hx] at hs
    have h1 := stand_count ws 0 hs (by omega)
    have h2 := joinL_len ws 0 hs (by omega)
    omega
  · simp [joinL]; omega
theorem stand_at {bs : List UInt8} : ∀ (ws : List Wd) (a : Nat), Stand bs a ws → ∀ x ∈ ws, x.2.2 + x.2.1.length ≤ bs.length
  | [], a, _, x, hx => by cases hx
  | w :: ws, a, h, x, hx => by
    rcases List.mem_cons.1 hx with rfl | hx
    · exact h.2.2.1
    · exact stand_at ws _ h.2.2.2.2 x hx
theorem wordsL_at {l : List UInt8} {ws : List Wd} {y z : Nat} (hl : l.length ≤ 65536) (h : (ws, y, z) = wordsL l) : ∀ x ∈ ws, x.2.2 + x.2.1.length ≤ l.length := by
  rcases wordsL_split hl h with ⟨rfl, rfl, hx⟩ | ⟨rfl, rfl, hy, _⟩
  · have hs := lexG_stand0 l
    rw [hx] at hs
    exact stand_at ws 0 hs
  · intro x hx; cases hx
end Go.Proofs.Ytjafbkkdjmlaoaa
