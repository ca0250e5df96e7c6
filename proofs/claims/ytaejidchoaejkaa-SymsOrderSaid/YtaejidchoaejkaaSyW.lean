/- Layer 4 (syms): the anchor of the statements. -/
import Derived.Test.YtaejidchoaejkaaSyL
set_option linter.unusedVariables false
set_option linter.unusedSimpArgs false
namespace Go.Proofs.Ytaejidchoaejkaa
open Go Go.RowKit

/-- What is asked of the program's May. -/
def MayOk : Prop := ∀ (s : ByteArray) (W : World), s.size ≤ 1099511627776 → Calls Try.prog 15 #[sv s] W fun e w' => e = .returned (.bool (mayB s)) ∧ W = w'
abbrev bA : ByteArray := ⟨#[97]⟩
abbrev bB1 : ByteArray := ⟨#[66, 95, 49]⟩
abbrev bC : ByteArray := ⟨#[99]⟩
abbrev bAB : ByteArray := ⟨#[97, 32, 98]⟩
abbrev bE : ByteArray := ⟨#[]⟩
theorem pw1 : putL [] bA = ([bA], 0, 0) := by decide +kernel
theorem pw2 : putL [bA] bB1 = ([bA, bB1], 1, 0) := by decide +kernel
theorem pw3 : putL [bA, bB1] bA = ([bA, bB1], 0, 0) := by decide +kernel
theorem pw4 : putL [bA, bB1] bAB = ([bA, bB1], 0, 8) := by decide +kernel
theorem pw5 : putL [bA, bB1] bE = ([bA, bB1], 0, 8) := by decide +kernel
theorem pwF : findO [bA, bB1] bC = none := by decide +kernel

/-- Put into a table that is of the call's own. -/
theorem tPut' (hmay : MayOk) (g : Nat) (F : Nat → Prop) (l : List ByteArray) (s : ByteArray) (B : Nat) (w : World) (h : Tb w g F l) (hB : ∀ k, F k → B ≤ k) (hBw : B ≤ w.heap.size) (hl : l.length ≤ 1000000) (hs : s.size ≤ 1099511627776)
    (l' : List ByteArray) (n e : Nat) (hp : putL l s = (l', n, e)) :
    Calls Try.prog 13 #[.pointer (some ⟨g, 0, none⟩), sv s] w fun r w' => r = .returned (.tuple #[.int .u32 (n : Int), .int .i64 (e : Int)]) ∧
      ∃ F', Tb w' g F' l' ∧ (∀ k, F' k → B ≤ k) ∧ Below B w w' := by
  refine (tPut g F l s w h hl hs (fun W => hmay s W hs)).mono ?_
  rintro r w' ⟨rfl, F', h1, h2, h3⟩
  rw [hp] at h1 ⊢
  refine ⟨rfl, F', h1, fun k hk => ?_, h2.below (fun k _ hk => hB k hk) hBw⟩
  rcases h3 k hk with h | h
  · exact hB k h
  · omega

set_option maxRecDepth 100000 in
set_option maxHeartbeats 1000000 in
theorem works_any (hmay : MayOk) (w : World) : Calls Try.prog 9 #[] w fun e w' => e = .returned (.bool true) ∧ Below w.heap.size w w' := by
  go_enter Try.func9, Try.ntmps9
  repeat go_step
  refine (tNew w).mono ?_
  rintro e W0 ⟨g, F0, rfl, h0, hF0, hb0⟩
  dsimp only
  repeat go_step
  refine (tPut' hmay g F0 [] bA w.heap.size W0 h0 hF0 hb0.size (by simp) (by decide) _ _ _ pw1).mono ?_
  rintro e W1 ⟨rfl, F1, h1, hF1, hb1⟩
  have hb1 := hb0.trans hb1
  clear h0 hF0 hb0
  dsimp only
  repeat go_step
  refine (tPut' hmay g F1 [bA] bB1 w.heap.size W1 h1 hF1 hb1.size (by simp) (by decide) _ _ _ pw2).mono ?_
  rintro e W2 ⟨rfl, F2, h2, hF2, hb2⟩
  have hb2 := hb1.trans hb2
  clear h1 hF1 hb1
  dsimp only
  repeat go_step
  refine (tPut' hmay g F2 [bA, bB1] bA w.heap.size W2 h2 hF2 hb2.size (by simp) (by decide) _ _ _ pw3).mono ?_
  rintro e W3 ⟨rfl, F3, h3, hF3, hb3⟩
  have hb3 := hb2.trans hb3
  clear h2 hF2 hb2
  dsimp only
  repeat go_step
  refine (tName g F3 [bA, bB1] 1 W3 h3 (by omega)).mono ?_
  rintro e w4 ⟨rfl, rfl⟩
  rw [show [bA, bB1].getD 1 ⟨#[]⟩ = bB1 from rfl, show decide (1 < [bA, bB1].length) = true from rfl]
  dsimp only
  repeat go_step
  refine (tFind g F3 [bA, bB1] bC W3 h3 (by decide)).mono ?_
  rintro e w4 ⟨rfl, rfl⟩
  rw [pwF]
  dsimp only [Option.getD, Option.isSome]
  repeat go_step
  refine (tPut' hmay g F3 [bA, bB1] bAB w.heap.size W3 h3 hF3 hb3.size (by simp) (by decide) _ _ _ pw4).mono ?_
  rintro e W4 ⟨rfl, F4, h4, hF4, hb4⟩
  have hb4 := hb3.trans hb4
  clear h3 hF3 hb3
  dsimp only
  repeat go_step
  refine (tPut' hmay g F4 [bA, bB1] bE w.heap.size W4 h4 hF4 hb4.size (by simp) (by decide) _ _ _ pw5).mono ?_
  rintro e W5 ⟨rfl, F5, h5, hF5, hb5⟩
  have hb5 := hb4.trans hb5
  clear h4 hF4 hb4 h5 hF5
  dsimp only
  go_wp2
  go_ret
  exact ⟨rfl, hb5⟩
end Go.Proofs.Ytaejidchoaejkaa
