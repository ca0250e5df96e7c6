/- Layer 7 (lex): what is asked of the program; the statements' own same, and the anchor. -/
import Derived.Test.YtjafbkkdjmlaoaaLxE
set_option linter.unusedVariables false
set_option linter.unusedSimpArgs false
namespace Go.Proofs.Ytjafbkkdjmlaoaa
open Go Go.RowKit

def WordsOk : Prop := ∀ (s : ByteArray) (w : World), s.size ≤ 200000 →
  Calls Try.prog 9 #[sv s] w fun e w' => ∃ (A : Option Addr) (m c : Nat) (ws : List Wd) (y z : Nat), e = .returned (.tuple #[.slice A m c, .int .i64 (y : Int), .int .i64 (z : Int)]) ∧ OwV 36 w' w.heap.size A c m ws ∧ Below w.heap.size w w' ∧ (ws, y, z) = wordsL (tb s)
def JoinOk : Prop := ∀ (A : Option Addr) (n c : Nat) (ws : List Wd) (w : World), RdV w w.heap.size A n ws → n ≤ c → n ≤ 1000000 → (joinL ws).length ≤ 1000000000 →
  Calls Try.prog 12 #[.slice A n c] w fun e w' => e = .returned (strV (joinL ws)) ∧ Below w.heap.size w w'
/-- All of it. -/
structure LexOk : Prop where
  words : WordsOk
  join : JoinOk

set_option maxRecDepth 100000 in
set_option maxHeartbeats 4000000 in
theorem lSame_any (A A' : Option Addr) (n c c' : Nat) (ws : List Wd) (w : World) (hr : RdV w w.heap.size A n ws) (hr' : RdV w w.heap.size A' n ws) (hn : n ≤ 1000000) :
    Calls Try.prog 11 #[.slice A n c, .slice A' n c', .bool true] w fun e w' => e = .returned (.bool true) ∧ ∃ q, w' = w.drewN q := by
  have HR := Lib.hid hr
  have HR' := Lib.hid hr'
  clear hr hr'
  go_enter Try.func11, Try.ntmps11
  repeat (first | go_skip | go_guarded | go_step)
  go_loopw [7] (fun p' wr => ∃ (i q : Nat), i ≤ n ∧ p' = .int .i64 (i : Int) ∧ wr = w.drewN q) (fun p _ => n - (intOf p).toNat)
  case atStart => exact ⟨0, 0, by omega, rfl, rfl⟩
  case round =>
    obtain ⟨i, q, hi, rfl, rfl⟩ := hrel
    by_cases hlt : i < n
    · have hci : (i : Int) < (n : Int) := by omega
      obtain ⟨b, o, ⟨k, t, a⟩, hA, hbb, hx, hc0, hc1, hc2⟩ := rdV_at HR.out hlt
      obtain ⟨b', o', x', hA', hbb', hx', hd0, hd1, hd2⟩ := rdV_at HR'.out hlt
      rw [hx] at hx'
      obtain rfl := Option.some.inj hx'
      subst hA hA'
      dsimp only at hc0 hc1 hc2 hd0 hd1 hd2
      obtain ⟨T, hT⟩ : ∃ T : ByteArray, T = ⟨t.toArray⟩ := ⟨_, rfl⟩
      rw [show strV t = sv T by rw [hT]] at hc1 hd1
      have r0 : ∀ q, (w.drewN q).cell? ⟨b, o + i * 3, none⟩ = some (.int .u8 (k : Int)) := fun _ => hc0
      have r1 : ∀ q, (w.drewN q).cell? ⟨b, o + i * 3 + 1, none⟩ = some (sv T) := fun _ => hc1
      have r2 : ∀ q, (w.drewN q).cell? ⟨b, o + i * 3 + 2, none⟩ = some (.int .i64 (a : Int)) := fun _ => hc2
      have s0 : ∀ q, (w.drewN q).cell? ⟨b', o' + i * 3, none⟩ = some (.int .u8 (k : Int)) := fun _ => hd0
      have s1 : ∀ q, (w.drewN q).cell? ⟨b', o' + i * 3 + 1, none⟩ = some (sv T) := fun _ => hd1
      have s2 : ∀ q, (w.drewN q).cell? ⟨b', o' + i * 3 + 2, none⟩ = some (.int .i64 (a : Int)) := fun _ => hd2
      clear hx hx' hT hc0 hc1 hc2 hd0 hd1 hd2
      repeat (first | go_skip | go_guarded | go_step)
      go_quiet (fail)
      repeat (first | go_skip | go_guarded | go_step)
      go_roundw
      case rel => exact ⟨i + 1, _, by omega, by go_num, rfl⟩
      case measure => simp [intOf] <;> omega
    · obtain rfl : i = n := by omega
      repeat (first | go_skip | go_guarded | go_step)
      go_ret
      exact ⟨rfl, _, rfl⟩

/-! ### the anchor's three texts -/
def wksL : List Wd := [(1, [112], 0), (5, [40], 1), (2, [88], 2), (6, [41], 3), (9, [58, 45], 4), (3, [110, 111, 116], 6), (1, [113], 10), (8, [46], 11)]
theorem words1 : wordsL [112, 40, 88, 41, 58, 45, 110, 111, 116, 32, 113, 46, 37, 114] = (wksL, 0, 0) := by
  refine wordsL_ok (by decide) ?_
  rw [lexG_word (l1 := [112, 40, 88, 41, 58, 45, 110, 111, 116, 32, 113, 46, 37, 114]) (k := 1) (n := 1) (by decide) (by decide) (by decide)]
  rw [show ([112, 40, 88, 41, 58, 45, 110, 111, 116, 32, 113, 46, 37, 114] : List UInt8).drop 1 = [40, 88, 41, 58, 45, 110, 111, 116, 32, 113, 46, 37, 114] from rfl]
  rw [lexG_word (l1 := [40, 88, 41, 58, 45, 110, 111, 116, 32, 113, 46, 37, 114]) (k := 5) (n := 1) (by decide) (by decide) (by decide)]
  rw [show ([40, 88, 41, 58, 45, 110, 111, 116, 32, 113, 46, 37, 114] : List UInt8).drop 1 = [88, 41, 58, 45, 110, 111, 116, 32, 113, 46, 37, 114] from rfl]
  rw [lexG_word (l1 := [88, 41, 58, 45, 110, 111, 116, 32, 113, 46, 37, 114]) (k := 2) (n := 1) (by decide) (by decide) (by decide)]
  rw [show ([88, 41, 58, 45, 110, 111, 116, 32, 113, 46, 37, 114] : List UInt8).drop 1 = [41, 58, 45, 110, 111, 116, 32, 113, 46, 37, 114] from rfl]
  rw [lexG_word (l1 := [41, 58, 45, 110, 111, 116, 32, 113, 46, 37, 114]) (k := 6) (n := 1) (by decide) (by decide) (by decide)]
  rw [show ([41, 58, 45, 110, 111, 116, 32, 113, 46, 37, 114] : List UInt8).drop 1 = [58, 45, 110, 111, 116, 32, 113, 46, 37, 114] from rfl]
  rw [lexG_word (l1 := [58, 45, 110, 111, 116, 32, 113, 46, 37, 114]) (k := 9) (n := 2) (by decide) (by decide) (by decide)]
  rw [show ([58, 45, 110, 111, 116, 32, 113, 46, 37, 114] : List UInt8).drop 2 = [110, 111, 116, 32, 113, 46, 37, 114] from rfl]
  rw [lexG_word (l1 := [110, 111, 116, 32, 113, 46, 37, 114]) (k := 3) (n := 3) (by decide) (by decide) (by decide)]
  rw [show ([110, 111, 116, 32, 113, 46, 37, 114] : List UInt8).drop 3 = [32, 113, 46, 37, 114] from rfl]
  rw [lexG_word (l1 := [113, 46, 37, 114]) (k := 1) (n := 1) (by decide) (by decide) (by decide)]
  rw [show ([113, 46, 37, 114] : List UInt8).drop 1 = [46, 37, 114] from rfl]
  rw [lexG_word (l1 := [46, 37, 114]) (k := 8) (n := 1) (by decide) (by decide) (by decide)]
  rw [show ([46, 37, 114] : List UInt8).drop 1 = [37, 114] from rfl]
  rw [lexG_end (by decide)]
  rfl
theorem words2 : wordsL [97, 32, 58, 32, 98] = ([], 2, 5) := by
  refine wordsL_bad (ws := [(1, [97], 0)]) (by decide) ?_
  rw [lexG_word (l1 := [97, 32, 58, 32, 98]) (k := 1) (n := 1) (by decide) (by decide) (by decide)]
  rw [show ([97, 32, 58, 32, 98] : List UInt8).drop 1 = [32, 58, 32, 98] from rfl]
  rw [lexG_bad (l1 := [58, 32, 98]) (by decide) (by decide) (by decide)]
  rfl
theorem words3 : wordsL [97, 63] = ([], 1, 5) := by
  refine wordsL_bad (ws := [(1, [97], 0)]) (by decide) ?_
  rw [lexG_word (l1 := [97, 63]) (k := 1) (n := 1) (by decide) (by decide) (by decide)]
  rw [show ([97, 63] : List UInt8).drop 1 = [63] from rfl]
  rw [lexG_bad (l1 := [63]) (by decide) (by decide) (by decide)]
  rfl
theorem join1 : joinL wksL = [112, 32, 40, 32, 88, 32, 41, 32, 58, 45, 32, 110, 111, 116, 32, 113, 32, 46] := by decide
end Go.Proofs.Ytjafbkkdjmlaoaa
