/- Layer 4 (syms): how the document names a number. -/
import Derived.Test.YtaejidchoaejkaaSyA
set_option linter.unusedVariables false
set_option linter.unusedSimpArgs false
namespace Go.Proofs.Ytaejidchoaejkaa
open Go Go.RowKit

def lett (n : Nat) : UInt8 := UInt8.ofNat (97 + n % 26)
theorem lett_nat (n : Nat) : (lett n).toNat = 97 + n % 26 := by
  unfold lett
  rw [UInt8.toNat_ofNat_of_lt' (by show _ < 256; omega)]
def digs (n : Nat) : List UInt8 := if h : n = 0 then [] else digs (n / 26) ++ [lett n]
termination_by n
decreasing_by omega
def fullN (n : Nat) : List UInt8 := if n = 0 then [lett 0] else digs n
/-- The name of a number, as bytes. -/
def nthL (n : Nat) : List UInt8 := [110, 95] ++ fullN n
def nthS (n : Nat) : ByteArray := ⟨(nthL n).toArray⟩
theorem digs_step (n : Nat) (h : n ≠ 0) : digs n = digs (n / 26) ++ [lett n] := by
  rw [digs, dif_neg h]
theorem digs_zero : digs 0 = [] := by rw [digs]; simp
theorem digs_len (n : Nat) : (digs n).length ≤ n := by
  induction n using Nat.strongRecOn with
  | ind n ih =>
    by_cases h : n = 0
    · subst h
      simp [digs_zero]
    · rw [digs_step n h, List.length_append, List.length_singleton]
      have := ih (n / 26) (by omega)
      omega
theorem fullN_len (n : Nat) : (fullN n).length ≤ n + 1 := by
  unfold fullN
  have := digs_len n
  split
  · simp
  · omega

set_option maxRecDepth 100000 in
set_option maxHeartbeats 1000000 in
theorem nth_any (n : Nat) (w : World) (hn : n ≤ 1000000) :
    Calls Try.prog 23 #[.int .i64 (n : Int)] w fun e w' => e = .returned (.string (nthS n)) ∧ Below w.heap.size w w' := by
  go_enter Try.func23, Try.ntmps23
  repeat go_step
  go_loopw [0, 3] (fun p q wr => ∃ (m : Nat) (out : List UInt8), m ≤ n ∧ p = .int .i64 (m : Int) ∧ q = strV out ∧ ((out = [] ∧ m = n) ∨ (out ≠ [] ∧ digs m ++ out = fullN n)) ∧ Below w.heap.size w wr)
    (fun p q _ => 2 * (intOf p).toNat + (match q with | .string s => if s.size = 0 then 1 else 0 | _ => 0))
  case atStart => exact ⟨n, [], Nat.le_refl _, rfl, rfl, .inl ⟨rfl, rfl⟩, Below.refl _ _⟩
  case round =>
    obtain ⟨m, out, hm, rfl, rfl, hor, hbw⟩ := hrel
    obtain ⟨r, hr⟩ : ∃ r, r = m % 26 := ⟨_, rfl⟩
    have e1 : (m : Int).tmod 26 = (r : Int) := by rw [Int.tmod_eq_emod_of_nonneg (by omega)]; omega
    have e2 : (m : Int) % 26 = (r : Int) := by omega
    have hlt : (97 : Int) + (r : Int) = ((lett m).toNat : Int) := by rw [lett_nat]; omega
    have hlw : IntKind.u8.wrap ((lett m).toNat : Int) = ((lett m).toNat : Int) := by rw [lett_nat, IntKind.wrap_u8]; omega
    have k1 : (convert 49 9 (.slice (some ⟨wr.heap.size, 0, none⟩) 1 1)).run Try.prog (wr.alloc (.cells #[.int .u8 ((lett m).toNat : Int)] 5)) = .ok (strV [lett m]) (wr.alloc (.cells #[.int .u8 ((lett m).toNat : Int)] 5)) :=
      run_conv_str (P := Try.prog) _ 49 9 5 Try.underlying49 Try.underlying5 Try.underlying9 (wr.heap.size + 1) _ _ _ [lett m] ⟨by simp, fun _ => ⟨_, _, rfl, by omega, fun j u hu => by
        rw [Nat.zero_add, cell_of_row _ _ j #[.int .u8 ((lett m).toNat : Int)] 5 (0, 0) (heap_alloc_new wr _)]
        simpa [bv] using hu⟩⟩
    have hol : out.length ≤ 1000001 := by
      rcases hor with ⟨rfl, _⟩ | ⟨_, h⟩
      · simp
      · have h1 := congrArg List.length h
        have h2 := fullN_len n
        rw [List.length_append] at h1
        omega
    have HOR := Lib.hid hor
    have HR := Lib.hid hr
    have hba := hbw.alloc hbw.size (.cells #[.int .u8 ((lett m).toNat : Int)] 5)
    clear hor hr
    rcases Nat.eq_zero_or_pos m with h0 | h0
    · subst h0
      cases out with
      | nil =>
        have hn0 : n = 0 := by
          rcases HOR.out with h | h
          · exact h.2.symm
          · exact absurd rfl h.1
        subst hn0
        have k0 : (convert 49 9 (.slice (some ⟨wr.heap.size, 0, none⟩) 1 1)).run Try.prog (wr.alloc (.cells #[.int .u8 97] 5)) = .ok (strV [97]) (wr.alloc (.cells #[.int .u8 97] 5)) := k1
        have hcat : ({ data := #[97] } ++ { data := #[] } : ByteArray) = { data := #[97] } := by decide
        clear k1
        repeat (first | go_step | go_upon)
        go_roundw
        case rel => exact ⟨0, [97], by omega, by go_num, rfl, .inr ⟨by simp, by rw [digs_zero]; rfl⟩, hba⟩
        case measure => decide
      | cons x xs =>
        have he : (x :: xs).isEmpty = false := rfl
        have hx : digs 0 ++ (x :: xs) = fullN n := by
          rcases HOR.out with h | h
          · exact absurd h.1 (by simp)
          · exact h.2
        rw [digs_zero, List.nil_append] at hx
        have hcat : ({ data := #[110, 95] } ++ { data := (x :: xs).toArray } : ByteArray) = nthS n := by
          unfold nthS nthL
          rw [← hx]
          apply ByteArray.ext
          simp
        have hxl : xs.length ≤ 1000000 := by simpa using hol
        have hb : ¬ (9223372036854775807 < 2 + (xs.length + 1)) := by omega
        clear k1 hx
        go_wp2
        go_ret
        exact ⟨rfl, hbw⟩
    · have hd : decide (0 < m) = true := decide_eq_true h0
      have hcat : ({ data := #[lett m] } ++ { data := out.toArray } : ByteArray) = { data := (lett m :: out).toArray } := by
        apply ByteArray.ext
        simp
      have hq : (m : Int).tdiv 26 = ((m / 26 : Nat) : Int) := by simp
      have hfull : digs (m / 26) ++ (lett m :: out) = fullN n := by
        have hd2 := digs_step m (by omega)
        rcases HOR.out with ⟨rfl, rfl⟩ | ⟨_, h⟩
        · unfold fullN
          rw [if_neg (by omega), hd2]
        · rw [← h, hd2, List.append_assoc]
          rfl
      have HF := Lib.hid hfull
      clear hfull
      repeat (first | go_step | go_upon)
      go_roundw
      case rel => exact ⟨m / 26, lett m :: out, by omega, by go_num, rfl, .inr ⟨by simp, HF.out⟩, hba⟩
      case measure => simp [intOf, ByteArray.size]; omega
end Go.Proofs.Ytaejidchoaejkaa
