/- Layer 7 (lex), the document's Join. -/
import Derived.Test.YtjafbkkdjmlaoaaLxD
set_option linter.unusedVariables false
set_option linter.unusedSimpArgs false
namespace Go.Proofs.Ytjafbkkdjmlaoaa
open Go Go.RowKit

theorem strL_add (a b : List UInt8) : (({ data := a.toArray } : ByteArray) ++ ({ data := b.toArray } : ByteArray)) = { data := (a ++ b).toArray } := by
  apply ByteArray.ext
  rw [ByteArray.data_append]
  simp
/-- Two texts, one behind the other. -/
theorem run_cat (x t : List UInt8) (h : x.length + t.length ≤ 1099511627776) (w : World) : (binOp .add 9 (strV x) (strV t)).run Try.prog w = .ok (strV (x ++ t)) w := by
  have h1 : (({ data := x.toArray } : ByteArray)).size = x.length := by simp [ByteArray.size]
  have h2 : (({ data := t.toArray } : ByteArray)).size = t.length := by simp [ByteArray.size]
  have e := strL_add x t
  go_simp
  omega
theorem tb_add (a b : ByteArray) : tb (a ++ b) = tb a ++ tb b := by simp [tb, ByteArray.data_append]
theorem joinL_snoc : ∀ (l : List Wd) (w : Wd), joinL (l ++ [w]) = if l = [] then w.2.1 else joinL l ++ 32 :: w.2.1
  | [], w => by simp [joinL]
  | [v], w => by simp [joinL]
  | v :: u :: l, w => by
    have h := joinL_snoc (u :: l) w
    rw [if_neg (by simp)] at h
    rw [if_neg (by simp)]
    show v.2.1 ++ 32 :: joinL ((u :: l) ++ [w]) = _
    rw [h]
    simp [joinL]
theorem joinL_le (a : List Wd) : ∀ b : List Wd, (joinL a).length ≤ (joinL (a ++ b)).length := by
  intro b
  induction b generalizing a with
  | nil => simp
  | cons v b ih =>
    have h := ih (a ++ [v])
    rw [List.append_assoc, List.singleton_append] at h
    refine Nat.le_trans ?_ h
    rw [joinL_snoc]
    split
    · rename_i e; subst e; simp [joinL]
    · simp
theorem joinL_take {l : List Wd} {i : Nat} {x : Wd} (h : l[i]? = some x) : joinL (l.take (i + 1)) = if i = 0 then x.2.1 else joinL (l.take i) ++ 32 :: x.2.1 := by
  rw [List.take_add_one, h]
  show joinL (l.take i ++ [x]) = _
  rw [joinL_snoc]
  by_cases h0 : i = 0
  · subst h0
    rw [if_pos (by simp), if_pos rfl]
  · have : l.take i ≠ [] := by
      intro e
      have := congrArg List.length e
      have hl := (List.getElem?_eq_some_iff.1 h).1
      rw [List.length_take, List.length_nil] at this
      omega
    rw [if_neg this, if_neg h0]

set_option maxRecDepth 100000 in
set_option maxHeartbeats 4000000 in
theorem rJoin_any (A : Option Addr) (n c : Nat) (ws : List Wd) (w : World) (hr : RdV w w.heap.size A n ws) (hn : n ≤ 1000000) (hj : (joinL ws).length ≤ 1000000000) :
    Calls Try.prog 13 #[.slice A n c] w fun e w' => e = .returned (strV (joinL ws)) ∧ w = w' := by
  have HL := Lib.hid (rdV_len hr)
  have HR := Lib.hid hr
  clear hr
  go_enter Try.func13, Try.ntmps13
  repeat (first | go_skip | go_guarded | go_step)
  go_loop [3, 4] (fun o' p' => ∃ (i : Nat) (X : ByteArray), i ≤ n ∧ p' = .int .i64 (i : Int) ∧ o' = sv X ∧ tb X = joinL (ws.take i)) (fun _ p => n - (intOf p).toNat)
  case atStart => exact ⟨0, ⟨#[]⟩, by omega, rfl, rfl, rfl⟩
  case round =>
    obtain ⟨i, X, hi, rfl, rfl, hX⟩ := hrel
    have HX := Lib.hid hX
    clear hX
    by_cases hlt : i < n
    · have hci : (i : Int) < (n : Int) := by omega
      obtain ⟨b, o, ⟨k, t, a⟩, hA, hbb, hx, hc0, hc1, hc2⟩ := rdV_at HR.out hlt
      subst hA
      dsimp only at hc0 hc1 hc2
      have HJ := Lib.hid (joinL_take hx)
      have hle : (joinL (ws.take (i + 1))).length ≤ 1000000000 := by
        have h := joinL_le (ws.take (i + 1)) (ws.drop (i + 1))
        rw [List.take_append_drop] at h
        omega
      rw [HJ.out] at hle
      obtain ⟨T, hT⟩ : ∃ T : ByteArray, T = ⟨t.toArray⟩ := ⟨_, rfl⟩
      rw [show strV t = sv T by rw [hT]] at hc1
      have hTt : tb T = t := by rw [hT]
      have HT := Lib.hid hTt
      have hX1 : X.size = (joinL (ws.take i)).length := by rw [← HX.out, tb_len]
      have hT1 : T.size = t.length := by rw [← hTt, tb_len]
      clear hx hc0 hc2 hT hTt
      by_cases h0 : i = 0
      · subst h0
        rw [if_pos rfl] at hle HJ
        have hX2 : X.size = 0 := by rw [hX1]; rfl
        have k1 : X.size + T.size ≤ 9223372036854775807 := by dsimp only at hle; omega
        have k2 : ¬ (9223372036854775807 < X.size + T.size) := by omega
        have HX2 := Lib.hid (show tb X = [] from HX.out)
        clear hle hX1 hT1 hX2
        repeat (first | go_skip | go_guarded | go_step)
        go_round
        case rel => exact ⟨1, X ++ T, by omega, rfl, rfl, by rw [HJ.out, tb_add, HX2.out, HT.out]; rfl⟩
        case measure => simp [intOf] <;> omega
      · have h0i : (0 : Int) < (i : Int) := by omega
        have h0j : decide (0 < i) = true := by simp; omega
        rw [if_neg h0] at hle HJ
        simp only [List.length_append, List.length_cons] at hle
        have k1 : X.size + 1 ≤ 9223372036854775807 := by omega
        have k2 : ¬ (9223372036854775807 < X.size + 1) := by omega
        have k3 : X.size + 1 + T.size ≤ 9223372036854775807 := by omega
        have k4 : ¬ (9223372036854775807 < X.size + 1 + T.size) := by omega
        clear hle hX1 hT1
        repeat (first | go_skip | go_guarded | go_step)
        go_round
        case rel => exact ⟨i + 1, X ++ ⟨#[32]⟩ ++ T, by omega, by go_num, rfl, by rw [HJ.out, tb_add, tb_add, HX.out, HT.out, List.append_assoc]; rfl⟩
        case measure => simp [intOf] <;> omega
    · obtain rfl : i = n := by omega
      have HW := Lib.hid (show sv X = strV (joinL ws) by rw [sv_tb, HX.out, List.take_of_length_le (by rw [HL.out]; omega)])
      repeat (first | go_skip | go_guarded | go_step)
      go_ret
      exact ⟨by rw [← HW.out]; rfl, rfl⟩
end Go.Proofs.Ytjafbkkdjmlaoaa
