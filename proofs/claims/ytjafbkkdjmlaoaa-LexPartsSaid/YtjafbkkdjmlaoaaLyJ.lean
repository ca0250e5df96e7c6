/- Layer 7 (lex): the program's Join: it answers what the document asks; and with it all that is asked of the program. -/
import Derived.Test.YtjafbkkdjmlaoaaLyB
import Derived.Test.YtjafbkkdjmlaoaaLyW
import Derived.Test.YtjafbkkdjmlaoaaLxI
set_option linter.unusedVariables false
set_option linter.unusedSimpArgs false
namespace Go.Proofs.Ytjafbkkdjmlaoaa
open Go Go.RowKit

theorem strCells_tb (s : ByteArray) : Lib.strCells s = Lib.byteCells (tb s) := rfl
theorem byteCells_app (a b : List UInt8) : Lib.byteCells (a ++ b) = Lib.byteCells a ++ Lib.byteCells b := by simp [Lib.byteCells]
theorem Bdr.later {B b : Nat} {l : List UInt8} {w w' : World} (h : Bdr B b l w) (hb : Below w.heap.size w w') : Bdr B b l w' := by
  rcases h with ⟨hB, v, hbk, hown, hne⟩ | ⟨hB, v, hbk, hown, hne⟩
  · exact Or.inl ⟨hB, v, (hb.block b (Array.getElem?_eq_some_iff.1 hbk).1).trans hbk, ownBelow hown hb (Nat.le_refl _), hne⟩
  · exact Or.inr ⟨hB, v, (hb.block b (Array.getElem?_eq_some_iff.1 hbk).1).trans hbk, ownBelow hown hb (Nat.le_refl _), hne⟩

set_option maxRecDepth 100000 in
set_option maxHeartbeats 8000000 in
theorem join_any (A : Option Addr) (n c : Nat) (ws : List Wd) (w : World) (hr : RdV w w.heap.size A n ws) (hn : n ≤ 1000000) (hj : (joinL ws).length ≤ 1000000000) :
    Calls Try.prog 12 #[.slice A n c] w fun e w' => e = .returned (strV (joinL ws)) ∧ Below w.heap.size w w' := by
  have HL := Lib.hid (rdV_len hr)
  have HR := Lib.hid hr
  clear hr
  have HB0 := Lib.hid (show Bdr w.heap.size w.heap.size [] (w.alloc (.cells #[.pointer none, .slice none 0 0] 53)) from Lib.fresh_isBuilder _ _ w)
  have HW0 := Lib.hid ((Below.refl w.heap.size w).alloc (Nat.le_refl _) (.cells #[.pointer none, .slice none 0 0] 53))
  go_enter Try.func12, Try.ntmps12
  repeat (first | go_skip | go_guarded | go_step)
  go_loopw [8] (fun p' wr => ∃ i : Nat, i ≤ n ∧ p' = .int .i64 (i : Int) ∧ Bdr w.heap.size w.heap.size (joinL (ws.take i)) wr ∧ Below w.heap.size w wr) (fun p _ => n - (intOf p).toNat)
  case atStart => exact ⟨0, by omega, rfl, HB0.out, HW0.out⟩
  case round =>
    obtain ⟨i, hi, rfl, hbd, hbw⟩ := hrel
    have HBD := Lib.hid hbd
    have HBW := Lib.hid hbw
    have hsz : w.heap.size ≤ wr.heap.size := hbw.size
    clear hbd hbw HB0 HW0
    by_cases hlt : i < n
    · have hci : (i : Int) < (n : Int) := by omega
      obtain ⟨b, o, ⟨k, t, a⟩, hA, hbb, hx, hc0, hc1, hc2⟩ := rdV_at HR.out hlt
      subst hA
      dsimp only at hc0 hc1 hc2
      rw [← HBW.out.cell (by exact hbb)] at hc0 hc1 hc2
      have HJ := Lib.hid (joinL_take hx)
      have hle : (joinL (ws.take (i + 1))).length ≤ 1000000000 := by
        have h := joinL_le (ws.take (i + 1)) (ws.drop (i + 1))
        rw [List.take_append_drop] at h
        omega
      rw [HJ.out] at hle
      obtain ⟨T, hT⟩ : ∃ T : ByteArray, T = ⟨t.toArray⟩ := ⟨_, rfl⟩
      rw [show strV t = sv T by rw [hT]] at hc1
      have hTt : tb T = t := by rw [hT]
      have HT := Lib.hid hTt
      have hT1 : T.size = t.length := by rw [← hTt, tb_len]
      clear hx hT hTt
      obtain ⟨V, hV⟩ : ∃ V, V = wr.alloc (.cells #[.int .u8 (k : Int), sv T, .int .i64 (a : Int)] 36) := ⟨_, rfl⟩
      have hV0 : V.heap[wr.heap.size]? = some (.cells #[.int .u8 (k : Int), sv T, .int .i64 (a : Int)] 36 (0, 0)) := by rw [hV]; exact heap_alloc_new wr _
      have hVb : Below wr.heap.size wr V := by rw [hV]; exact (Below.refl _ wr).alloc (Nat.le_refl _) _
      have HVD := Lib.hid (Bdr.later HBD.out hVb)
      have HVW := Lib.hid (HBW.out.trans (hVb.mono hsz))
      have hVs : w.heap.size ≤ V.heap.size := Nat.le_trans hsz hVb.size
      have hgne : wr.heap.size ≠ w.heap.size := by
        have := HBD.out
        have h2 : w.heap.size < wr.heap.size := by
          rcases this with h | h
          · exact h.lt
          · exact h.lt
        omega
      by_cases h0 : i = 0
      · subst h0
        simp only [Nat.zero_mul, Nat.add_zero] at hc0 hc1 hc2
        rw [if_pos rfl] at hle HJ
        dsimp only at hle
        have v1 : V.cell? ⟨wr.heap.size, 1, none⟩ = some (sv T) := by rw [Lib.cell_of_heap hV0]; rfl
        have hws := bString_any w.heap.size w.heap.size (Lib.byteCells (joinL (ws.take 0))) T V HVD.out (by rw [Lib.byteCells_length]; simp [joinL]; omega) hVs
        rw [strCells_tb, ← byteCells_app, HT.out] at hws
        have HWS := Lib.hid hws
        clear hle hws
        repeat (first | go_skip | go_guarded | go_step)
        rw [← hV]
        refine HWS.out.mono ?_
        rintro e w5 ⟨rfl, hbd5, hb5, hk5⟩
        have HD5 := Lib.hid hbd5
        have HB5 := Lib.hid (HVW.out.trans hb5)
        clear hbd5 hb5 hk5 hV
        dsimp only
        repeat (first | go_skip | go_guarded | go_step)
        go_roundw
        case rel => exact ⟨1, by omega, rfl, by rw [HJ.out]; exact HD5.out, HB5.out⟩
        case measure => simp [intOf] <;> omega
      · have h0i : (0 : Int) < (i : Int) := by omega
        have h0j : decide (0 < i) = true := by simp; omega
        rw [if_neg h0] at hle HJ
        simp only [List.length_append, List.length_cons] at hle
        have hws := bByte_any w.heap.size w.heap.size 32 (Lib.byteCells (joinL (ws.take i))) V HVD.out (by rw [Lib.byteCells_length]; omega) hVs
        have HWS := Lib.hid hws
        have HLE := Lib.hid hle
        have HV0 := Lib.hid hV0
        have hgt : (.cells #[.int .u8 (k : Int), sv T, .int .i64 (a : Int)] 36 (0, 0) : Obj) = .cells #[.int .u8 (k : Int), sv T, .int .i64 (a : Int)] 36 (0, 0) := rfl
        clear hle hws hV0 hgt
        repeat (first | go_skip | go_guarded | go_step)
        rw [← hV]
        refine HWS.out.mono ?_
        rintro e w4 ⟨rfl, hbd4, hb4, hk4⟩
        have v4 : w4.heap[wr.heap.size]? = some (.cells #[.int .u8 (k : Int), sv T, .int .i64 (a : Int)] 36 (0, 0)) := hk4 _ _ HV0.out (by simp; omega) (fun c fz e => by injection e; contradiction)
        have v1 : w4.cell? ⟨wr.heap.size, 1, none⟩ = some (sv T) := by rw [Lib.cell_of_heap v4]; rfl
        have hws := bString_any w.heap.size w.heap.size _ T w4 hbd4 (by rw [List.length_append, Lib.byteCells_length]; have := HLE.out; simp; omega) (Nat.le_trans hVs hb4.size)
        rw [strCells_tb, HT.out] at hws
        have HWS4 := Lib.hid hws
        have HB4 := Lib.hid (HVW.out.trans hb4)
        clear hbd4 hb4 hk4 hV v4 hws HWS
        dsimp only
        repeat (first | go_skip | go_guarded | go_step)
        refine HWS4.out.mono ?_
        rintro e w5 ⟨rfl, hbd5, hb5, hk5⟩
        have HD5 := Lib.hid hbd5
        have HB5 := Lib.hid (HB4.out.trans hb5)
        clear hbd5 hb5 hk5
        dsimp only
        repeat (first | go_skip | go_guarded | go_step)
        go_roundw
        case rel => exact ⟨i + 1, by omega, by go_num, by
            rw [HJ.out, show joinL (ws.take i) ++ 32 :: t = (joinL (ws.take i) ++ [32]) ++ t by simp]
            show Lib.IsBuilder _ _ _ _ (Lib.byteCells ((joinL (ws.take i) ++ [32]) ++ t)) _
            rw [byteCells_app, byteCells_app]
            exact HD5.out, HB5.out⟩
        case measure => simp [intOf] <;> omega
    · obtain rfl : i = n := by omega
      have HTK := Lib.hid (List.take_of_length_le (l := ws) (i := i) (by rw [HL.out]; omega))
      repeat (first | go_skip | go_guarded | go_step)
      refine (bTold_any w.heap.size w.heap.size _ wr HBD.out hsz).mono ?_
      rintro e w5 ⟨rfl, hb5⟩
      rw [HTK.out]
      dsimp only
      repeat (first | go_skip | go_guarded | go_step)
      go_ret
      exact ⟨rfl, HBW.out.trans hb5⟩
end Go.Proofs.Ytjafbkkdjmlaoaa
