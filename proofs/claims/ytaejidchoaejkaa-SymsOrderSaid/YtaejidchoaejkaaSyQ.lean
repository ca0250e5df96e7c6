/- Layer 4 (syms): the program's table: Of. (Written over a practice program.) -/
import Derived.Test.YtaejidchoaejkaaSyW
set_option linter.unusedVariables false
set_option linter.unusedSimpArgs false
namespace Go.Proofs.Ytaejidchoaejkaa
open Go Go.RowKit

set_option maxRecDepth 100000 in
set_option maxHeartbeats 1000000 in
theorem tOf (hmay : MayOk) (A : Option Addr) (n c : Nat) (l : List ByteArray) (w : World) (hr : Rd w w.heap.size 1 A n (l.map sv)) (hn : n ≤ 100000) (hs : ∀ s ∈ l, s.size ≤ 1099511627776) :
    Calls Try.prog 10 #[.slice A n c] w fun e w' => Below w.heap.size w w' ∧
      (((ofL [] l).2 = 0 ∧ ∃ g F, e = .returned (.tuple #[.pointer (some ⟨g, 0, none⟩), .int .i64 0]) ∧ Tb w' g F (ofL [] l).1 ∧ ∀ k, F k → w.heap.size ≤ k) ∨
       ((ofL [] l).2 ≠ 0 ∧ e = .returned (.tuple #[.pointer none, .int .i64 ((ofL [] l).2 : Int)]))) := by
  have hl : l.length = n := by simpa using hr.len1
  have HL := Lib.hid hl
  have HR := Lib.hid hr
  have HS := Lib.hid hs
  clear hr hl hs
  go_enter Try.func10, Try.ntmps10
  repeat go_step
  refine (tNew w).mono ?_
  rintro e W0 ⟨g, F0, rfl, h0, hF0, hb0⟩
  dsimp only
  repeat go_step
  go_loopw [12] (fun p wr => ∃ (i : Nat) (F : Nat → Prop) (acc : List ByteArray), i ≤ n ∧ p = .int .i64 (i : Int) ∧ acc.length ≤ i ∧ ofL [] l = ofL acc (l.drop i) ∧ Tb wr g F acc ∧ (∀ k, F k → w.heap.size ≤ k) ∧ Below w.heap.size w wr)
    (fun p _ => n - (intOf p).toNat)
  case atStart => exact ⟨0, F0, [], by omega, rfl, by simp, rfl, h0, hF0, hb0⟩
  case round =>
    clear h0 hF0 hb0
    obtain ⟨i, F, acc, hi, rfl, hacc, hof, hrt, hX, hbw⟩ := hrel
    by_cases hlt : i < n
    · have hci : (i : Int) < (n : Int) := by omega
      obtain ⟨b, o, u, hA, hbb, hu, hc⟩ := (HR.out.below hbw).at1 hlt
      subst hA
      obtain ⟨s, hx⟩ : ∃ s, l[i]? = some s := ⟨_, List.getElem?_eq_getElem (by have := HL.out; omega)⟩
      rw [List.getElem?_map, hx] at hu
      simp only [Option.map_some, Option.some.injEq] at hu
      subst hu
      have hsz := HS.out s (List.mem_of_getElem? hx)
      have hd : l.drop i = s :: l.drop (i + 1) := by
        rw [List.drop_eq_getElem_cons (by have := HL.out; omega)]
        congr 1
        exact (List.getElem?_eq_some_iff.1 hx).2
      rw [hd, ofL] at hof
      have hlen := putL_len acc s
      obtain ⟨q, hq⟩ : ∃ q, putL acc s = q := ⟨_, rfl⟩
      obtain ⟨acc1, num, err⟩ := q
      rw [hq] at hof hlen
      have HQ := Lib.hid hq
      have HOF := Lib.hid hof
      have HX := Lib.hid hX
      dsimp only at hlen
      clear hx hd hof hX hq
      repeat go_step
      refine (tPut' hmay g F acc s w.heap.size wr hrt HX.out hbw.size (by omega) hsz _ _ _ HQ.out).mono ?_
      rintro e w1 ⟨rfl, F1, hrt1, hF1, hb1⟩
      have hbw1 := hbw.trans hb1
      have HX1 := Lib.hid hF1
      have hof2 := HOF.out
      dsimp only at hof2
      have HO2 := Lib.hid hof2
      clear hrt hb1 hF1 hbw hc hof2 HOF HQ
      dsimp only
      by_cases he : err = 0
      · subst he
        have hof3 := HO2.out
        rw [if_pos rfl] at hof3
        have HO3 := Lib.hid hof3
        clear hof3
        go_wp2
        go_roundw
        case rel => exact ⟨i + 1, F1, acc1, by omega, by go_num, by omega, HO3.out, hrt1, HX1.out, hbw1⟩
        case measure => simp [intOf]; omega
      · have hof3 := HO2.out
        rw [if_neg he] at hof3
        have HO3 := Lib.hid hof3
        have hne : ((err : Int) != 0) = true := by simp; omega
        have HE := Lib.hid he
        clear hof3 he
        go_wp2
        go_ret2
        exact ⟨hbw1, .inr ⟨by rw [HO3.out]; exact HE.out, by rw [HO3.out]; rfl⟩⟩
    · obtain rfl : n = i := by omega
      rw [List.drop_of_length_le (by have := HL.out; omega), ofL] at hof
      have HOF := Lib.hid hof
      have HX := Lib.hid hX
      clear hof hX
      go_wp2
      go_ret2
      exact ⟨hbw, .inl ⟨by rw [HOF.out], g, F, rfl, by rw [HOF.out]; exact hrt, HX.out⟩⟩
end Go.Proofs.Ytaejidchoaejkaa
