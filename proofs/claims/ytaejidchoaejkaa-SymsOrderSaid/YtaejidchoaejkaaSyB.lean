/- Layer 4 (syms): the document's table: Put, Of; Same. -/
import Derived.Test.YtaejidchoaejkaaSyA
set_option linter.unusedVariables false
set_option linter.unusedSimpArgs false
namespace Go.Proofs.Ytaejidchoaejkaa
open Go Go.RowKit

theorem putL_len (l : List ByteArray) (s : ByteArray) : (putL l s).1.length ≤ l.length + 1 := by
  unfold putL
  split
  · simp
  · split
    · simp
    · split <;> simp

set_option maxRecDepth 100000 in
set_option maxHeartbeats 1000000 in
theorem rPut_any (g : Nat) (X : Option Nat) (l : List ByteArray) (s : ByteArray) (w : World) (h : RT w g X l) (hl : l.length ≤ 1000000) (hs : s.size ≤ 1099511627776) :
    Calls Try.prog 14 #[.pointer (some ⟨g, 0, none⟩), sv s] w fun e w' => e = .returned (.tuple #[.int .u32 ((putL l s).2.1 : Int), .int .i64 ((putL l s).2.2 : Int)]) ∧
      ∃ X', RT w' g X' (putL l s).1 ∧ Turn (Fp1 g X) w w' ∧ ∀ k, X' = some k → X = some k ∨ w.heap.size ≤ k := by
  have hstay : ∀ n e : Nat, putL l s = (l, n, e) → ∃ X', RT w g X' (putL l s).1 ∧ Turn (Fp1 g X) w w ∧ ∀ k, X' = some k → X = some k ∨ w.heap.size ≤ k := fun n e he => ⟨X, by rw [he]; exact h, Turn.refl _ _, fun k hk => .inl hk⟩
  have HSTAY := Lib.hid hstay
  clear hstay
  by_cases hm : mayB s = false
  · have hp : putL l s = (l, 0, 8) := by unfold putL; rw [if_pos hm]
    have HP := Lib.hid hp
    go_enter Try.func14, Try.ntmps14
    repeat go_step
    refine (rMay_any s w hs).mono ?_
    rintro e w1 ⟨rfl, rfl⟩
    rw [hm]
    dsimp only
    go_wp2
    go_ret2
    exact ⟨by rw [HP.out]; rfl, HSTAY.out _ _ HP.out⟩
  · have hm1 : mayB s = true := by simpa using hm
    cases hf : findO l s with
    | some k =>
      have hk := findO_lt hf
      have hp : putL l s = (l, k, 0) := by unfold putL; rw [if_neg hm, hf]
      have HP := Lib.hid hp
      have hz : findZ l s = (k : Int) := by unfold findZ; rw [hf]
      clear hf hp
      go_enter Try.func14, Try.ntmps14
      repeat go_step
      refine (rMay_any s w hs).mono ?_
      rintro e w1 ⟨rfl, rfl⟩
      rw [hm1]
      dsimp only
      repeat go_step
      refine (rFind_any g X l s w h hl).mono ?_
      rintro e w1 ⟨rfl, rfl⟩
      rw [hz]
      dsimp only
      go_wp2
      go_ret2
      exact ⟨by rw [HP.out]; rfl, HSTAY.out _ _ HP.out⟩
    | none =>
      have hz : findZ l s = -1 := by unfold findZ; rw [hf]
      obtain ⟨A, c, hb, ho, hX, hg⟩ := id h
      have cg := hb.cell 0
      rw [show [Value.slice A l.length c][0]? = some (Value.slice A l.length c) from rfl] at cg
      by_cases hbig : 4096 ≤ l.length
      · have hp : putL l s = (l, 0, 6) := by unfold putL; rw [if_neg hm, hf]; simp [hbig]
        have HP := Lib.hid hp
        have hd : decide ((4096 : Int) ≤ (l.length : Int)) = true := by simp; omega
        clear hf hp
        go_enter Try.func14, Try.ntmps14
        repeat go_step
        refine (rMay_any s w hs).mono ?_
        rintro e w1 ⟨rfl, rfl⟩
        rw [hm1]
        dsimp only
        repeat go_step
        refine (rFind_any g X l s w h hl).mono ?_
        rintro e w1 ⟨rfl, rfl⟩
        rw [hz]
        dsimp only
        clear hb ho hX hg h
        go_wp2
        go_ret2
        exact ⟨by rw [HP.out]; rfl, HSTAY.out _ _ HP.out⟩
      · have hp : putL l s = (l ++ [s], l.length, 0) := by unfold putL; rw [if_neg hm, hf]; simp [hbig]
        have HP := Lib.hid hp
        have hd : decide ((4096 : Int) ≤ (l.length : Int)) = false := by simp; omega
        have hgl := hb.lt
        have HB := Lib.hid hb
        have HO := Lib.hid ho
        have HX := Lib.hid hX
        have HG := Lib.hid hg
        clear hf hp hb ho hX hg
        go_enter Try.func14, Try.ntmps14
        repeat go_step
        refine (rMay_any s w hs).mono ?_
        rintro e w1 ⟨rfl, rfl⟩
        rw [hm1]
        dsimp only
        repeat go_step
        refine (rFind_any g X l s w h hl).mono ?_
        rintro e w1 ⟨rfl, rfl⟩
        rw [hz]
        dsimp only
        clear h
        repeat (first
          | (at_builtin; refine appS _ rfl (.tmp 27) (.tmp 29) rfl 0 A c l.length l rfl (World.ownsRow.alloc HO.out _) (w.heap.size + 1) (some ⟨w.heap.size, 0, none⟩) 1 1 [s] rfl (rdS1 w s) (by omega) (Nat.zero_le _) ?_
             intro A1 c1 w1 ho1 hg1 hk1
             have ht1 : Turn (Fp1 g X) w w1 := ((Turn.refl _ w).alloc _).then_ (Turn.ofGrown (G := fun k => some k = X) hg1 (fun k hk => by rw [HX.out]; exact hk.symm)) (fun k _ hk => .inr hk.symm)
             have hb1 : Bk w1 g 34 [.slice A l.length c] := (Turn.ofGrown (G := fun k => some k = X) hg1 (fun k hk => by rw [HX.out]; exact hk.symm)).bk (HB.out.alloc _) (fun e => HG.out e.symm)
             have cg1 := hb1.cell 0
             rw [show [Value.slice A l.length c][0]? = some (Value.slice A l.length c) from rfl] at cg1
             have fg1 := hb1.frozen 0
             have cg2 := (hb1.set_ 0 (.slice A1 (l.length + 1) c1)).cell 0
             rw [show ([Value.slice A l.length c].set 0 (.slice A1 (l.length + 1) c1))[0]? = some (.slice A1 (l.length + 1) c1) from rfl] at cg2)
          | go_step)
        go_ret2
        have hX1 : (Value.slice A1 (l.length + 1) c1).ownBlock ≠ some g := by
          rcases hk1 with e | e
          · rw [e, ← HX.out]
            exact HG.out
          · rw [e]
            simp
            omega
        refine ⟨by rw [HP.out]; first | rfl | (congr 3; simp), (Value.slice A1 (l.length + 1) c1).ownBlock, ?_, ht1.setCell (fun _ => .inl rfl) _, fun k hk => ?_⟩
        · rw [HP.out]
          refine ⟨A1, c1, by simpa using hb1.set_ 0 (.slice A1 (l.length + 1) c1), ?_, by simp, hX1⟩
          have hT : Turn (fun k => k = g) w1 (w1.setCell ⟨g, 0, none⟩ (.slice A1 (l.length + 1) c1)) := Turn.setCell (Turn.refl (fun k => k = g) w1) (p := ⟨g, 0, none⟩) (fun _ => rfl) _
          have := hT.own ho1 (fun k hk e => hX1 (by rw [hk, e]))
          simpa [OwS] using this
        · rcases hk1 with e | e
          · rw [hk, ← HX.out] at e
            exact .inl e.symm
          · rw [hk] at e
            simp only [Option.some.injEq] at e
            refine .inr ?_
            rw [e]
            simp

def ofL : List ByteArray → List ByteArray → List ByteArray × Nat
  | acc, [] => (acc, 0)
  | acc, s :: r => if (putL acc s).2.2 = 0 then ofL (putL acc s).1 r else ([], (putL acc s).2.2)

set_option maxRecDepth 100000 in
set_option maxHeartbeats 1000000 in
theorem rOf_any (A : Option Addr) (n c : Nat) (l : List ByteArray) (w : World) (hr : Rd w w.heap.size 1 A n (l.map sv)) (hn : n ≤ 100000) (hs : ∀ s ∈ l, s.size ≤ 1099511627776) :
    Calls Try.prog 11 #[.slice A n c] w fun e w' => Below w.heap.size w w' ∧
      (((ofL [] l).2 = 0 ∧ ∃ X, e = .returned (.tuple #[.pointer (some ⟨w.heap.size, 0, none⟩), .int .i64 0]) ∧ RT w' w.heap.size X (ofL [] l).1 ∧ ∀ k, X = some k → w.heap.size ≤ k) ∨
       ((ofL [] l).2 ≠ 0 ∧ e = .returned (.tuple #[.pointer none, .int .i64 ((ofL [] l).2 : Int)]))) := by
  have hl : l.length = n := by simpa using hr.len1
  have HL := Lib.hid hl
  have HR := Lib.hid hr
  have HS := Lib.hid hs
  clear hr hl hs
  obtain ⟨W0, hW0, hb0, hbw0⟩ : ∃ W0, W0 = w.alloc (.cells #[.slice none 0 0] 34) ∧ Bk W0 w.heap.size 34 [.slice none 0 0] ∧ Below w.heap.size w W0 :=
    ⟨_, rfl, Bk.new w _ _, (Below.refl _ _).alloc (Nat.le_refl _) _⟩
  have HW0 := Lib.hid hW0
  have hRT : RT W0 w.heap.size none [] := ⟨none, 0, hb0, World.ownsRow_nil _ _ _ _, rfl, by simp⟩
  clear hW0 hb0
  go_enter Try.func11, Try.ntmps11
  repeat go_step
  rw [← HW0.out]
  go_loopw [5] (fun p wr => ∃ (i : Nat) (X : Option Nat) (acc : List ByteArray), i ≤ n ∧ p = .int .i64 (i : Int) ∧ acc.length ≤ i ∧ ofL [] l = ofL acc (l.drop i) ∧ RT wr w.heap.size X acc ∧ (∀ k, X = some k → w.heap.size ≤ k) ∧ Below w.heap.size w wr)
    (fun p _ => n - (intOf p).toNat)
  case atStart => exact ⟨0, none, [], by omega, rfl, by simp, rfl, hRT, by simp, hbw0⟩
  case round =>
    clear hRT hbw0
    obtain ⟨i, X, acc, hi, rfl, hacc, hof, hrt, hX, hbw⟩ := hrel
    by_cases hlt : i < n
    · have hci : (i : Int) < (n : Int) := by omega
      obtain ⟨b, o, u, hA, hbb, hu, hc⟩ := (HR.out.below hbw).at1 hlt
      subst hA
      obtain ⟨s, hx⟩ : ∃ s, l[i]? = some s := ⟨_, List.getElem?_eq_getElem (by have := HL.out; omega)⟩
      rw [List.getElem?_map, hx] at hu
      simp only [Option.map_some, Option.some.injEq] at hu
      subst hu
      have hsz := HS.out s (List.mem_of_getElem? hx)
      have hd : l.drop i = s :: l.drop (i + 1) := by
        rw [List.drop_eq_getElem_cons (by have := HL.out; omega)]
        congr 1
        exact (List.getElem?_eq_some_iff.1 hx).2
      rw [hd, ofL] at hof
      have HOF := Lib.hid hof
      have HX := Lib.hid hX
      clear hx hd hof hX
      repeat go_step
      refine (rPut_any w.heap.size X acc s wr hrt (by omega) hsz).mono ?_
      rintro e w1 ⟨rfl, X1, hrt1, ht1, hx1⟩
      have hbw1 : Below w.heap.size w w1 := hbw.trans (ht1.below (fun k _ hk => by
        rcases hk with rfl | hk
        · exact Nat.le_refl _
        · exact HX.out k hk) hbw.size)
      have hX1 : ∀ k, X1 = some k → w.heap.size ≤ k := fun k hk => by
        rcases hx1 k hk with h | h
        · exact HX.out k h
        · exact Nat.le_trans hbw.size h
      have hlen := putL_len acc s
      have HX1 := Lib.hid hX1
      clear hrt ht1 hx1 hX1 hbw hc
      obtain ⟨q, hq⟩ : ∃ q, putL acc s = q := ⟨_, rfl⟩
      obtain ⟨acc1, num, err⟩ := q
      have hof2 := HOF.out
      rw [hq] at hof2 hrt1 hlen ⊢
      dsimp only at hof2 hrt1 hlen ⊢
      have HO2 := Lib.hid hof2
      clear hof2 hq HOF
      by_cases he : err = 0
      · subst he
        have hof3 := HO2.out
        rw [if_pos rfl] at hof3
        have HO3 := Lib.hid hof3
        clear hof3
        go_wp2
        go_roundw
        case rel => exact ⟨i + 1, X1, acc1, by omega, by go_num, by omega, HO3.out, hrt1, HX1.out, hbw1⟩
        case measure => simp [intOf]; omega
      · have hof3 := HO2.out
        rw [if_neg he] at hof3
        have HO3 := Lib.hid hof3
        have hne : ((err : Int) != 0) = true := by simp; omega
        have HE := Lib.hid he
        clear hof3 he
        go_wp2
        go_ret2
        exact ⟨hbw1, .inr ⟨by rw [HO3.out]; exact HE.out, by rw [HO3.out]; rfl⟩⟩
    · obtain rfl : n = i := by omega
      rw [List.drop_of_length_le (by have := HL.out; omega), ofL] at hof
      have HOF := Lib.hid hof
      have HX := Lib.hid hX
      clear hof hX
      go_wp2
      go_ret2
      exact ⟨hbw, .inl ⟨by rw [HOF.out], X, rfl, by rw [HOF.out]; exact hrt, HX.out⟩⟩
end Go.Proofs.Ytaejidchoaejkaa
