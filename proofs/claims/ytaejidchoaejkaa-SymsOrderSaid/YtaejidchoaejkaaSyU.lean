/- Layer 4 (syms): the program's table: Put, Name, Len, New.  -/
import Derived.Test.YtaejidchoaejkaaSyT
set_option linter.unusedVariables false
set_option linter.unusedSimpArgs false
namespace Go.Proofs.Ytaejidchoaejkaa
open Go Go.RowKit

set_option maxRecDepth 100000 in
set_option maxHeartbeats 1000000 in
theorem put_any (g : Nat) (X M : Option Nat) (l : List ByteArray) (s : ByteArray) (w : World) (h : ST w g X M l) (hl : l.length ≤ 1000000) (hs : s.size ≤ 1099511627776)
    (hmay : ∀ W : World, Calls Try.prog 15 #[sv s] W fun e w' => e = .returned (.bool (mayB s)) ∧ W = w') :
    Calls Try.prog 13 #[.pointer (some ⟨g, 0, none⟩), sv s] w fun e w' => e = .returned (.tuple #[.int .u32 ((putL l s).2.1 : Int), .int .i64 ((putL l s).2.2 : Int)]) ∧
      ∃ X' M', ST w' g X' M' (putL l s).1 ∧ Turn (Fp2 g X M) w w' ∧ (∀ k, X' = some k → X = some k ∨ w.heap.size ≤ k) ∧ ∀ k, M' = some k → M = some k ∨ w.heap.size ≤ k := by
  have hstay : ∀ n e : Nat, putL l s = (l, n, e) → ∃ X' M', ST w g X' M' (putL l s).1 ∧ Turn (Fp2 g X M) w w ∧ (∀ k, X' = some k → X = some k ∨ w.heap.size ≤ k) ∧ ∀ k, M' = some k → M = some k ∨ w.heap.size ≤ k :=
    fun n e he => ⟨X, M, by rw [he]; exact h, Turn.refl _ _, fun k hk => .inl hk, fun k hk => .inl hk⟩
  have HSTAY := Lib.hid hstay
  have HMAY := Lib.hid hmay
  have HH := Lib.hid h
  have hsm : s.size ≤ maxLen := by simp only [maxLen]; omega
  clear hstay hmay
  by_cases hm : mayB s = false
  · have hp : putL l s = (l, 0, 8) := by unfold putL; rw [if_pos hm]
    have HP := Lib.hid hp
    clear h hp
    go_enter Try.func13, Try.ntmps13
    repeat go_step
    refine (HMAY.out w).mono ?_
    rintro e w1 ⟨rfl, rfl⟩
    rw [hm]
    dsimp only
    repeat go_step
    go_ret2
    exact ⟨by rw [HP.out]; rfl, HSTAY.out _ _ HP.out⟩
  · have hm1 : mayB s = true := by simpa using hm
    obtain ⟨A, c, hb, ho, hM, hX, hg, hXM⟩ := id h
    have cg := hb.cell 0
    rw [show [Value.slice A l.length c, .map M][0]? = some (Value.slice A l.length c) from rfl] at cg
    clear hb ho hM hX hg hXM h
    cases hf : findO l s with
    | some k =>
      have hp : putL l s = (l, k, 0) := by unfold putL; rw [if_neg hm, hf]
      have HP := Lib.hid hp
      have HF := Lib.hid hf
      clear hf hp
      go_enter Try.func13, Try.ntmps13
      repeat go_step
      refine (HMAY.out w).mono ?_
      rintro e w1 ⟨rfl, rfl⟩
      rw [hm1]
      dsimp only
      repeat go_step
      refine (find_any g X M l s w HH.out hsm).mono ?_
      rintro e w1 ⟨rfl, rfl⟩
      rw [HF.out]
      dsimp only [Option.getD, Option.isSome]
      repeat go_step
      go_ret2
      exact ⟨by rw [HP.out]; rfl, HSTAY.out _ _ HP.out⟩
    | none =>
      by_cases hbig : 4096 ≤ l.length
      · have hp : putL l s = (l, 0, 6) := by unfold putL; rw [if_neg hm, hf]; simp [hbig]
        have HP := Lib.hid hp
        have hd : decide ((4096 : Int) ≤ (l.length : Int)) = true := by simp; omega
        have HF := Lib.hid hf
        clear hf hp
        go_enter Try.func13, Try.ntmps13
        repeat go_step
        refine (HMAY.out w).mono ?_
        rintro e w1 ⟨rfl, rfl⟩
        rw [hm1]
        dsimp only
        repeat go_step
        refine (find_any g X M l s w HH.out hsm).mono ?_
        rintro e w1 ⟨rfl, rfl⟩
        rw [HF.out]
        dsimp only [Option.getD, Option.isSome]
        repeat go_step
        go_ret2
        exact ⟨by rw [HP.out]; rfl, HSTAY.out _ _ HP.out⟩
      · have hp : putL l s = (l ++ [s], l.length, 0) := by unfold putL; rw [if_neg hm, hf]; simp [hbig]
        have HP := Lib.hid hp
        have hd : decide ((4096 : Int) ≤ (l.length : Int)) = false := by simp; omega
        have HF := Lib.hid hf
        clear hf hp
        go_enter Try.func13, Try.ntmps13
        repeat go_step
        refine (HMAY.out w).mono ?_
        rintro e w1 ⟨rfl, rfl⟩
        rw [hm1]
        dsimp only
        repeat go_step
        refine (find_any g X M l s w HH.out hsm).mono ?_
        rintro e w1 ⟨rfl, rfl⟩
        rw [HF.out]
        dsimp only [Option.getD, Option.isSome]
        repeat go_step
        refine (add_any g X M l s w HH.out (by omega) hs HF.out).mono ?_
        rintro e w1 ⟨rfl, X', M', h1, h2, h3, h4⟩
        dsimp only
        repeat go_step
        go_ret2
        exact ⟨by rw [HP.out]; rfl, X', M', by rw [HP.out]; exact h1, h2, h3, h4⟩

set_option maxRecDepth 100000 in
set_option maxHeartbeats 1000000 in
theorem name_any (g : Nat) (X M : Option Nat) (l : List ByteArray) (n : Nat) (w : World) (h : ST w g X M l) (hn : n < 4294967296) :
    Calls Try.prog 20 #[.pointer (some ⟨g, 0, none⟩), .int .u32 (n : Int)] w fun e w' => e = .returned (.tuple #[sv (l.getD n ⟨#[]⟩), .bool (decide (n < l.length))]) ∧ w = w' := by
  obtain ⟨A, c, hb, ho, hM, hX, hg, hXM⟩ := id h
  have cg := hb.cell 0
  rw [show [Value.slice A l.length c, .map M][0]? = some (Value.slice A l.length c) from rfl] at cg
  have hr : Rd w w.heap.size 1 A l.length (l.map sv) := Rd.ofOwn ho
  have HR := Lib.hid hr
  have hml : l.length ≤ maxLen := by
    rcases ho.2 with ⟨_, h0⟩ | ⟨_, _, _, _, _, _, h1, h2, _⟩
    · rw [h0]; exact Nat.zero_le _
    · exact Nat.le_trans h1 h2
  simp only [maxLen] at hml
  have hw1 : IntKind.u64.wrap (l.length : Int) = (l.length : Int) := by rw [IntKind.wrap_u64]; omega
  have hw2 : IntKind.u64.wrap (n : Int) = (n : Int) := by rw [IntKind.wrap_u64]; omega
  clear hb ho hM hX hg hXM h hr
  by_cases hlt : n < l.length
  · have hci : (n : Int) < (l.length : Int) := by omega
    have hd : decide ((l.length : Int) ≤ (n : Int)) = false := by simp; omega
    obtain ⟨b, o, u, hA, hbb, hu, hc⟩ := HR.out.at1 hlt
    subst hA
    obtain ⟨x, hx⟩ : ∃ x, l[n]? = some x := ⟨_, List.getElem?_eq_getElem hlt⟩
    rw [List.getElem?_map, hx] at hu
    simp only [Option.map_some, Option.some.injEq] at hu
    subst hu
    have hxd : l.getD n ⟨#[]⟩ = x := by rw [List.getD_eq_getElem?_getD, hx]; rfl
    have HXD := Lib.hid hxd
    have HD := Lib.hid (decide_eq_true hlt)
    clear hx hxd
    go_enter Try.func20, Try.ntmps20
    repeat go_step
    go_ret2
    exact ⟨by rw [HXD.out, HD.out]; rfl, rfl⟩
  · have hd : decide ((l.length : Int) ≤ (n : Int)) = true := by simp; omega
    have hxd : l.getD n ⟨#[]⟩ = ⟨#[]⟩ := by rw [List.getD_eq_getElem?_getD, List.getElem?_eq_none (by omega)]; rfl
    have HXD := Lib.hid hxd
    have HD := Lib.hid (decide_eq_false hlt)
    clear hxd
    go_enter Try.func20, Try.ntmps20
    repeat go_step
    go_ret2
    exact ⟨by rw [HXD.out, HD.out]; rfl, rfl⟩

set_option maxRecDepth 100000 in
set_option maxHeartbeats 1000000 in
theorem len_any (g : Nat) (X M : Option Nat) (l : List ByteArray) (w : World) (h : ST w g X M l) :
    Calls Try.prog 22 #[.pointer (some ⟨g, 0, none⟩)] w fun e w' => e = .returned (.int .i64 (l.length : Int)) ∧ w = w' := by
  obtain ⟨A, c, hb, ho, hM, hX, hg, hXM⟩ := id h
  have cg := hb.cell 0
  rw [show [Value.slice A l.length c, .map M][0]? = some (Value.slice A l.length c) from rfl] at cg
  clear hb ho hM hX hg hXM h
  go_enter Try.func22, Try.ntmps22
  go_wp2
  go_ret
  exact ⟨rfl, rfl⟩

set_option maxRecDepth 100000 in
set_option maxHeartbeats 1000000 in
theorem new_tab (w : World) :
    Calls Try.prog 12 #[] w fun e w' => ∃ g, e = .returned (.pointer (some ⟨g, 0, none⟩)) ∧ w.heap.size ≤ g ∧ ST w' g none none [] ∧ Below w.heap.size w w' := by
  go_enter Try.func12, Try.ntmps12
  go_wp2
  go_ret
  refine ⟨w.heap.size, rfl, Nat.le_refl _, ?_, (Below.refl _ _).alloc (Nat.le_refl _) _⟩
  refine ⟨none, 0, ?_, World.ownsRow_nil _ _ _ _, .inl ⟨rfl, rfl⟩, rfl, by simp, fun m hm => by cases hm⟩
  exact Bk.new w 56 [.slice none 0 0, .map none]
end Go.Proofs.Ytaejidchoaejkaa
