/- Layer 1 (octet): what is taken; the same bytes. -/
import Derived.Test.YtdoonjldnehbdaaOctC
import Derived.WalkMore
import Derived.Deep.LoopGhost
import Derived.BigQuiet
import Derived.Deep.QuietTactic
import Derived.Deep.Cut
import Derived.Deep.DeepCutAuto
set_option linter.unusedVariables false
namespace Go.Proofs.Ytdoonjldnehbdaa
open Go Go.RowKit

set_option maxRecDepth 100000 in
set_option maxHeartbeats 400000 in
theorem same_any (A : Option Addr) (n c : Nat) (bs : List UInt8) (A1 : Option Addr) (n1 c1 : Nat) (ss : List UInt8) (B B1 : Nat) (w : World) (hr : Rd w B 1 A n (bs.map bv)) (hs : Rd w B1 1 A1 n1 (ss.map bv)) :
    Calls Try.prog 13 #[.slice A n c, .slice A1 n1 c1] w fun e w' => e = .returned (.bool (bs == ss)) ∧ w = w' := by
  have k1 := run_conv_str (P := Try.prog) w 22 9 5 Try.underlying22 Try.underlying5 Try.underlying9 B A n c bs hr
  have k2 := run_conv_str (P := Try.prog) w 22 9 5 Try.underlying22 Try.underlying5 Try.underlying9 B1 A1 n1 c1 ss hs
  go_enter Try.func13, Try.ntmps13
  go_wp2
  go_ret
  exact ⟨rfl, rfl⟩

set_option maxRecDepth 100000 in
set_option maxHeartbeats 1000000 in
theorem takeVar_bad (A : Option Addr) (n c : Nat) (t : Int) (w : World) (h : t < 0 ∨ (n : Int) < t) :
    Calls Try.prog 15 #[.slice A n c, .int .i64 t] w fun e w' => e = .returned (.tuple #[.int .u64 0, .int .i64 0, .int .i64 1]) ∧ w = w' := by
  have H := isPlace_no A n c t w h
  have HH := Lib.hid H
  clear H h
  go_enter Try.func15, Try.ntmps15
  go_wp2
  go_step3
  go_wp2_with (go_at_call 26; refine HH.out.mono ?_; rintro e w1 ⟨rfl, rfl⟩)
  rw [Exit.noGoto_ret]
  go_ret3
  exact ⟨rfl, rfl⟩

set_option maxRecDepth 100000 in
set_option maxHeartbeats 1000000 in
theorem takeVar_end (A : Option Addr) (n c : Nat) (w : World) :
    Calls Try.prog 15 #[.slice A n c, .int .i64 (n : Int)] w fun e w' => e = .returned (.tuple #[.int .u64 0, .int .i64 0, .int .i64 5]) ∧ w = w' := by
  have H := Lib.hid (isPlace_yes A n c n w ⟨by omega, by omega⟩)
  go_enter Try.func15, Try.ntmps15
  go_wp2
  go_step3
  go_wp2_with (go_at_call 26; refine H.out.mono ?_; rintro e w1 ⟨rfl, rfl⟩)
  go_step3
  go_wp2
  all_goals (refine wp_loop_rounds 1 ?_)
  all_goals (rw [rounds_succ])
  all_goals go_wp2
  all_goals rw [Exit.noGoto_ret]
  all_goals go_ret3
  all_goals exact ⟨rfl, rfl⟩

set_option maxRecDepth 100000 in
set_option maxHeartbeats 1000000 in
theorem takeVar_in (b o : Nat) (n c : Nat) (t : Nat) (bs : List UInt8) (w : World) (hc : n ≤ c) (hm : n ≤ 140737488355328) (ht : t < n) (hl : bs.length = n) (hcell : ∀ j (h : j < bs.length), w.cell? ⟨b, o + j, none⟩ = some (.int .u8 (bs[j].toNat : Int))) (v x z : Nat) (hans : tvAns bs t = (v, x, z)) :
    Calls Try.prog 15 #[.slice (some ⟨b, o, none⟩) n c, .int .i64 (t : Int)] w fun e w' => e = .returned (.tuple #[.int .u64 (v : Int), .int .i64 (x : Int), .int .i64 (z : Int)]) ∧ w = w' := by
  have H := Lib.hid (isPlace_yes (some ⟨b, o, none⟩) n c t w ⟨by omega, by omega⟩)
  have HL := Lib.hid hl
  have HC := Lib.hid hcell
  have HA := Lib.hid hans
  clear hl hcell hans
  go_enter Try.func15, Try.ntmps15
  go_wp2
  go_step3
  go_wp2_with (go_at_call 26; refine H.out.mono ?_; rintro e w1 ⟨rfl, rfl⟩)
  go_step3
  go_wp2
  go_loop [4, 17] (fun a i => ∃ (k acc : Nat), a = .int .u64 (acc : Int) ∧ i = .int .i64 (k : Int) ∧ t + k ≤ n ∧ k ≤ 9 ∧ acc < 128 ^ k ∧ tv (bs.drop (t + k)) k acc = tv (bs.drop t) 0 0) (fun _ i => n - (intOf i).toNat)
  case atStart => exact ⟨0, 0, rfl, rfl, by omega, by omega, by simp, rfl⟩
  case round =>
    obtain ⟨k, acc, rfl, rfl, hk, hk9, hacc, htv⟩ := hrel
    have HT := Lib.hid htv
    have HB := Lib.hid hacc
    clear htv hacc
    by_cases hlt : t + k < n
    · have hlb : t + k < bs.length := by rw [HL.out]; exact hlt
      obtain ⟨x8, hx8⟩ : ∃ y, y = bs[t + k] := ⟨_, rfl⟩
      have hcx : w.cell? ⟨b, o + t + k, none⟩ = some (.int .u8 (x8.toNat : Int)) := by rw [hx8, Nat.add_assoc]; exact HC.out _ hlb
      have HX := Lib.hid hx8
      clear hx8
      have h8 := u8_lt x8
      have e1 := u8and127 x8
      have e2 := u8and128 x8
      go_wp2
      all_goals first
        | (have h1 : 1 < (x8.toNat : Int) := by assumption
           have hn : tv (bs.drop t) 0 0 = none := by rw [← HT.out, tvStep bs t k acc x8 hlb HX.out, if_pos (by omega)]
           obtain ⟨rfl, rfl, rfl⟩ := tvEnd_none HA.out (by omega) hn
           go_ret3
           exact ⟨rfl, rfl⟩)
        | (have h1 : ((x8.toNat : Int) == 0) = true := by assumption
           rw [beq_iff_eq] at h1
           have hn : tv (bs.drop t) 0 0 = none := by rw [← HT.out, tvStep bs t k acc x8 hlb HX.out, if_pos (by omega)]
           obtain ⟨rfl, rfl, rfl⟩ := tvEnd_none HA.out (by omega) hn
           go_ret3
           exact ⟨rfl, rfl⟩)
        | (have h1 : ((x8.toNat : Int) / 128 * 128 == 0) = true := by assumption
           rw [beq_iff_eq] at h1
           have h2 : ¬ (0 < k ∧ x8.toNat = 0) := by first | omega | (have h3 : ((x8.toNat : Int) == 0) = false := by assumption
                                                                     rw [beq_eq_false_iff_ne] at h3
                                                                     omega)
           have hn : tv (bs.drop t) 0 0 = some (acc + x8.toNat * 128 ^ k, k + 1) := by rw [← HT.out, tvStep bs t k acc x8 hlb HX.out, if_neg (by omega), if_pos (by omega)]
           obtain ⟨rfl, rfl, rfl⟩ := tvEnd_some HA.out (by omega) hn
           go_ret3
           refine ⟨?_, rfl⟩
           have e3 := orStep acc x8.toNat k hk9 HB.out h8 (by omega)
           have e4 : x8.toNat % 128 = x8.toNat := by omega
           first
             | (have hk : ((k : Int) = 9) := by assumption
                have hk : k = 9 := by omega
                subst hk
                have e5 := orStep9 acc x8.toNat HB.out (by omega)
                simp [e5] <;> omega)
             | (simp [e3, e4] <;> omega))
        | (have h1 : ((x8.toNat : Int) / 128 * 128 == 0) = false := by assumption
           rw [beq_eq_false_iff_ne] at h1
           have h2 : ¬ (0 < k ∧ x8.toNat = 0) := by omega
           have hn := HT.out
           rw [tvStep bs t k acc x8 hlb HX.out, if_neg (by omega), if_neg (by omega)] at hn
           have e3 := orStep acc x8.toNat k hk9 HB.out h8 (by omega)
           have e4 : x8.toNat % 128 = x8.toNat - 128 := by omega
           rw [e4] at e3
           refine ⟨⟨k + 1, acc + (x8.toNat - 128) * 128 ^ k, by rw [e3], by go_num, by omega, by omega, ?_, hn⟩, by simp [intOf]; omega⟩
           rw [Nat.pow_succ]
           have h5 : (x8.toNat - 128) * 128 ^ k ≤ 127 * 128 ^ k := Nat.mul_le_mul_right _ (by omega)
           have h6 := HB.out
           omega)
    · have hnil : bs.drop (t + k) = [] := List.drop_eq_nil_of_le (by rw [HL.out]; omega)
      have hn : tv (bs.drop t) 0 0 = none := by rw [← HT.out, hnil]; rfl
      obtain ⟨rfl, rfl, rfl⟩ := tvEnd_none HA.out (by rw [HL.out]; omega) hn
      go_wp2
      go_ret3
      exact ⟨rfl, rfl⟩

theorem takeVar_any (A : Option Addr) (n c B : Nat) (t : Int) (bs : List UInt8) (w : World) (hr : Rd w B 1 A n (bs.map bv)) (hc : n ≤ c) (hm : n ≤ 140737488355328) (v x z : Nat) (hans : tvAns bs t = (v, x, z)) :
    Calls Try.prog 15 #[.slice A n c, .int .i64 t] w fun e w' => e = .returned (.tuple #[.int .u64 (v : Int), .int .i64 (x : Int), .int .i64 (z : Int)]) ∧ w = w' := by
  have hl : bs.length = n := by simpa using hr.len1
  by_cases hbad : t < 0 ∨ (n : Int) < t
  · unfold tvAns at hans
    rw [if_pos (by omega)] at hans
    simp only [Prod.mk.injEq] at hans
    obtain ⟨rfl, rfl, rfl⟩ := hans
    exact takeVar_bad A n c t w hbad
  · obtain ⟨t, rfl⟩ := Int.eq_ofNat_of_zero_le (show 0 ≤ t by omega)
    by_cases he : t = n
    · subst he
      have hn : tv (bs.drop t) 0 0 = none := by rw [List.drop_eq_nil_of_le (by omega)]; rfl
      obtain ⟨rfl, rfl, rfl⟩ := tvEnd_none hans (by omega) hn
      exact takeVar_end A t c w
    · obtain ⟨b, o, rfl, _, hcell⟩ := hr.2 (by omega)
      exact takeVar_in b o n c t bs w hc hm (by omega) hl (fun j h => hcell j _ (by simp [List.getElem?_eq_getElem h, bv])) v x z hans

set_option maxRecDepth 100000 in
set_option maxHeartbeats 1000000 in
theorem takeBytes_any (A : Option Addr) (n c : Nat) (t most : Int) (bs : List UInt8) (w : World) (hr : Rd w w.heap.size 1 A n (bs.map bv)) (hc : n ≤ c) (hm : n ≤ 140737488355328) (hn : n ≤ 70368744177664) (hw : -9223372036854775808 ≤ most ∧ most ≤ 9223372036854775807) (ss : List UInt8) (x z : Nat) (hans : tbAns bs t most = (ss, x, z)) :
    Calls Try.prog 19 #[.slice A n c, .int .i64 t, .int .i64 most] w fun e w' => ∃ A' c' m, e = .returned (.tuple #[.slice A' m c', .int .i64 (x : Int), .int .i64 (z : Int)]) ∧ Ow w' w.heap.size A' c' m ss ∧ Below w.heap.size w w' := by
  have hl : bs.length = n := by simpa using hr.len1
  obtain ⟨v1, x1, z1, h1⟩ : ∃ v x z, tvAns bs t = (v, x, z) := ⟨_, _, _, rfl⟩
  have hbd := tvAns_bd h1
  have HC := Lib.hid (takeVar_any A n c w.heap.size t bs w hr hc (by omega) v1 x1 z1 h1)
  unfold tbAns at hans
  rw [h1] at hans
  dsimp only at hans
  by_cases hz : z1 = 0
  · subst hz
    rw [if_neg (by simp)] at hans
    by_cases hmost : most < 0 ∨ most < (v1 : Int)
    · rw [if_pos hmost] at hans
      simp only [Prod.mk.injEq] at hans
      obtain ⟨rfl, rfl, rfl⟩ := hans
      rcases hmost with hmost | hmost
      · go_enter Try.func19, Try.ntmps19
        go_wp2_with (go_at_call 15; refine HC.out.mono ?_; rintro e w1 ⟨rfl, rfl⟩)
        go_ret3
        exact ⟨none, 0, 0, rfl, owNil _ _, Below.refl _ _⟩
      · by_cases hneg : most < 0
        · go_enter Try.func19, Try.ntmps19
          go_wp2_with (go_at_call 15; refine HC.out.mono ?_; rintro e w1 ⟨rfl, rfl⟩)
          go_ret3
          exact ⟨none, 0, 0, rfl, owNil _ _, Below.refl _ _⟩
        · have hneg : 0 ≤ most := by omega
          go_enter Try.func19, Try.ntmps19
          go_wp2_with (go_at_call 15; refine HC.out.mono ?_; rintro e w1 ⟨rfl, rfl⟩)
          go_ret3
          exact ⟨none, 0, 0, rfl, owNil _ _, Below.refl _ _⟩
    · rw [if_neg hmost] at hans
      have hm1 : 0 ≤ most := by omega
      have hm2 : (v1 : Int) ≤ most := by omega
      have hw2 : most ≤ 9223372036854775807 := hw.2
      clear hw hmost
      by_cases hsh : bs.length < x1 + v1
      · rw [if_pos hsh] at hans
        simp only [Prod.mk.injEq] at hans
        obtain ⟨rfl, rfl, rfl⟩ := hans
        have hsh : n < x1 + v1 := by omega
        have hx1 : x1 ≤ n := by omega
        clear hl hbd
        go_enter Try.func19, Try.ntmps19
        go_wp2_with (go_at_call 15; refine HC.out.mono ?_; rintro e w1 ⟨rfl, rfl⟩)
        go_ret3
        exact ⟨none, 0, 0, rfl, owNil _ _, Below.refl _ _⟩
      · rw [if_neg hsh] at hans
        simp only [Prod.mk.injEq] at hans
        obtain ⟨rfl, rfl, rfl⟩ := hans
        have hsh : x1 + v1 ≤ n := by omega
        have hcut := hr.cut1 (k := x1) (m := x1 + v1) (cap := c) (by omega) hsh hc
        rw [show x1 + v1 - x1 = v1 from by omega, ← List.map_drop, ← List.map_take] at hcut
        clear hl hbd
        go_enter Try.func19, Try.ntmps19
        go_wp2_with (first | (go_at_call 15; refine HC.out.mono ?_; rintro e w1 ⟨rfl, rfl⟩) | (go_at_call 24; refine (fresh_any _ _ _ 0 _ _ hcut (by omega) (by simp; omega)).mono ?_; rintro e w2 ⟨A2, c2, rfl, ho2, hb2⟩))
        all_goals go_ret3
        all_goals exact ⟨A2, c2, v1, by simp, ho2, hb2⟩
  · rw [if_pos hz] at hans
    simp only [Prod.mk.injEq] at hans
    obtain ⟨rfl, rfl, rfl⟩ := hans
    have hz1 : ((z1 : Int) == 0) = false := by simpa using hz
    have hz2 : ((z1 : Int) != 0) = true := by simpa using hz
    go_enter Try.func19, Try.ntmps19
    go_wp2_with (go_at_call 15; refine HC.out.mono ?_; rintro e w1 ⟨rfl, rfl⟩)
    go_ret3
    exact ⟨none, 0, 0, rfl, owNil _ _, Below.refl _ _⟩
end Go.Proofs.Ytdoonjldnehbdaa
