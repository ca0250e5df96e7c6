/- Layer 1 (octet): fixed numbers; the reference's takers. -/
import Derived.Test.YtdoonjldnehbdaaOctD
import Derived.Deep.RegionWith
import Derived.Deep.RegionHeld3
import Derived.StillTailTactics
set_option linter.unusedVariables false
namespace Go.Proofs.Ytdoonjldnehbdaa
open Go Go.RowKit

set_option maxRecDepth 100000 in
set_option maxHeartbeats 1000000 in
theorem put_any (A : Option Addr) (n c : Nat) (bs : List UInt8) (N size : Int) (w : World) (hr : Rd w w.heap.size 1 A n (bs.map bv)) (h0 : 0 ≤ N) (hN : N < 18446744073709551616) (hs : 1 ≤ size ∧ size ≤ 8) (hb : n + 10 ≤ 70368744177664) :
    Calls Try.prog 21 #[.slice A n c, .int .u64 N, .int .i64 size] w fun e w' => ∃ A' m c', e = .returned (.slice A' m c') ∧ Ow w' w.heap.size A' c' m (bs ++ beB N.toNat size.toNat) ∧ Below w.heap.size w w' := by
  obtain ⟨N, rfl⟩ := Int.eq_ofNat_of_zero_le h0
  obtain ⟨k0, rfl⟩ := Int.eq_ofNat_of_zero_le (show 0 ≤ size by omega)
  rw [Int.toNat_natCast, Int.toNat_natCast]
  have H := Lib.hid (isSize_yes k0 w hs)
  have hk0 : 1 ≤ k0 := by omega
  have hk8 : k0 ≤ 8 := by omega
  have hN' : N < 18446744073709551616 := by omega
  clear h0 hN hs
  go_enter Try.func21, Try.ntmps21
  go_wp2_with (first
    | (go_at_call 27; refine H.out.mono ?_; rintro e w1 ⟨rfl, rfl⟩)
    | (go_at_call 24; refine (fresh_any A n c _ bs _ hr (by omega) (by omega)).mono ?_; rintro e w1 ⟨A1, c1, rfl, ho1, hb1⟩))
  go_loopw [7, 8] (fun q p wr => ∃ (pre : List UInt8) (A : Option Addr) (c k m : Nat), p = .int .i64 ((k : Int) - 1) ∧ q = .slice A m c ∧ k ≤ 8 ∧ m + k = n + k0 ∧ pre ++ beB N k = bs ++ beB N k0 ∧ Ow wr w.heap.size A c m pre ∧ Below w.heap.size w wr)
    (fun _ p _ => (intOf p + 1).toNat)
  case atStart =>
    exact ⟨bs, A1, c1, k0, n, rfl, rfl, hk8, rfl, rfl, ho1, hb1⟩
  case round =>
    obtain ⟨pre, A2, c2, k, m, rfl, rfl, hk, hm, hx, ho, hb2⟩ := hrel
    have HX := Lib.hid hx
    clear hx
    have HM := Lib.hid hm
    have hm1 : m ≤ n + 8 := by omega
    clear hm
    rcases k with _ | j
    · go_wp2
      go_ret
      have hx := HX.out
      simp only [beB, List.append_nil] at hx
      exact ⟨A2, m, c2, rfl, by rw [← hx]; exact ho, hb2⟩
    · have hone := rdOne wr (UInt8.ofNat (N / 256 ^ j % 256))
      have e1 : ((j + 1 : Nat) : Int) - 1 = (j : Int) := by omega
      rw [e1]
      clear e1
      have hfr : (N : Int) / 2 ^ (8 * j) % 256 = ((UInt8.ofNat (N / 256 ^ j % 256)).toNat : Int) := by
        rw [UInt8.toNat_ofNat_of_lt' (by show _ < 256; omega), ← pow8]
        simp
      rw [← hfr] at hone
      clear hfr
      go_wp2_with (at_builtin; refine app8 _ rfl _ _ rfl w.heap.size A2 c2 m pre rfl (ho.alloc _) (wr.heap.size + 1) (some ⟨wr.heap.size, 0, none⟩) 1 1 [UInt8.ofNat (N / 256 ^ j % 256)] rfl hone (by omega) (by have := hb2.size; simp; omega) ?_; intro A4 c4 w4 ho4 hb4 _)
      go_roundw
      case rel => exact ⟨pre ++ [UInt8.ofNat (N / 256 ^ j % 256)], A4, c4, j, m + 1, by go_num, rfl, by omega, by have := HM.out; omega, by rw [← HX.out]; simp [beB], ho4, hb2.trans ((Below.alloc (Below.refl _ _) hb2.size _).trans hb4)⟩
      case measure => simp [intOf]

set_option maxRecDepth 100000 in
set_option maxHeartbeats 1000000 in
theorem take_any (A : Option Addr) (n c : Nat) (t k : Nat) (bs : List UInt8) (B : Nat) (w : World) (hr : Rd w B 1 A n (bs.map bv)) (hc : n ≤ c) (hm : n ≤ 140737488355328) (hk : 1 ≤ k ∧ k ≤ 8) (htk : t + k ≤ n) :
    Calls Try.prog 22 #[.slice A n c, .int .i64 (t : Int), .int .i64 (k : Int)] w fun e w' => e = .returned (.tuple #[.int .u64 (beN ((bs.drop t).take k) : Int), .int .i64 ((t + k : Nat) : Int), .int .i64 0]) ∧ w = w' := by
  have hl : bs.length = n := by simpa using hr.len1
  have H := Lib.hid (isSize_yes k w (by omega))
  have H2 := Lib.hid (isPlace_yes A n c t w ⟨by omega, by omega⟩)
  obtain ⟨b, o, rfl, _, hcell⟩ := hr.2 (by omega)
  obtain ⟨hk1, hk8⟩ := hk
  have HL := Lib.hid hl
  have HC := Lib.hid hcell
  clear hl hcell hr
  go_enter Try.func22, Try.ntmps22
  go_wp2_with (first
    | (go_at_call 27; refine H.out.mono ?_; rintro e w1 ⟨rfl, rfl⟩)
    | (go_at_call 26; refine H2.out.mono ?_; rintro e w1 ⟨rfl, rfl⟩))
  go_loop [6, 33] (fun a i => ∃ (j : Nat), a = .int .u64 (beN ((bs.drop t).take j) : Int) ∧ i = .int .i64 (j : Int) ∧ j ≤ k) (fun _ i => k - (intOf i).toNat)
  case atStart => exact ⟨0, by simp [beN], rfl, by omega⟩
  case round =>
    obtain ⟨j, rfl, rfl, hj⟩ := hrel
    have hlen : ((bs.drop t).take j).length = j := by rw [List.length_take, List.length_drop, HL.out]; omega
    by_cases hjk : j < k
    · have hlb : t + j < bs.length := by rw [HL.out]; omega
      have hsn : (bs.drop t).take (j + 1) = (bs.drop t).take j ++ [bs[t + j]] := by
        rw [List.take_succ_eq_append_getElem (by rw [List.length_drop]; omega), List.getElem_drop]
      have hnum : beN ((bs.drop t).take (j + 1)) = beN ((bs.drop t).take j) * 256 + (bs[t + j]).toNat := by rw [hsn, beN_snoc]
      have hlt1 := beN_lt ((bs.drop t).take j)
      rw [hlen] at hlt1
      obtain ⟨x8, hx8⟩ : ∃ y, y = bs[t + j] := ⟨_, rfl⟩
      obtain ⟨a, ha⟩ : ∃ a, a = beN ((bs.drop t).take j) := ⟨_, rfl⟩
      have hcx : w.cell? ⟨b, o + t + j, none⟩ = some (.int .u8 (x8.toNat : Int)) := by rw [hx8, Nat.add_assoc]; exact HC.out (t + j) _ (by simp [List.getElem?_eq_getElem hlb, bv])
      rw [← hx8, ← ha] at hnum
      rw [← ha] at hlt1
      rw [← ha]
      have ha8 : a < 72057594037927936 := by
        have hp : 256 ^ j ≤ 256 ^ 7 := Nat.pow_le_pow_right (by omega) (by omega)
        omega
      have HN := Lib.hid hnum
      have h8 := u8_lt x8
      clear hx8 ha hnum hlt1 hsn hlen
      have e1 := or256 a x8.toNat ha8 h8
      go_wp2
      exact ⟨⟨j + 1, by rw [HN.out]; simp, by go_num, by omega⟩, by simp [intOf]; omega⟩
    · obtain rfl : j = k := by omega
      go_wp2
      go_ret3
      exact ⟨by simp, rfl⟩

set_option maxRecDepth 100000 in
set_option maxHeartbeats 1000000 in
theorem rTakeVar_bad (A : Option Addr) (n c : Nat) (t : Int) (w : World) (h : t < 0 ∨ (n : Int) < t) :
    Calls Try.prog 16 #[.slice A n c, .int .i64 t] w fun e w' => e = .returned (.tuple #[.int .u64 0, .int .i64 0, .int .i64 1]) ∧ Below w.heap.size w w' := by
  rcases h with h | h
  · go_enter Try.func16, Try.ntmps16
    go_wp2
    go_ret3
    exact ⟨rfl, Below.refl _ _⟩
  · by_cases h0 : t < 0
    · go_enter Try.func16, Try.ntmps16
      go_wp2
      go_ret3
      exact ⟨rfl, Below.refl _ _⟩
    · have h0 : 0 ≤ t := by omega
      go_enter Try.func16, Try.ntmps16
      go_wp2
      go_ret3
      exact ⟨rfl, Below.refl _ _⟩

set_option maxRecDepth 100000 in
set_option maxHeartbeats 1000000 in
theorem rTakeVar_in (A : Option Addr) (n c : Nat) (t : Nat) (bs : List UInt8) (w : World) (hr : Rd w w.heap.size 1 A n (bs.map bv)) (hc : n ≤ c) (hm : n ≤ 140737488355328) (ht : t ≤ n) (v x z : Nat) (hans : tvAns bs t = (v, x, z)) :
    Calls Try.prog 16 #[.slice A n c, .int .i64 (t : Int)] w fun e w' => e = .returned (.tuple #[.int .u64 (v : Int), .int .i64 (x : Int), .int .i64 (z : Int)]) ∧ Below w.heap.size w w' := by
  have hl : bs.length = n := by simpa using hr.len1
  have HL := Lib.hid hl
  have HA := Lib.hid hans
  clear hl hans
  have ht0 : decide ((t : Int) < 0) = false := by simp
  have ht1 : decide ((n : Int) < (t : Int)) = false := by simp; omega
  go_enter Try.func16, Try.ntmps16
  go_wp2
  go_loop [7, 8] (fun a i => ∃ (k acc : Nat), a = .int .u64 (acc : Int) ∧ i = .int .i64 (k : Int) ∧ t + k ≤ n ∧ k ≤ 10 ∧ acc < 18446744073709551616 ∧ RV bs t k acc) (fun _ i => 10 - (intOf i).toNat)
  case atStart => exact ⟨0, 0, rfl, rfl, by omega, by omega, by omega, RV.start (by rw [HL.out]; exact ht)⟩
  case round =>
    obtain ⟨k, acc, rfl, rfl, hk, hk10, hacc, hRV⟩ := hrel
    by_cases hend : k = 10 ∨ t + k = n
    · have hn := hRV.out_ (by rw [HL.out]; exact hend)
      obtain ⟨rfl, rfl, rfl⟩ := tvEnd_none HA.out (by rw [HL.out]; exact ht) hn
      clear hn
      rcases hend with rfl | hend
      · go_wp2
        go_ret3
        exact ⟨rfl, Below.refl _ _⟩
      · by_cases hk1 : k < 10
        · have hd : decide ((t : Int) + (k : Int) < (n : Int)) = false := by simp; omega
          go_wp2
          go_ret3
          exact ⟨rfl, Below.refl _ _⟩
        · obtain rfl : k = 10 := by omega
          clear hend
          go_wp2
          go_ret3
          exact ⟨rfl, Below.refl _ _⟩
    · have hk1 : k < 10 := by omega
      have hk2 : t + k < n := by omega
      have hlb : t + k < bs.length := by rw [HL.out]; exact hk2
      obtain ⟨b, o, rfl, hbB, hcell⟩ := hr.2 (by omega)
      obtain ⟨x8, hx8⟩ : ∃ y, y = bs[t + k] := ⟨_, rfl⟩
      have hcx : w.cell? ⟨b, o + (t + k), none⟩ = some (.int .u8 (x8.toNat : Int)) := by rw [hx8]; exact hcell (t + k) _ (by simp [List.getElem?_eq_getElem hlb, bv])
      have h8 := u8_lt x8
      have e1 := nxt_eq acc x8.toNat k hacc
      have hm1 := nxt_lt acc x8.toNat k hacc
      have HX := Lib.hid hx8
      have HCell := Lib.hid hcell
      clear hx8 hcell hend
      by_cases hlt : x8.toNat < 128
      · have HT := hRV.test (by omega) hlb x8 HX.out hlt
        obtain ⟨m, hmm⟩ : ∃ m, m = nxt acc x8.toNat k := ⟨_, rfl⟩
        rw [← hmm] at e1 hm1 HT
        clear hmm
        have hcutw : ∀ W : World, Below w.heap.size w W → (convert 22 9 (.slice (some ⟨b, o + t, none⟩) (k + 1) (c - t))).run Try.prog W = .ok (strV ((bs.drop t).take (k + 1))) W := by
          intro W hW
          refine run_conv_str W _ _ 5 Try.underlying22 Try.underlying5 Try.underlying9 w.heap.size _ _ _ _ ?_
          have h := (hr.below hW).cut1 (k := t) (m := t + (k + 1)) (cap := c) (by omega) (by omega) hc
          rw [if_neg (by omega), ← List.map_drop, ← List.map_take, show t + (k + 1) - t = k + 1 from by omega] at h
          simpa [addPlain] using h
        have hd1 : Below w.heap.size w w.drew := (Below.refl _ _).drew
        rcases HT with ⟨hv, hn⟩ | ⟨hv, hn⟩
        · obtain ⟨rfl, rfl, rfl⟩ := tvEnd_some HA.out (by rw [HL.out]; exact ht) hn
          have hq : (var v != (bs.drop t).take (k + 1)) = false := by simp [hv]
          have hq2 : (var v == (bs.drop t).take (k + 1)) = true := by simp [hv]
          clear hv hn
          go_wp2
          have s1 : IntKind.i64.wrap ((t : Int) + k) = t + k := IntWalk.i64_in _ (by omega)
          have s2 : IntKind.i64.wrap ((t : Int) + k + 1) = t + k + 1 := IntWalk.i64_in _ (by omega)
          have s3 : (0 : Int) ≤ (t : Int) + k + 1 := by omega
          have s4 : ((t : Int) + k + 1).toNat = t + k + 1 := by omega
          have s5 : (t : Int) ≤ (t : Int) + k + 1 := by omega
          have s6 : (t : Int) + k + 1 ≤ (c : Int) := by omega
          have s7 : ¬ c = t := by omega
          have s8 : t + k + 1 - t = k + 1 := by omega
          go_region_with (go_at_call 25; refine (rVar_any _ _ (by omega) (by omega)).mono ?_; rintro e w2 ⟨A2, m2, c2, rfl, ho2, hb2⟩; have hbw2 : Below w.heap.size w w2 := hd1.trans (hb2.mono (by simp)); rw [Int.toNat_natCast] at ho2; have k2 := run_conv_str (P := Try.prog) w2 22 9 5 Try.underlying22 Try.underlying5 Try.underlying9 _ A2 m2 c2 _ ho2.rd)
          all_goals go_wp2
          all_goals go_ret3
          all_goals refine ⟨by simp; omega, ?_⟩
          all_goals exact (hd1.trans (hb2.mono (by simp)))
        · obtain ⟨rfl, rfl, rfl⟩ := tvEnd_none HA.out (by rw [HL.out]; exact ht) hn
          have hq : (var m != (bs.drop t).take (k + 1)) = true := by simp [hv]
          have hq2 : (var m == (bs.drop t).take (k + 1)) = false := by simp [hv]
          clear hv hn
          go_wp2
          have s1 : IntKind.i64.wrap ((t : Int) + k) = t + k := IntWalk.i64_in _ (by omega)
          have s2 : IntKind.i64.wrap ((t : Int) + k + 1) = t + k + 1 := IntWalk.i64_in _ (by omega)
          have s3 : (0 : Int) ≤ (t : Int) + k + 1 := by omega
          have s4 : ((t : Int) + k + 1).toNat = t + k + 1 := by omega
          have s5 : (t : Int) ≤ (t : Int) + k + 1 := by omega
          have s6 : (t : Int) + k + 1 ≤ (c : Int) := by omega
          have s7 : ¬ c = t := by omega
          have s8 : t + k + 1 - t = k + 1 := by omega
          go_region_with (go_at_call 25; refine (rVar_any _ _ (by omega) (by omega)).mono ?_; rintro e w2 ⟨A2, m2, c2, rfl, ho2, hb2⟩; have hbw2 : Below w.heap.size w w2 := hd1.trans (hb2.mono (by simp)); rw [Int.toNat_natCast] at ho2; have k2 := run_conv_str (P := Try.prog) w2 22 9 5 Try.underlying22 Try.underlying5 Try.underlying9 _ A2 m2 c2 _ ho2.rd)
          all_goals go_wp2
          all_goals go_ret3
          all_goals refine ⟨rfl, ?_⟩
          all_goals exact (hd1.trans (hb2.mono (by simp)))
      · have hge : 128 ≤ x8.toNat := by omega
        have hRV2 := hRV.step (by omega) hlb x8 HX.out hge
        clear hRV hlt
        go_wp2
        refine ⟨⟨_, _, _, _, _, ⟨k + 1, _, rfl, rfl, by omega, by omega, hm1, hRV2⟩, rfl, rfl, rfl, rfl, by go_num⟩, by simp [intOf]; omega⟩


theorem rTakeVar_any (A : Option Addr) (n c : Nat) (t : Int) (bs : List UInt8) (w : World) (hr : Rd w w.heap.size 1 A n (bs.map bv)) (hc : n ≤ c) (hm : n ≤ 140737488355328) (v x z : Nat) (hans : tvAns bs t = (v, x, z)) :
    Calls Try.prog 16 #[.slice A n c, .int .i64 t] w fun e w' => e = .returned (.tuple #[.int .u64 (v : Int), .int .i64 (x : Int), .int .i64 (z : Int)]) ∧ Below w.heap.size w w' := by
  have hl : bs.length = n := by simpa using hr.len1
  by_cases hbad : t < 0 ∨ (n : Int) < t
  · unfold tvAns at hans
    rw [if_pos (by omega)] at hans
    simp only [Prod.mk.injEq] at hans
    obtain ⟨rfl, rfl, rfl⟩ := hans
    exact rTakeVar_bad A n c t w hbad
  · obtain ⟨t, rfl⟩ := Int.eq_ofNat_of_zero_le (show 0 ≤ t by omega)
    exact rTakeVar_in A n c t bs w hr hc hm (by omega) v x z hans
end Go.Proofs.Ytdoonjldnehbdaa
