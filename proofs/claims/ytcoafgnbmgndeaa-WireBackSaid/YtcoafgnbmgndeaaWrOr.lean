/- Layer 1 (octet), the document's: Var and TakeVar. -/
import Derived.Test.YtcoafgnbmgndeaaWrOa
import Derived.WalkMore
import Derived.Deep.LoopGhost
import Derived.BigQuiet
import Derived.Deep.QuietTactic
import Derived.Deep.Cut
import Derived.Deep.DeepCutAuto
import Derived.Deep.RegionWith
import Derived.Deep.RegionHeld3
import Derived.StillTailTactics
set_option linter.unusedVariables false
set_option linter.unusedSimpArgs false
namespace Go.Proofs.Ytcoafgnbmgndeaa
open Go Go.RowKit Go.Shelf
/-! ### the reference's -/
set_option maxRecDepth 100000 in
set_option maxHeartbeats 1000000 in
theorem rVar_any (N : Int) (w : World) (h0 : 0 ≤ N) (hN : N < 18446744073709551616) :
    Calls Try.prog 36 #[.int .u64 N] w fun e w' => ∃ A' m c', e = .returned (.slice A' m c') ∧ Ow w' w.heap.size A' c' m (var N.toNat) ∧ Below w.heap.size w w' := by
  obtain ⟨N, rfl⟩ := Int.eq_ofNat_of_zero_le h0
  rw [Int.toNat_natCast]
  have hN' : N < 18446744073709551616 := by omega
  clear h0 hN
  go_enter Try.func36, Try.ntmps36
  go_wp2
  go_loopw [0, 3] (fun p q wr => ∃ (pre : List UInt8) (A : Option Addr) (c f r m : Nat), p = .int .u64 (r : Int) ∧ q = .slice A m c ∧ r < 18446744073709551616 ∧ r < 128 ^ (f + 1) ∧ m + f = 9 ∧ pre ++ varF f r = var N ∧ Ow wr w.heap.size A c m pre ∧ Below w.heap.size w wr)
    (fun p _ _ => (intOf p).toNat)
  case atStart =>
    exact ⟨[], none, 0, 9, N, 0, rfl, rfl, hN', by omega, rfl, rfl, owNil _ _, Below.refl _ _⟩
  case round =>
    obtain ⟨pre, A, c, f, r, m, rfl, rfl, hr, hrf, hlen, hx, ho, hb⟩ := hrel
    have HX := Lib.hid hx
    clear hx
    by_cases hge : r < 128
    · have hrf' : varF f r = [UInt8.ofNat r] := by cases f <;> simp [varF, hge]
      have hfr : (r : Int) = ((UInt8.ofNat r).toNat : Int) := by rw [UInt8.toNat_ofNat_of_lt' (by show r < 256; omega)]
      have HF := Lib.hid hfr
      have HV := Lib.hid hrf'
      clear hfr hrf'
      have hone := rdOne wr (UInt8.ofNat r)
      rw [← HF.out] at hone
      go_wp2_with (at_builtin; refine app8 _ rfl _ _ rfl w.heap.size A c m pre rfl (ho.alloc _) (wr.heap.size + 1) (some ⟨wr.heap.size, 0, none⟩) 1 1 [UInt8.ofNat r] rfl hone (by omega) (by have := hb.size; simp; omega) ?_; intro A4 c4 w4 ho4 hb4 _)
      go_ret
      rw [HV.out] at HX
      exact ⟨A4, m + 1, c4, rfl, by rw [← HX.out]; exact ho4, hb.trans ((Below.alloc (Below.refl _ _) hb.size _).trans hb4)⟩
    · obtain ⟨f, rfl⟩ : ∃ g, f = g + 1 := ⟨f - 1, by
        rcases f with _ | f
        · simp at hrf; omega
        · rfl⟩
      have hfr : (r : Int) % 128 + 128 = ((UInt8.ofNat (r % 128 + 128)).toNat : Int) := by rw [UInt8.toNat_ofNat_of_lt' (by show _ < 256; omega)]; omega
      have HF := Lib.hid hfr
      clear hfr
      go_wp2_with (at_builtin; refine app8 _ rfl _ _ rfl w.heap.size A c m pre rfl (ho.alloc _) (wr.heap.size + 1) (some ⟨wr.heap.size, 0, none⟩) 1 1 [UInt8.ofNat (r % 128 + 128)] rfl (by have := rdOne wr (UInt8.ofNat (r % 128 + 128)); rw [← HF.out] at this; exact this) (by omega) (by have := hb.size; simp; omega) ?_; intro A4 c4 w4 ho4 hb4 _)
      go_roundw
      case rel => exact ⟨pre ++ [UInt8.ofNat (r % 128 + 128)], A4, c4, f, r / 128, m + 1, by go_num, rfl, by omega, by omega, by omega, by rw [← HX.out]; simp [varF, hge], ho4, hb.trans ((Below.alloc (Below.refl _ _) hb.size _).trans hb4)⟩
      case measure => simp [intOf]; omega
set_option maxRecDepth 100000 in
set_option maxHeartbeats 1000000 in
theorem rTakeVar_bad (A : Option Addr) (n c : Nat) (t : Int) (w : World) (h : t < 0 ∨ (n : Int) < t) :
    Calls Try.prog 70 #[.slice A n c, .int .i64 t] w fun e w' => e = .returned (.tuple #[.int .u64 0, .int .i64 0, .int .i64 1]) ∧ Below w.heap.size w w' := by
  rcases h with h | h
  · go_enter Try.func70, Try.ntmps70
    go_wp2
    go_ret3
    exact ⟨rfl, Below.refl _ _⟩
  · by_cases h0 : t < 0
    · go_enter Try.func70, Try.ntmps70
      go_wp2
      go_ret3
      exact ⟨rfl, Below.refl _ _⟩
    · have h0 : 0 ≤ t := by omega
      go_enter Try.func70, Try.ntmps70
      go_wp2
      go_ret3
      exact ⟨rfl, Below.refl _ _⟩
set_option maxRecDepth 100000 in
set_option maxHeartbeats 1000000 in
theorem rTakeVar_in (A : Option Addr) (n c : Nat) (t : Nat) (bs : List UInt8) (w : World) (hr : Rd w w.heap.size 1 A n (bs.map bv)) (hc : n ≤ c) (hm : n ≤ 140737488355328) (ht : t ≤ n) (v x z : Nat) (hans : tvAns bs t = (v, x, z)) :
    Calls Try.prog 70 #[.slice A n c, .int .i64 (t : Int)] w fun e w' => e = .returned (.tuple #[.int .u64 (v : Int), .int .i64 (x : Int), .int .i64 (z : Int)]) ∧ Below w.heap.size w w' := by
  have hl : bs.length = n := by simpa using hr.len1
  have HL := Lib.hid hl
  have HA := Lib.hid hans
  clear hl hans
  have ht0 : decide ((t : Int) < 0) = false := by simp
  have ht1 : decide ((n : Int) < (t : Int)) = false := by simp; omega
  go_enter Try.func70, Try.ntmps70
  go_wp2
  go_loop [7, 8] (fun a i => ∃ (k acc : Nat), a = .int .u64 (acc : Int) ∧ i = .int .i64 (k : Int) ∧ t + k ≤ n ∧ k ≤ 10 ∧ acc < 18446744073709551616 ∧ RV bs t k acc) (fun _ i => 10 - (intOf i).toNat)
  case atStart => exact ⟨0, 0, rfl, rfl, by omega, by omega, by omega, RV.start (by rw [HL.out]; exact ht)⟩
  case round =>
    obtain ⟨k, acc, rfl, rfl, hk, hk10, hacc, hRV⟩ := hrel
    by_cases hend : k = 10 ∨ t + k = n
    · have hn := hRV.out_ (by rw [HL.out]; exact hend)
      obtain ⟨rfl, rfl, rfl⟩ := tvEnd_none HA.out (by rw [HL.out]; exact ht) hn
      clear hn
      rcases hend with rfl | hend
      · go_wp2
        go_ret3
        exact ⟨rfl, Below.refl _ _⟩
      · by_cases hk1 : k < 10
        · have hd : decide ((t : Int) + (k : Int) < (n : Int)) = false := by simp; omega
          go_wp2
          go_ret3
          exact ⟨rfl, Below.refl _ _⟩
        · obtain rfl : k = 10 := by omega
          clear hend
          go_wp2
          go_ret3
          exact ⟨rfl, Below.refl _ _⟩
    · have hk1 : k < 10 := by omega
      have hk2 : t + k < n := by omega
      have hlb : t + k < bs.length := by rw [HL.out]; exact hk2
      obtain ⟨b, o, rfl, hbB, hcell⟩ := hr.2 (by omega)
      obtain ⟨x8, hx8⟩ : ∃ y, y = bs[t + k] := ⟨_, rfl⟩
      have hcx : w.cell? ⟨b, o + (t + k), none⟩ = some (.int .u8 (x8.toNat : Int)) := by rw [hx8]; exact hcell (t + k) _ (by simp [List.getElem?_eq_getElem hlb, bv])
      have h8 := u8_lt x8
      have e1 := nxt_eq acc x8.toNat k hacc
      have hm1 := nxt_lt acc x8.toNat k hacc
      have HX := Lib.hid hx8
      have HCell := Lib.hid hcell
      clear hx8 hcell hend
      by_cases hlt : x8.toNat < 128
      · have HT := hRV.test (by omega) hlb x8 HX.out hlt
        obtain ⟨m, hmm⟩ : ∃ m, m = nxt acc x8.toNat k := ⟨_, rfl⟩
        rw [← hmm] at e1 hm1 HT
        clear hmm
        have hcutw : ∀ W : World, Below w.heap.size w W → (convert 22 9 (.slice (some ⟨b, o + t, none⟩) (k + 1) (c - t))).run Try.prog W = .ok (strV ((bs.drop t).take (k + 1))) W := by
          intro W hW
          refine run_conv_str W _ _ 5 Try.underlying22 Try.underlying5 Try.underlying9 w.heap.size _ _ _ _ ?_
          have h := (hr.below hW).cut1 (k := t) (m := t + (k + 1)) (cap := c) (by omega) (by omega) hc
          rw [if_neg (by omega), ← List.map_drop, ← List.map_take, show t + (k + 1) - t = k + 1 from by omega] at h
          simpa [addPlain] using h
        have hd1 : Below w.heap.size w w.drew := (Below.refl _ _).drew
        rcases HT with ⟨hv, hn⟩ | ⟨hv, hn⟩
        · obtain ⟨rfl, rfl, rfl⟩ := tvEnd_some HA.out (by rw [HL.out]; exact ht) hn
          have hq : (var v != (bs.drop t).take (k + 1)) = false := by simp [hv]
          have hq2 : (var v == (bs.drop t).take (k + 1)) = true := by simp [hv]
          clear hv hn
          go_wp2
          have s1 : IntKind.i64.wrap ((t : Int) + k) = t + k := IntWalk.i64_in _ (by omega)
          have s2 : IntKind.i64.wrap ((t : Int) + k + 1) = t + k + 1 := IntWalk.i64_in _ (by omega)
          have s3 : (0 : Int) ≤ (t : Int) + k + 1 := by omega
          have s4 : ((t : Int) + k + 1).toNat = t + k + 1 := by omega
          have s5 : (t : Int) ≤ (t : Int) + k + 1 := by omega
          have s6 : (t : Int) + k + 1 ≤ (c : Int) := by omega
          have s7 : ¬ c = t := by omega
          have s8 : t + k + 1 - t = k + 1 := by omega
          go_region_with (go_at_call 36; refine (rVar_any _ _ (by omega) (by omega)).mono ?_; rintro e w2 ⟨A2, m2, c2, rfl, ho2, hb2⟩; have hbw2 : Below w.heap.size w w2 := hd1.trans (hb2.mono (by simp)); rw [Int.toNat_natCast] at ho2; have k2 := run_conv_str (P := Try.prog) w2 22 9 5 Try.underlying22 Try.underlying5 Try.underlying9 _ A2 m2 c2 _ ho2.rd)
          all_goals go_wp2
          all_goals go_ret3
          all_goals refine ⟨by simp; omega, ?_⟩
          all_goals exact (hd1.trans (hb2.mono (by simp)))
        · obtain ⟨rfl, rfl, rfl⟩ := tvEnd_none HA.out (by rw [HL.out]; exact ht) hn
          have hq : (var m != (bs.drop t).take (k + 1)) = true := by simp [hv]
          have hq2 : (var m == (bs.drop t).take (k + 1)) = false := by simp [hv]
          clear hv hn
          go_wp2
          have s1 : IntKind.i64.wrap ((t : Int) + k) = t + k := IntWalk.i64_in _ (by omega)
          have s2 : IntKind.i64.wrap ((t : Int) + k + 1) = t + k + 1 := IntWalk.i64_in _ (by omega)
          have s3 : (0 : Int) ≤ (t : Int) + k + 1 := by omega
          have s4 : ((t : Int) + k + 1).toNat = t + k + 1 := by omega
          have s5 : (t : Int) ≤ (t : Int) + k + 1 := by omega
          have s6 : (t : Int) + k + 1 ≤ (c : Int) := by omega
          have s7 : ¬ c = t := by omega
          have s8 : t + k + 1 - t = k + 1 := by omega
          go_region_with (go_at_call 36; refine (rVar_any _ _ (by omega) (by omega)).mono ?_; rintro e w2 ⟨A2, m2, c2, rfl, ho2, hb2⟩; have hbw2 : Below w.heap.size w w2 := hd1.trans (hb2.mono (by simp)); rw [Int.toNat_natCast] at ho2; have k2 := run_conv_str (P := Try.prog) w2 22 9 5 Try.underlying22 Try.underlying5 Try.underlying9 _ A2 m2 c2 _ ho2.rd)
          all_goals go_wp2
          all_goals go_ret3
          all_goals refine ⟨rfl, ?_⟩
          all_goals exact (hd1.trans (hb2.mono (by simp)))
      · have hge : 128 ≤ x8.toNat := by omega
        have hRV2 := hRV.step (by omega) hlb x8 HX.out hge
        clear hRV hlt
        go_wp2
        refine ⟨⟨_, _, _, _, _, ⟨k + 1, _, rfl, rfl, by omega, by omega, hm1, hRV2⟩, rfl, rfl, rfl, rfl, by go_num⟩, by simp [intOf]; omega⟩
theorem rTakeVar_any (A : Option Addr) (n c : Nat) (t : Int) (bs : List UInt8) (w : World) (hr : Rd w w.heap.size 1 A n (bs.map bv)) (hc : n ≤ c) (hm : n ≤ 140737488355328) (v x z : Nat) (hans : tvAns bs t = (v, x, z)) :
    Calls Try.prog 70 #[.slice A n c, .int .i64 t] w fun e w' => e = .returned (.tuple #[.int .u64 (v : Int), .int .i64 (x : Int), .int .i64 (z : Int)]) ∧ Below w.heap.size w w' := by
  have hl : bs.length = n := by simpa using hr.len1
  by_cases hbad : t < 0 ∨ (n : Int) < t
  · unfold tvAns at hans
    rw [if_pos (by omega)] at hans
    simp only [Prod.mk.injEq] at hans
    obtain ⟨rfl, rfl, rfl⟩ := hans
    exact rTakeVar_bad A n c t w hbad
  · obtain ⟨t, rfl⟩ := Int.eq_ofNat_of_zero_le (show 0 ≤ t by omega)
    exact rTakeVar_in A n c t bs w hr hc hm (by omega) v x z hans
end Go.Proofs.Ytcoafgnbmgndeaa
