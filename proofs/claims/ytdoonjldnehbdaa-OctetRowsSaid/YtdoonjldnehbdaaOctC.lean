/- Layer 1 (octet): what is put. -/
import Derived.Test.YtdoonjldnehbdaaOctB
set_option linter.unusedVariables false
namespace Go.Proofs.Ytdoonjldnehbdaa
open Go Go.RowKit

set_option maxHeartbeats 400000 in
theorem putVar_any (A : Option Addr) (n c : Nat) (bs : List UInt8) (N : Int) (w : World) (hr : Rd w w.heap.size 1 A n (bs.map bv)) (h0 : 0 ≤ N) (hN : N < 18446744073709551616) (hb : n + 10 ≤ 70368744177664) :
    Calls Try.prog 11 #[.slice A n c, .int .u64 N] w fun e w' => ∃ A' m c', e = .returned (.slice A' m c') ∧ Ow w' w.heap.size A' c' m (bs ++ var N.toNat) ∧ Below w.heap.size w w' := by
  go_enter Try.func11, Try.ntmps11
  go_wp2_with (first
    | (go_at_call 24; refine (fresh_any A n c 10 bs _ hr (by omega) (by omega)).mono ?_; rintro e w1 ⟨A1, c1, rfl, ho1, hb1⟩)
    | (go_at_call 23; refine (appendVar_any w.heap.size A1 n c1 bs N _ h0 hN ho1 hb1.size hb).mono ?_; rintro e w2 ⟨A2, m2, c2, rfl, ho2, hb2⟩))
  go_ret
  exact ⟨A2, m2, c2, rfl, ho2, hb1.trans hb2⟩

set_option maxHeartbeats 400000 in
theorem putBytes_any (A : Option Addr) (n c : Nat) (bs : List UInt8) (A1 : Option Addr) (n1 c1 : Nat) (ss : List UInt8) (w : World) (hr : Rd w w.heap.size 1 A n (bs.map bv)) (hs : Rd w w.heap.size 1 A1 n1 (ss.map bv)) (hb : n + n1 ≤ 35184372088832) :
    Calls Try.prog 17 #[.slice A n c, .slice A1 n1 c1] w fun e w' => ∃ A' m c', e = .returned (.slice A' m c') ∧ Ow w' w.heap.size A' c' m (bs ++ var n1 ++ ss) ∧ Below w.heap.size w w' := by
  have hl := var_len n1
  go_enter Try.func17, Try.ntmps17
  go_wp2_with (first
    | (go_at_call 24; refine (fresh_any A n c _ bs _ hr (by omega) (by omega)).mono ?_; rintro e w1 ⟨A2, c2, rfl, ho2, hb2⟩)
    | (go_at_call 23; refine (appendVar_any w.heap.size A2 n c2 bs _ _ (by omega) (by omega) ho2 hb2.size (by omega)).mono ?_; rintro e w2 ⟨A3, m3, c3, rfl, ho3, hb3⟩; rw [Int.toNat_natCast] at ho3; have hm3 : m3 ≤ n + 10 := (by have := ho3.len; have := ho2.len; simp at *; omega))
    | (at_builtin; refine app8 _ rfl _ _ rfl w.heap.size A3 c3 m3 _ rfl ho3 w.heap.size A1 n1 c1 ss rfl (hs.below (hb2.trans hb3)) (by omega) (hb2.trans hb3).size ?_; intro A4 c4 w4 ho4 hb4 _))
  go_ret
  exact ⟨A4, m3 + n1, c4, rfl, ho4, (hb2.trans hb3).trans hb4⟩

/-! ### the reference's -/
set_option maxRecDepth 100000 in
set_option maxHeartbeats 1000000 in
theorem rVar_any (N : Int) (w : World) (h0 : 0 ≤ N) (hN : N < 18446744073709551616) :
    Calls Try.prog 25 #[.int .u64 N] w fun e w' => ∃ A' m c', e = .returned (.slice A' m c') ∧ Ow w' w.heap.size A' c' m (var N.toNat) ∧ Below w.heap.size w w' := by
  obtain ⟨N, rfl⟩ := Int.eq_ofNat_of_zero_le h0
  rw [Int.toNat_natCast]
  have hN' : N < 18446744073709551616 := by omega
  clear h0 hN
  go_enter Try.func25, Try.ntmps25
  go_wp2
  go_loopw [0, 3] (fun p q wr => ∃ (pre : List UInt8) (A : Option Addr) (c f r m : Nat), p = .int .u64 (r : Int) ∧ q = .slice A m c ∧ r < 18446744073709551616 ∧ r < 128 ^ (f + 1) ∧ m + f = 9 ∧ pre ++ varF f r = var N ∧ Ow wr w.heap.size A c m pre ∧ Below w.heap.size w wr)
    (fun p _ _ => (intOf p).toNat)
  case atStart =>
    exact ⟨[], none, 0, 9, N, 0, rfl, rfl, hN', by omega, rfl, rfl, owNil _ _, Below.refl _ _⟩
  case round =>
    obtain ⟨pre, A, c, f, r, m, rfl, rfl, hr, hrf, hlen, hx, ho, hb⟩ := hrel
    have HX := Lib.hid hx
    clear hx
    by_cases hge : r < 128
    · have hrf' : varF f r = [UInt8.ofNat r] := by cases f <;> simp [varF, hge]
      have hfr : (r : Int) = ((UInt8.ofNat r).toNat : Int) := by rw [UInt8.toNat_ofNat_of_lt' (by show r < 256; omega)]
      have HF := Lib.hid hfr
      have HV := Lib.hid hrf'
      clear hfr hrf'
      have hone := rdOne wr (UInt8.ofNat r)
      rw [← HF.out] at hone
      go_wp2_with (at_builtin; refine app8 _ rfl _ _ rfl w.heap.size A c m pre rfl (ho.alloc _) (wr.heap.size + 1) (some ⟨wr.heap.size, 0, none⟩) 1 1 [UInt8.ofNat r] rfl hone (by omega) (by have := hb.size; simp; omega) ?_; intro A4 c4 w4 ho4 hb4 _)
      go_ret
      rw [HV.out] at HX
      exact ⟨A4, m + 1, c4, rfl, by rw [← HX.out]; exact ho4, hb.trans ((Below.alloc (Below.refl _ _) hb.size _).trans hb4)⟩
    · obtain ⟨f, rfl⟩ : ∃ g, f = g + 1 := ⟨f - 1, by
        rcases f with _ | f
        · simp at hrf; omega
        · rfl⟩
      have hfr : (r : Int) % 128 + 128 = ((UInt8.ofNat (r % 128 + 128)).toNat : Int) := by rw [UInt8.toNat_ofNat_of_lt' (by show _ < 256; omega)]; omega
      have HF := Lib.hid hfr
      clear hfr
      go_wp2_with (at_builtin; refine app8 _ rfl _ _ rfl w.heap.size A c m pre rfl (ho.alloc _) (wr.heap.size + 1) (some ⟨wr.heap.size, 0, none⟩) 1 1 [UInt8.ofNat (r % 128 + 128)] rfl (by have := rdOne wr (UInt8.ofNat (r % 128 + 128)); rw [← HF.out] at this; exact this) (by omega) (by have := hb.size; simp; omega) ?_; intro A4 c4 w4 ho4 hb4 _)
      go_roundw
      case rel => exact ⟨pre ++ [UInt8.ofNat (r % 128 + 128)], A4, c4, f, r / 128, m + 1, by go_num, rfl, by omega, by omega, by omega, by rw [← HX.out]; simp [varF, hge], ho4, hb.trans ((Below.alloc (Below.refl _ _) hb.size _).trans hb4)⟩
      case measure => simp [intOf]; omega

set_option maxRecDepth 100000 in
set_option maxHeartbeats 400000 in
theorem rPutVar_any (A : Option Addr) (n c : Nat) (bs : List UInt8) (N : Int) (w : World) (hr : Rd w w.heap.size 1 A n (bs.map bv)) (h0 : 0 ≤ N) (hN : N < 18446744073709551616) (hb : n + 10 ≤ 70368744177664) :
    Calls Try.prog 14 #[.slice A n c, .int .u64 N] w fun e w' => ∃ A' m c', e = .returned (.slice A' m c') ∧ Ow w' w.heap.size A' c' m (bs ++ var N.toNat) ∧ Below w.heap.size w w' := by
  have hl := var_len N.toNat
  go_enter Try.func14, Try.ntmps14
  go_wp2_with (first
    | (at_builtin; refine app8 _ rfl (.tmp 5) (.tmp 6) rfl w.heap.size _ _ 0 [] rfl (owLit0 w _ (Nat.le_refl _)) w.heap.size A n c bs rfl (hr.below ((Below.refl _ _).alloc (Nat.le_refl _) _)) (by omega) (by simp) ?_; intro A1 c1 w1 ho1 hb1 _; have hbw1 := ((Below.refl w.heap.size w).alloc (Nat.le_refl _) (.cells #[] 5)).trans hb1; rw [Nat.zero_add] at ho1)
    | (go_at_call 25; refine (rVar_any N _ h0 hN).mono ?_; rintro e w2 ⟨A2, m2, c2, rfl, ho2, hb2⟩; have hbw2 := hbw1.trans (hb2.mono hbw1.size); have hm2 : m2 ≤ 10 := (by have := ho2.len; omega))
    | (at_builtin; refine app8 _ rfl (.tmp 7) (.tmp 9) rfl w.heap.size A1 c1 n _ rfl (ho1.below hb2 (Nat.le_refl _)) w2.heap.size A2 m2 c2 _ rfl ho2.rd (by omega) hbw2.size ?_; intro A4 c4 w4 ho4 hb4 _))
  go_ret
  exact ⟨A4, n + m2, c4, rfl, ho4, hbw2.trans hb4⟩

set_option maxRecDepth 100000 in
set_option maxHeartbeats 400000 in
theorem rPutBytes_any (A : Option Addr) (n c : Nat) (bs : List UInt8) (A1 : Option Addr) (n1 c1 : Nat) (ss : List UInt8) (w : World) (hr : Rd w w.heap.size 1 A n (bs.map bv)) (hs : Rd w w.heap.size 1 A1 n1 (ss.map bv)) (hb : n + n1 ≤ 35184372088832) :
    Calls Try.prog 18 #[.slice A n c, .slice A1 n1 c1] w fun e w' => ∃ A' m c', e = .returned (.slice A' m c') ∧ Ow w' w.heap.size A' c' m (bs ++ var n1 ++ ss) ∧ Below w.heap.size w w' := by
  have hl := var_len n1
  have hlb : bs.length = n := by simpa using hr.len1
  go_enter Try.func18, Try.ntmps18
  go_wp2_with (first
    | (go_at_call 14; refine (rPutVar_any A n c bs _ _ hr (by omega) (by omega) (by omega)).mono ?_; rintro e w2 ⟨A3, m3, c3, rfl, ho3, hb3⟩; rw [Int.toNat_natCast] at ho3; have hm3 : m3 ≤ n + 10 := (by have := ho3.len; simp at *; omega))
    | (at_builtin; refine app8 _ rfl _ _ rfl w.heap.size A3 c3 m3 _ rfl ho3 w.heap.size A1 n1 c1 ss rfl (hs.below hb3) (by omega) hb3.size ?_; intro A4 c4 w4 ho4 hb4 _))
  go_ret
  exact ⟨A4, m3 + n1, c4, rfl, ho4, hb3.trans hb4⟩
end Go.Proofs.Ytdoonjldnehbdaa
