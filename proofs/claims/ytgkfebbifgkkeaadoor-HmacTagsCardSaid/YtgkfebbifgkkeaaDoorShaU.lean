/- Layer 2 (sha), the reference: padding, and the sum. -/
import Derived.Test.YtgkfebbifgkkeaaDoorShaS
set_option linter.unusedVariables false
set_option linter.unusedSimpArgs false
namespace Go.Proofs.YtgkfebbifgkkeaaDoor
open Go Go.RowKit

theorem lenMod (n j : Nat) (hj : j ≤ noughts n) : (n + 1 + j) % 64 = 56 ↔ j = noughts n := by
  unfold noughts at *
  omega
theorem be8_step (n k : Nat) (hk : k < 8) : (be8 n).take (k + 1) = (be8 n).take k ++ [UInt8.ofNat (n / 2 ^ (8 * (7 - k)))] := by
  rw [List.take_add_one, be8_get n k hk]
  rfl

set_option maxRecDepth 100000 in
set_option maxHeartbeats 1000000 in
theorem rPadded_any (A : Option Addr) (n c : Nat) (bs : List UInt8) (w : World) (hr : Rd w w.heap.size 1 A n (bs.map bv)) (hn : n ≤ 1099511627776) :
    Calls Tryd.prog 25 #[.slice A n c] w fun e w' => ∃ A' m c', e = .returned (.slice A' m c') ∧ Ow w' w.heap.size A' c' m (bs ++ tailP bs.length) ∧ Below w.heap.size w w' := by
  have hl : bs.length = n := by simpa using hr.len1
  have HL := Lib.hid hl
  have HR := Lib.hid hr
  clear hr hl
  have HN := Lib.hid (noughts_lt n)
  have hone : ∀ (W : World) (x : UInt8), Rd (W.alloc (.cells #[.int .u8 (x.toNat : Int)] 5)) (W.heap.size + 1) 1 (some ⟨W.heap.size, 0, none⟩) 1 ([x].map bv) := rdOne
  have h128 : ∀ (W : World), Rd (W.alloc (.cells #[.int .u8 128] 5)) (W.heap.size + 1) 1 (some ⟨W.heap.size, 0, none⟩) 1 ([128].map bv) := fun W => rdOne W 128
  have h000 : ∀ (W : World), Rd (W.alloc (.cells #[.int .u8 0] 5)) (W.heap.size + 1) 1 (some ⟨W.heap.size, 0, none⟩) 1 ([0].map bv) := fun W => rdOne W 0
  have HONE := Lib.hid hone
  have H128 := Lib.hid h128
  have H000 := Lib.hid h000
  clear hone h128 h000
  go_enter Tryd.func25, Tryd.ntmps25
  go_wp2_with (first
    | (at_builtin; refine app8 _ rfl (.tmp 6) (.tmp 7) rfl w.heap.size _ _ 0 [] rfl (owLit0 w _ (Nat.le_refl _)) w.heap.size A n c bs rfl (HR.out.below ((Below.refl _ _).alloc (Nat.le_refl _) _)) (by omega) (by simp) ?_; intro A1 c1 w1 ho1 hb1 _; rw [Nat.zero_add, List.nil_append] at ho1; have hbw1 := ((Below.refl w.heap.size w).alloc (Nat.le_refl _) (.cells #[] 5)).trans hb1)
    | (at_builtin; refine app8 _ rfl (.tmp 8) (.tmp 9) rfl w.heap.size A1 c1 n bs rfl (ho1.alloc _) (w1.heap.size + 1) (some ⟨w1.heap.size, 0, none⟩) 1 1 [128] rfl (H128.out w1) (by omega) (by have := hbw1.size; simp; omega) ?_; intro A2 c2 w2 ho2 hb2 _))
  have hbw2 := (hbw1.alloc hbw1.size _).trans hb2
  clear ho1 hb1 hb2 hbw1
  go_loopw [3] (fun p wr => ∃ (j m : Nat) (Ao : Option Addr) (co : Nat), j ≤ noughts n ∧ m = n + 1 + j ∧ p = .slice Ao m co ∧ Ow wr w.heap.size Ao co m (bs ++ (128 :: List.replicate j 0)) ∧ Below w.heap.size w wr)
    (fun p _ => match p with | .slice _ m _ => n + 65 - m | _ => 0)
  case atStart => exact ⟨0, n + 1, A2, c2, by omega, rfl, rfl, ho2, hbw2⟩
  case round =>
    clear ho2 hbw2
    obtain ⟨j, m, Ao, co, hj, hm, rfl, ho, hbw⟩ := hrel
    have hj64 := HN.out
    obtain ⟨r, hr⟩ : ∃ r, r = m % 64 := ⟨_, rfl⟩
    have etm : (m : Int).tmod 64 = (r : Int) := by rw [Int.tmod_eq_emod_of_nonneg (by omega)]; omega
    have etm2 : (m : Int) % 64 = (r : Int) := by omega
    have hlm := lenMod n j hj
    rw [← hm, ← hr] at hlm
    by_cases hlt : j < noughts n
    · have hne : ((r : Int) != 56) = true := by
        rw [bne_iff_ne]
        intro h
        have : r = 56 := by omega
        have := hlm.1 this
        omega
      have HM := Lib.hid hm
      have hm1 : m + 1 ≤ 1099511627900 := by omega
      have hmr : m < n + 65 := by omega
      clear hlm hr hm
      go_wp2_with (at_builtin; refine app8 _ rfl (.tmp 15) (.tmp 16) rfl w.heap.size Ao co m _ rfl (ho.alloc _) (wr.heap.size + 1) (some ⟨wr.heap.size, 0, none⟩) 1 1 [0] rfl (H000.out wr) (by omega) (by have := hbw.size; simp; omega) ?_; intro A3 c3 w3 ho3 hb3 _)
      go_roundw
      case rel => exact ⟨j + 1, m + 1, A3, c3, by omega, by have := HM.out; omega, rfl, by rw [List.replicate_succ', ← List.cons_append, ← List.append_assoc]; exact ho3, (hbw.alloc hbw.size _).trans hb3⟩
      case measure => show n + 65 - (m + 1) < n + 65 - m; omega
    · obtain rfl : j = noughts n := by omega
      have hr56 : r = 56 := hlm.2 rfl
      subst hr56
      have hne : ((56 : Nat) : Int) = 56 := rfl
      rw [hne] at etm etm2
      clear hlm hlt hj hr hne
      have HM := Lib.hid hm
      clear hm
      generalize hk0 : noughts n = k0 at *
      have HK0 := Lib.hid hk0
      clear hk0
      go_wp2
      have hm64 : m ≤ 1099511627842 := by have := HM.out; have := HN.out; omega
      go_loopw [3, 5] (fun p q wz => ∃ (j m' : Nat) (Az : Option Addr) (cz : Nat), p = .slice Az m' cz ∧ q = .int .i64 ((j : Int) - 1) ∧ j ≤ 8 ∧ m' + j = m + 8 ∧ Ow wz w.heap.size Az cz m' (bs ++ (128 :: List.replicate k0 0) ++ (be8 (8 * n)).take (8 - j)) ∧ Below w.heap.size w wz)
        (fun _ q _ => (intOf q + 1).toNat)
      case atStart =>
        refine ⟨8, m, Ao, co, rfl, rfl, by omega, rfl, ?_, hbw⟩
        rw [Nat.sub_self, List.take_zero, List.append_nil]
        exact ho
      case round =>
        clear ho hbw
        obtain ⟨j, m', Az, cz, rfl, rfl, hj, hmj, ho, hbw⟩ := hrel
        have hm1 : m' ≤ 1099511627850 := by omega
        have HMJ := Lib.hid hmj
        clear hmj
        rcases j with _ | j
        · go_wp2
          go_ret
          rw [Nat.sub_zero, List.take_of_length_le (by simp [be8])] at ho
          refine ⟨Az, m', cz, rfl, ?_, hbw⟩
          unfold tailP
          rw [HL.out, HK0.out, ← List.append_assoc]
          exact ho
        · have hone := HONE.out wr (UInt8.ofNat (8 * n / 2 ^ (8 * j)))
          rw [show Value.int .u8 ((UInt8.ofNat (8 * n / 2 ^ (8 * j))).toNat : Int) = bv (UInt8.ofNat (8 * n / 2 ^ (8 * j))) from rfl, ← byteN] at hone
          have e1 : ((j + 1 : Nat) : Int) - 1 = (j : Int) := by omega
          rw [e1]
          clear e1
          have hbs := be8_step (8 * n) (8 - (j + 1)) (by omega)
          rw [show 8 - (j + 1) + 1 = 8 - j by omega, show 7 - (8 - (j + 1)) = j by omega] at hbs
          have HBS := Lib.hid hbs
          clear hbs
          have i4 : 0 ≤ 8 * (j : Int) := by omega
          have i5 : 8 * (j : Int) ≤ 64 := by omega
          have i6 : (8 * (j : Int)).toNat = 8 * j := by omega
          rw [show ((8 * n : Nat) : Int) = (n : Int) * 8 by omega] at hone
          go_wp2_with (at_builtin; refine app8 _ rfl (.tmp 26) (.tmp 33) rfl w.heap.size Az cz m' _ rfl (ho.alloc _) (wr.heap.size + 1) (some ⟨wr.heap.size, 0, none⟩) 1 1 [UInt8.ofNat (8 * n / 2 ^ (8 * j))] rfl hone (by omega) (by have := hbw.size; simp; omega) ?_; intro A4 c4 w4 ho4 hb4 _)
          go_roundw
          case rel => exact ⟨j, m' + 1, A4, c4, rfl, by go_num, by omega, by have := HMJ.out; omega, by rw [HBS.out, ← List.append_assoc]; exact ho4, (hbw.alloc hbw.size _).trans hb4⟩
          case measure => simp [intOf]
end Go.Proofs.YtgkfebbifgkkeaaDoor
