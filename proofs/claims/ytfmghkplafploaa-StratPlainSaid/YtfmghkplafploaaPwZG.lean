/- Texts, packed: SrE -/
import Derived.Test.YtfmghkplafploaaPwZD
set_option linter.unusedVariables false
set_option linter.unusedSimpArgs false
namespace Go.Proofs.Ytfmghkplafploaa
open Go Go.RowKit

theorem egM_le (D : Nat → List Hn) {i n : Nat} (h : i ≤ n) : (egM D i).length ≤ (egM D n).length := by
  induction n with
  | zero => rw [show i = 0 by omega]; exact Nat.le_refl _
  | succ n ih =>
    rcases Nat.lt_or_eq_of_le h with k | k
    · have := ih (by omega)
      rw [egM_succ, List.length_append]
      omega
    · rw [k]; exact Nat.le_refl _
theorem ei_app (a b : List (Nat × Nat)) : ei (a ++ b) = ei a ++ ei b := by unfold ei; rw [List.map_append]
set_option maxRecDepth 100000 in
set_option maxHeartbeats 8000000 in
theorem edges_any (A : Option Addr) (n c : Nat) (R : Nat → SlA) (D : Nat → List Hn) (w : World) (h : RdHs w w.heap.size A n R D) (hn : n ≤ 3600) (hl : (egM D n).length ≤ 16384) :
    Calls Try.prog 16 #[.slice A n c] w fun e w' => ∃ (A' : Option Addr) (c' : Nat), e = .returned (.slice A' (egM D n).length c') ∧ RdE w' w'.heap.size A' (egM D n).length (ei (egM D n)) ∧ Below w.heap.size w w' := by
  have HH := Lib.hid h
  have HLE := Lib.hid hl
  clear h hl
  go_enter Try.func16, Try.ntmps16
  repeat (first | go_skip | go_guarded | go_step)
  go_loopw [2, 9] (fun lv q wr => ∃ (i m : Nat) (Al : Option Addr) (cl : Nat), i ≤ n ∧ lv = .slice Al m cl ∧ q = .int .i64 (i : Int) ∧ OwEd wr w.heap.size Al cl m (ei (egM D i)) ∧ Below w.heap.size w wr) (fun _ q _ => n - (intOf q).toNat)
  case atStart => exact ⟨0, 0, none, 0, by omega, rfl, rfl, World.ownsRow_nil _ _ _ _, Below.refl _ _⟩
  case round =>
    rename World => wr
    obtain ⟨i, m, Al, cl, hi, rfl, rfl, hox, hbr⟩ := hrel
    have HOX := Lib.hid hox
    have HBR := Lib.hid hbr
    have HML := Lib.hid (show (egM D i).length = m by have := hox.rd.len; rwa [ei_len] at this)
    clear hox hbr
    by_cases hlt : i < n
    · have hci : (i : Int) < (n : Int) := by omega
      obtain ⟨b, o, hA, hb, hc0, hrow⟩ := (HH.out.below HBR.out).at_ hlt
      have hroww := HH.out.row i hlt
      obtain ⟨⟨Ar, nr, cr⟩, hsv⟩ : ∃ s, s = R i := ⟨_, rfl⟩
      rw [← hsv] at hc0 hroww
      dsimp only at hc0 hroww
      have HROW := Lib.hid hroww
      have HDL := Lib.hid (hg_len hroww)
      have HEB := Lib.hid (show (egM D i).length + nr ≤ 16384 by
        have h1 := egM_le D (show i + 1 ≤ n by omega)
        rw [egM_succ, List.length_append, List.length_map, hg_len hroww] at h1
        have := HLE.out
        omega)
      have hnrb : nr ≤ 16384 := by have := HEB.out; omega
      subst hA
      clear hb hrow hroww hsv
      repeat (first | go_skip | go_guarded | go_step)
      clear hc0
      go_loopw [2, 16] (fun lv q wz => ∃ (k m2 : Nat) (Az : Option Addr) (cz : Nat), k ≤ nr ∧ lv = .slice Az m2 cz ∧ q = .int .i64 (k : Int) ∧ OwEd wz w.heap.size Az cz m2 (ei (egM D i ++ ((D i).take k).map fun h => (i, h.1))) ∧ m2 ≤ 16384 ∧ Below w.heap.size w wz) (fun _ q _ => nr - (intOf q).toNat)
      case atStart => exact ⟨0, m, Al, cl, by omega, rfl, rfl, by simpa using HOX.out, by have := HEB.out; have := HML.out; omega, HBR.out⟩
      case round =>
        rename World => wz
        obtain ⟨k, m2, Az, cz, hk, rfl, rfl, hoz, hm2, hbz⟩ := hrel
        have HOZ0 := Lib.hid hoz
        have HBZ := Lib.hid hbz
        have HM2 := Lib.hid (show m2 = (egM D i).length + k by
          have h1 := hoz.rd.len
          rw [ei_len, List.length_append, List.length_map, List.length_take, HDL.out, Nat.min_eq_left hk] at h1
          exact h1.symm)
        clear hoz hbz
        by_cases hlk : k < nr
        · have hck : (k : Int) < (nr : Int) := by omega
          obtain ⟨b3, o3, x, hA3, hb3, hx3, e0, e1⟩ := hg_at (HROW.out.below HBZ.out) hlk
          obtain ⟨y, ub⟩ := x
          dsimp only at e0 e1
          have HTK := Lib.hid (show ((D i).take (k + 1)).map (fun h => (i, h.1)) = ((D i).take k).map (fun h => (i, h.1)) ++ [(i, y)] by
            rw [List.take_add_one, hx3]
            simp)
          obtain ⟨U2, hU2, hbU2, hbu2⟩ := box2 wz (.int .i64 (y : Int)) (.int .i64 ((dl ub : Nat) : Int)) 71
          have HU2 := Lib.hid hU2
          have hZ : Below U2.heap.size U2 (U2.alloc (.cells #[.int .i64 (i : Int), .int .i64 (y : Int)] 75)) := (Below.refl _ _).alloc (Nat.le_refl _) _
          have HOZ := Lib.hid ((HOZ0.out.later hbu2).later hZ)
          have HBZ3 := Lib.hid ((HBZ.out.trans (hbu2.mono HBZ.out.size)).trans (hZ.mono (Nat.le_trans HBZ.out.size hbu2.size)))
          have HLIT := Lib.hid (litEd U2 (i : Int) (y : Int))
          have j0 := hbU2.read (Below.refl _ _) 0 rfl
          subst hA3
          clear hx3 hb3 hU2 hbU2 hbu2 hZ
          go_upto_region 7 with (fail)
          rw [← HU2.out]
          clear e0 e1
          repeat (first
            | (at_builtin; refine appEd _ rfl (.tmp 20) (.tmp 25) rfl w.heap.size Az cz m2 _ rfl HOZ.out _ _ 1 1 [((i : Int), (y : Int))] rfl HLIT.out (by omega) HBZ3.out.size ?_
               intro A4 c4 Z4 hoZ htZ
               have HO4 := Lib.hid hoZ
               have HB4 := Lib.hid (HBZ3.out.trans (htZ.below (B := w.heap.size) (fun y _ e => (HOZ.out.low e).1) HBZ3.out.size))
               clear hoZ htZ)
            | go_skip | go_guarded | go_step)
          go_roundw
          case rel => exact ⟨k + 1, m2 + 1, A4, c4, by omega, rfl, by go_num, by
            rw [HTK.out, ← List.append_assoc, ei_app]
            exact HO4.out, by have := HM2.out; have := HEB.out; omega, HB4.out⟩
          case measure => simp [intOf]; omega
        · obtain rfl : nr = k := by omega
          have hck : ¬ (nr : Int) < (nr : Int) := by omega
          repeat (first | go_skip | go_guarded | go_step)
          go_roundw
          case rel => exact ⟨i + 1, m2, Az, cz, by omega, rfl, by go_num, by
            rw [egM_succ]
            have h := HOZ0.out
            rwa [List.take_of_length_le (by rw [HDL.out]; exact Nat.le_refl _)] at h, HBZ.out⟩
          case measure => simp [intOf]; omega
    · obtain rfl : n = i := by omega
      have hci : ¬ (n : Int) < (n : Int) := by omega
      repeat (first | go_skip | go_guarded | go_step)
      go_ret
      exact ⟨Al, cl, by rw [HML.out]; rfl, by rw [HML.out]; exact HOX.out.rd, HBR.out⟩
end Go.Proofs.Ytfmghkplafploaa

