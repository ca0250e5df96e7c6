/- Texts, packed: SrA -/
import Derived.Test.YtfmghkplafploaaPwT
import Derived.Test.YtfmghkplafploaaPwY
import Derived.Test.YtfmghkplafploaaPwZ
import Derived.Lib.Mul64
import Derived.Laws.Bits64b
import Derived.Laws.CopyOwn
import Derived.WalkKit
set_option linter.unusedVariables false
set_option linter.unusedSimpArgs false
namespace Go.Proofs.Ytfmghkplafploaa
open Go Go.RowKit

theorem mask32 (a : Nat) (ha : a < 4294967296) : bits .and .u64 (a : Int) 4294967295 = (a : Int) := by
  have h := bits_and_u64_nat a 4294967295 (by omega) (by omega)
  have e : a &&& 4294967295 = a % 4294967296 := Nat.and_two_pow_sub_one_eq_mod a 32
  rw [e, Nat.mod_eq_of_lt ha] at h
  exact h
set_option maxHeartbeats 1000000 in
theorem mul64_one (y : Nat) (hy : y < 4294967296) (w : World) : Calls Try.prog 64 #[.int .u64 1, .int .u64 (y : Int)] w fun e w' => e = .returned (.tuple #[.int .u64 0, .int .u64 (y : Int)]) ∧ w' = w := by
  have h1 := mask32 1 (by omega)
  have h2 := mask32 y hy
  have h3 : (y : Int) / 4294967296 = 0 := by omega
  have h4 : bits .and .u64 0 4294967295 = 0 := mask32 0 (by omega)
  have h5 : IntKind.u64.wrap (y : Int) = (y : Int) := by rw [IntKind.wrap_u64]; omega
  have h6 : IntKind.u64.wrap 0 = 0 := by decide
  have h7 : bits .and .u64 1 4294967295 = 1 := h1
  go_enter Try.func64, Try.ntmps64
  go_wp2
  try simp [h2, h3, h4, h5, h6, h7]
  go_ret2
  exact ⟨rfl, rfl⟩
set_option maxHeartbeats 1000000 in
theorem mul_one (y : Nat) (hy : y < 4294967296) (w : World) : Calls Try.prog 39 #[.int .u64 1, .int .u64 (y : Int)] w fun e w' => e = .returned (.tuple #[.int .u64 0, .int .u64 (y : Int)]) ∧ w' = w := by
  go_enter Try.func39, Try.ntmps39
  repeat (first | go_skip | go_guarded | go_step)
  refine (mul64_one y hy _).mono ?_
  rintro e w' ⟨rfl, rfl⟩
  dsimp only
  repeat (first | go_skip | go_guarded | go_step)
  go_ret2
  exact ⟨rfl, rfl⟩
abbrev iz (z : Int) : Value := .int .i64 z
theorem intInfoR : (Try.prog.info? 3).map (fun i => (i.zero, i.size, i.bytes)) = some (some (.int .i64 0), 1, 8) := by kernel_rfl
theorem intSz : (Try.prog.info? 3).map (·.size) = some 1 := by kernel_rfl
theorem rep_splice (z : Int) (n k m : Nat) (h : n + m ≤ k) : splice (List.replicate n (iz z) ++ List.replicate (k - n) (iz 0)) n (List.replicate m (iz z)) = List.replicate (n + m) (iz z) ++ List.replicate (k - (n + m)) (iz 0) := by
  unfold splice
  rw [List.take_append_of_le_length (by simp), List.take_of_length_le (by simp), List.length_replicate, List.drop_append, List.drop_of_length_le (by simp), List.length_replicate, List.nil_append, List.drop_replicate, ← List.append_assoc, List.replicate_append_replicate]
  congr 2
  omega
set_option maxRecDepth 100000 in
set_option maxHeartbeats 4000000 in
theorem rep_any (z : Int) (k : Nat) (g0 : Nat) (w : World) (hz : Bk w g0 3 [iz z]) (hk : k ≤ 1000000) :
    Calls Try.prog 25 #[.slice (some ⟨g0, 0, none⟩) 1 1, .int .i64 (k : Int)] w fun e w' => e = .returned (.slice (some ⟨w.heap.size, 0, none⟩) k k) ∧ Bk w' w.heap.size 3 (List.replicate k (iz z)) ∧ Below w.heap.size w w' := by
  have HZ := Lib.hid hz
  have hneg : ¬ (k : Int) < 0 := by omega
  have hw1 : IntKind.u64.wrap (k : Int) = (k : Int) := by rw [IntKind.wrap_u64]; omega
  have hw2 : IntKind.i64.wrap (k : Int) = (k : Int) := by rw [IntKind.wrap_i64]; omega
  have hbig : ¬ (9223372036854775807 : Int) < (k : Int) := by omega
  clear hz
  obtain ⟨i0, hi0, hz0, hz1, hz2⟩ := info_parts intInfoR
  have hb4 : i0.bytes * k ≤ 281474976710656 := by rw [hz2]; omega
  have hmx : k ≤ maxLen := by simp only [maxLen]; omega
  go_enter Try.func25, Try.ntmps25
  repeat (first | go_skip | go_guarded | go_step)
  refine (mul_one k (by omega) _).mono ?_
  rintro e w' ⟨rfl, hw⟩
  rw [hw]
  clear hw
  dsimp only
  repeat (first
    | (at_make; refine wpList_make_bk _ rfl (.tmp 29) (.tmp 29) 43 rfl 3 i0 _ Try.underlying43 hi0 hz0 hz1 rfl .i64 .i64 (k : Int) (k : Int) k k rfl rfl rfl rfl (Nat.le_refl _) hb4 hmx ?_
       intro W1 hbk1 hbw1 hs1
       obtain ⟨g, hg⟩ : ∃ g, g = w.heap.size := ⟨_, rfl⟩
       rw [← hg] at hbk1 hs1 ⊢
       have HBK1 := Lib.hid hbk1
       have HG := Lib.hid hg
       have HB1 := Lib.hid hbw1
       have HZ1 := Lib.hid (HZ.out.later hbw1)
       clear hbk1 hbw1 hs1 hg)
    | (with_reducible refine wpList_copy_splice (o := ⟨some 33, _, _, _, _, _⟩) ?hg (.tmp 31) (.tmp 32) 43 43 ?ho 3 Try.underlying43 ?hsz (some ⟨g, 0, none⟩) (some ⟨g0, 0, none⟩) k k 1 1 ?hd ?hs g 0 (List.replicate k (iz 0)) 3 ?hz (List.replicate (min 1 k) (iz z)) ?hn ?hp ?hf ?h1 w.heap.size w ?hb ?hw ?hh
       go_loud
         (skip
          case hg => rfl
          case ho => rfl
          case hsz => exact intSz
          case hd => rfl
          case hs => rfl
          case hz => exact HBK1.out
          case hn => exact List.length_replicate
          case hp =>
            intro _
            refine ⟨rfl, _, rfl, fun j v hv => ?_⟩
            rw [addPlain, Nat.zero_add, HZ1.out.cell]
            rw [List.getElem?_replicate] at hv
            split at hv
            · rename_i hj
              obtain rfl : j = 0 := by omega
              exact hv
            · cases hv
          case hf => rw [List.length_replicate, List.length_replicate]; omega
          case h1 => intro v hv; rw [List.eq_of_mem_replicate hv]; rfl
          case hb => exact HB1.out
          case hw => exact Nat.le_of_eq HG.out.symm
          intro w2 hg2 hb2
          have HR2 := Lib.hid (show Bk w2 g 3 (List.replicate (min 1 k) (iz z) ++ List.replicate (k - min 1 k) (iz 0)) by
            have h := hg2.out
            have e := rep_splice z 0 k (min 1 k) (by omega)
            rw [List.replicate_zero, List.nil_append, Nat.sub_zero, Nat.zero_add] at e
            rw [e] at h
            exact h)
          have HB2 := Lib.hid hb2
          rw [List.length_replicate]
          clear hg2 hb2))
    | go_skip | go_guarded | go_step)
  go_loopw [8] (fun q wr => ∃ n : Nat, q = .int .i64 (n : Int) ∧ n ≤ k ∧ (0 < k → 0 < n) ∧ Bk wr g 3 (List.replicate n (iz z) ++ List.replicate (k - n) (iz 0)) ∧ Below w.heap.size w wr) (fun q _ => k - (intOf q).toNat)
  case atStart => exact ⟨min 1 k, rfl, by omega, by omega, HR2.out, HB2.out⟩
  case round =>
    obtain ⟨n, rfl, hn, hpos, hbk, hb⟩ := hrel
    have HK := Lib.hid hbk
    have HB := Lib.hid hb
    clear hbk hb
    by_cases hlt : n < k
    · have hci : (n : Int) < (k : Int) := by omega
      have hn0 : 0 < n := hpos (by omega)
      obtain ⟨m, hm⟩ : ∃ m, m = min n (k - n) := ⟨_, rfl⟩
      have hm1 : 0 < m := by omega
      have hm2 : n + m ≤ k := by omega
      have HM := Lib.hid hm
      have hcells : ∀ j v, (List.replicate m (iz z))[j]? = some v → wr.cell? ((⟨g, 0, none⟩ : Addr).add j) = some v := fun j v hv => by
        rw [List.getElem?_replicate] at hv
        split at hv
        · rename_i hj
          rw [addPlain, Nat.zero_add, HK.out.cell, List.getElem?_append_left (by rw [List.length_replicate]; omega), List.getElem?_replicate, if_pos (by omega)]
          exact hv
        · cases hv
      have HCC := Lib.hid hcells
      have hwr : IntKind.i64.wrap ((n : Int) + (m : Int)) = ((n + m : Nat) : Int) := by rw [IntKind.wrap_i64]; omega
      have hle0 : (0 : Int) ≤ (n : Int) := by omega
      have hnk : (n : Int) ≤ (k : Int) := by omega
      have hne : ¬ (n : Int) = (k : Int) := by omega
      have hne2 : ¬ k = n := by omega
      have hne3 : ¬ n = k := by omega
      have HGW := Lib.hid (show w.heap.size ≤ g from Nat.le_of_eq HG.out.symm)
      clear hm hcells
      go_upto_region 9 with (fail)
      go_region_law (refine step_copy_splice rfl (.tmp 41) (.tmp 44) 43 43 rfl 3 Try.underlying43 intSz (some ⟨g, n, none⟩) (some ⟨g, 0, none⟩) (k - n) (k - n) n k (by simp [Act.eval, Act.put]) (by simp [Act.eval, Act.put]) g n (List.replicate n (iz z) ++ List.replicate (k - n) (iz 0)) 3 HK.out (List.replicate m (iz z)) (by rw [List.length_replicate]; exact HM.out) (fun _ => ⟨rfl, _, rfl, HCC.out⟩) (by rw [List.length_append, List.length_replicate, List.length_replicate, List.length_replicate]; omega) (by intro v hv; rw [List.eq_of_mem_replicate hv]; rfl) w.heap.size w (by first | exact HB.out | exact belowDrews HB.out 1 | exact belowDrews HB.out 2 | exact belowDrews HB.out 3 | exact belowDrews HB.out 4) HGW.out ?_; intro w4 hg4 hb4; rw [List.length_replicate])
      have HR4 := Lib.hid (show Bk w4 g 3 (List.replicate (n + m) (iz z) ++ List.replicate (k - (n + m)) (iz 0)) by
        have h := hg4.out
        rw [rep_splice z n k m hm2] at h
        exact h)
      have HB4 := Lib.hid hb4
      clear hg4 hb4
      go_wp2
      go_roundw
      case rel => exact ⟨n + m, by go_num, by omega, fun _ => by omega, HR4.out, HB4.out⟩
      case measure => simp [intOf]; omega
    · obtain rfl : n = k := by omega
      have hci : ¬ (n : Int) < (n : Int) := by omega
      repeat (first | go_skip | go_guarded | go_step)
      go_ret
      exact ⟨by rw [HG.out]; rfl, by
        have h := HK.out
        rw [Nat.sub_self, List.replicate_zero, List.append_nil] at h
        rw [← HG.out]
        exact h, HB.out⟩
end Go.Proofs.Ytfmghkplafploaa

