/- Layer 2 (sha): the words as bytes, by the code. -/
import Derived.Test.YtgkfebbifgkkeaaDoorShaC
set_option linter.unusedVariables false
namespace Go.Proofs.YtgkfebbifgkkeaaDoor
open Go Go.RowKit

def zB (n : Nat) : List Value := List.replicate n (.int .u8 0)
/-- n bytes of which the first are l. -/
def bPad (n : Nat) (l : List UInt8) : List Value := l.map bv ++ zB (n - l.length)
theorem bPad_set (n : Nat) (l : List UInt8) (x : UInt8) (h : l.length < n) : (bPad n l).set l.length (bv x) = bPad n (l ++ [x]) := by
  unfold bPad zB
  obtain ⟨m, hm⟩ : ∃ m, n - l.length = m + 1 := ⟨n - l.length - 1, by omega⟩
  have hm' : n - (l ++ [x]).length = m := by simp; omega
  rw [hm, hm', List.replicate_succ, List.set_append]
  simp
theorem bPad_full (n : Nat) (l : List UInt8) (h : l.length = n) : bPad n l = l.map bv := by simp [bPad, zB, h]
theorem bPad_len (n : Nat) (l : List UInt8) (h : l.length ≤ n) : (bPad n l).length = n := by simp [bPad, zB]; omega

theorem tag_step (s : W8) (i k : Nat) (hi : i < 8) (hk : k < 4) :
    (tagL s).take (4 * i + (k + 1)) = (tagL s).take (4 * i + k) ++ [UInt8.ofNat ((s.list.getD i 0).toNat / 2 ^ (8 * (3 - k)))] := by
  have ci : i = 0 ∨ i = 1 ∨ i = 2 ∨ i = 3 ∨ i = 4 ∨ i = 5 ∨ i = 6 ∨ i = 7 := by omega
  have ck : k = 0 ∨ k = 1 ∨ k = 2 ∨ k = 3 := by omega
  rcases ci with rfl | rfl | rfl | rfl | rfl | rfl | rfl | rfl <;> rcases ck with rfl | rfl | rfl | rfl <;> (first | rfl | simp [tagL, be4, W8.list])
theorem byteU (x : UInt32) (k : Nat) : Value.int .u8 (ui x / 2 ^ k % 256) = bv (UInt8.ofNat (x.toNat / 2 ^ k)) := by
  unfold bv ui
  congr 1

set_option maxRecDepth 100000 in
set_option maxHeartbeats 1000000 in
theorem tag_any (s : W8) (w : World) :
    Calls Tryd.prog 38 #[s.val] w fun e w' => e = .returned (.agg ((tagL s).map bv).toArray) ∧ Below w.heap.size w w' := by
  have HX : ∀ i : Nat, i < 8 → ∀ w : World, (Instr.index 71 s.val (.int .i64 (i : Int))).run Tryd.prog w = .ok (.int .u32 (ui (s.list.getD i 0))) w := by
    intro i hi w
    have ci : i = 0 ∨ i = 1 ∨ i = 2 ∨ i = 3 ∨ i = 4 ∨ i = 5 ∨ i = 6 ∨ i = 7 := by omega
    rcases ci with rfl | rfl | rfl | rfl | rfl | rfl | rfl | rfl <;> rfl
  have HXH := Lib.hid HX
  clear HX
  have hv : s.val = .agg #[uv s.a, uv s.b, uv s.c, uv s.d, uv s.e, uv s.f, uv s.g, uv s.h] := rfl
  rw [hv] at HXH ⊢
  clear hv
  unfold uv at HXH ⊢
  go_enter Tryd.func38, Tryd.ntmps38
  go_wp2
  go_loopw [8] (fun p wr => ∃ i : Nat, i ≤ 8 ∧ p = .int .i64 (i : Int) ∧ Bk wr (w.heap.size + 1) 28 (zB 32) ∧ Bk wr (w.heap.size + 1 + 1) 28 (bPad 32 ((tagL s).take (4 * i))) ∧ Below w.heap.size w wr)
    (fun p _ => 8 - (intOf p).toNat)
  case atStart => exact ⟨0, by omega, rfl, (Bk.newAt _ (zB 32) (by simp)).alloc _, Bk.newAt _ (zB 32) (by simp), (((Below.refl _ _).alloc (Nat.le_refl _) _).alloc (by simp) _).alloc (by simp; omega) _⟩
  case round =>
    obtain ⟨i, hi, rfl, hb1, hb2, hbw⟩ := hrel
    by_cases hlt : i < 8
    · have hx := HXH.out i hlt
      have HST := Lib.hid (fun k (hk : k < 4) => tag_step s i k hlt hk)
      generalize s.list.getD i 0 = x at *
      have hci : (i : Int) < 8 := by omega
      go_wp2
      obtain ⟨wo, hwo⟩ : ∃ wo : World, wo = wr := ⟨_, rfl⟩
      rw [← hwo] at hb1 hb2 hbw ⊢
      clear hwo
      go_loopw [12] (fun p wr => ∃ k : Nat, k ≤ 4 ∧ p = .int .i64 (k : Int) ∧ Bk wr (w.heap.size + 1) 28 (zB 32) ∧ Bk wr (w.heap.size + 1 + 1) 28 (bPad 32 ((tagL s).take (4 * i + k))) ∧ Below w.heap.size w wr)
        (fun p _ => 4 - (intOf p).toNat)
      case atStart => exact ⟨0, by omega, rfl, hb1, hb2, hbw⟩
      case round =>
        clear hb1 hb2 hbw
        obtain ⟨k, hk, rfl, hb1, hb2, hbw⟩ := hrel
        by_cases hlk : k < 4
        · have hck : (k : Int) < 4 := by omega
          have hck3 : (k : Int) ≤ 3 := by omega
          have i0 : 0 ≤ 4 * (i : Int) + (k : Int) := by omega
          have i1 : 4 * (i : Int) + (k : Int) < 32 := by omega
          have i2 : (4 * (i : Int) + (k : Int)).toNat = 4 * i + k := by omega
          have i3 : 0 ≤ 3 - (k : Int) := by omega
          have i4 : 0 ≤ 8 * (3 - (k : Int)) := by omega
          have i5 : 8 * (3 - (k : Int)) ≤ 32 := by omega
          have i6 : (8 * (3 - (k : Int))).toNat = 8 * (3 - k) := by omega
          have cu := hb2.cell (4 * i + k)
          rw [List.getElem?_eq_getElem (by rw [bPad_len _ _ (by simp [tagL_len]; omega)]; omega)] at cu
          have fu := hb2.frozen (4 * i + k)
          have h1 := hb1.far (p := ⟨w.heap.size + 1 + 1, 4 * i + k, none⟩) (by simp) (Value.int .u8 (ui x / 2 ^ (8 * (3 - k)) % 256))
          have h2 := hb2.set_ (4 * i + k) (Value.int .u8 (ui x / 2 ^ (8 * (3 - k)) % 256))
          have h3 := hbw.setCell (p := ⟨w.heap.size + 1 + 1, 4 * i + k, none⟩) (by simp; omega) (Value.int .u8 (ui x / 2 ^ (8 * (3 - k)) % 256))
          have hl : ((tagL s).take (4 * i + k)).length = 4 * i + k := by rw [List.length_take, tagL_len]; omega
          have hset := bPad_set 32 ((tagL s).take (4 * i + k)) (UInt8.ofNat (x.toNat / 2 ^ (8 * (3 - k)))) (by omega)
          rw [hl, ← byteU, ← HST.out k hlk] at hset
          rw [hset] at h2
          have H1 := Lib.hid h1
          have H2 := Lib.hid h2
          have H3 := Lib.hid h3
          clear h1 h2 h3 hset hl
          go_wp2
          go_roundw
          case rel => exact ⟨k + 1, by omega, by go_num, H1.out, H2.out, H3.out⟩
          case measure => simp [intOf]; omega
        · obtain rfl : k = 4 := by omega
          clear hlk hk
          go_wp2
          go_roundw
          case rel => exact ⟨i + 1, by omega, by go_num, hb1, hb2, hbw⟩
          case measure => simp [intOf]; omega
    · obtain rfl : i = 8 := by omega
      clear hlt hi
      rw [show (tagL s).take (4 * 8) = tagL s from rfl, bPad_full _ _ (tagL_len s)] at hb2
      have hsz : (Tryd.prog.info? 28).map (·.size) = some ((tagL s).map bv).toArray.size := by
        rw [List.size_toArray, List.length_map, tagL_len]
        kernel_rfl
      go_wp2_with (first
        | (refine wpList_load_row (P := Tryd.prog) rfl 28 _ rfl (w.heap.size + 1 + 1) rfl _ _ _ _ hb2 Tryd.underlying28 rfl hsz ?_)
        | (refine wpList_store_row (P := Tryd.prog) rfl 28 _ _ rfl (w.heap.size + 1) _ rfl rfl _ _ hb1 hsz (by simp [zB, tagL_len]) (by simp [bv, Value.oneCell']) ?_))
      refine bodyPost_ret (v := .agg ((tagL s).map bv).toArray) (results_cell_row rfl _ _ (w.heap.size + 1) _ _ _ _ rfl (setRow_heap wr (w.heap.size + 1) _ _ _ _ hb1) Tryd.underlying28 rfl hsz) rfl ⟨rfl, below_setRow hbw (by omega) _⟩
end Go.Proofs.YtgkfebbifgkkeaaDoor
