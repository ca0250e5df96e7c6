/- Layer 2 (sha): New, Fork, pad. -/
import Derived.Test.YtgkfebbifgkkeaaDoorShaF
set_option linter.unusedVariables false
namespace Go.Proofs.YtgkfebbifgkkeaaDoor
open Go Go.RowKit

def zero64 : List UInt8 := List.replicate 64 0
theorem st_new {w : World} {g : Nat} (h : Bk w g 73 (stCells firstW zero64 0)) : St w g [] := ⟨zero64, rfl, rfl, h⟩

theorem wpList_built {P : Program} {ops : Array Oper} {rest : List Oper} {o : Oper} {a : Act} {w : World} {Q : Exit → Act → World → Prop} (hg : o.guard = none) (t : TypeId) (parts : Array (Nat × Operand)) (ho : o.op = .build t parts)
    (cs : Array Value) (hc : P.built t (parts.map fun (i, x) => (i, a.eval x)).toList = some cs)
    (h : wpList P ops Q rest (a.put o.dst (.agg cs)) w) : wpList P ops Q (o :: rest) a w := by
  refine wpList_build hg t parts ho (by rw [hc]; rfl) ?_
  rw [hc]
  exact h
def zeroW : W8 := ⟨0, 0, 0, 0, 0, 0, 0, 0⟩
theorem zero52 (w : World) : (zeroValue 73).run Tryd.prog w = .ok (.agg (stCells zeroW zero64 0).toArray) w := by kernel_rfl

set_option maxRecDepth 100000 in
set_option maxHeartbeats 1000000 in
theorem new_any (w : World) (ht : Tab w) :
    Calls Tryd.prog 27 #[] w fun e w' => e = .returned (.pointer (some ⟨w.heap.size, 0, none⟩)) ∧ St w' w.heap.size [] ∧ Below w.heap.size w w' ∧ w'.heap.size = w.heap.size + 1 := by
  have hw3 : w.rangeAt 0 0 [uv firstW.a, uv firstW.b, uv firstW.c, uv firstW.d, uv firstW.e, uv firstW.f, uv firstW.g, uv firstW.h] := ht.1
  clear ht
  go_enter Tryd.func27, Tryd.ntmps27
  go_wp2_with (first
    | (refine wpList_load_mid rfl 71 _ rfl 0 0 rfl _ _ hw3 Tryd.underlying71 rfl (by kernel_rfl) ?_)
    | (refine wpList_built rfl 73 _ rfl (stCells firstW zero64 0).toArray (by kernel_rfl) ?_))
  go_ret
  exact ⟨rfl, st_new (Bk.new w _ _), (Below.refl _ _).alloc (Nat.le_refl _) _, by simp⟩

set_option maxRecDepth 100000 in
set_option maxHeartbeats 1000000 in
theorem fork_any (g : Nat) (bs : List UInt8) (w : World) (hst : St w g bs) :
    Calls Tryd.prog 32 #[.pointer (some ⟨g, 0, none⟩)] w fun e w' => e = .returned (.pointer (some ⟨w.heap.size, 0, none⟩)) ∧ St w' w.heap.size bs ∧ Below w.heap.size w w' ∧ w'.heap.size = w.heap.size + 1 := by
  obtain ⟨rest, hrl, htk, hbk⟩ := hst
  have HRL := Lib.hid hrl
  have HTK := Lib.hid htk
  have hsz : (Tryd.prog.info? 73).map (·.size) = some (stCells (runB (bs.length / 64) firstW bs) rest bs.length).toArray.size := by
    rw [List.size_toArray, st_len _ _ _ hrl]
    kernel_rfl
  have hz := zero52
  have h73z : (stCells zeroW zero64 0).length = 73 := rfl
  have h73 := Lib.hid (st_len (runB (bs.length / 64) firstW bs) rest bs.length hrl)
  clear hrl htk
  go_enter Tryd.func32, Tryd.ntmps32
  go_wp2_with (first
    | (refine wpList_load_row (P := Tryd.prog) rfl 73 _ rfl g rfl _ _ _ _ hbk Tryd.underlying73 rfl hsz ?_)
    | (refine wpList_store_row (P := Tryd.prog) rfl 73 _ _ rfl w.heap.size _ rfl rfl _ _ (heap_alloc_new w _) hsz (h73z.trans h73.out.symm) (by simp [stCells, W8.list, uv, bv, Value.oneCell']) ?_))
  have hn := (Bk.new w 73 (stCells zeroW zero64 0)).setRow_same (stCells (runB (bs.length / 64) firstW bs) rest bs.length)
  go_ret
  exact ⟨rfl, ⟨rest, HRL.out, HTK.out, hn⟩, below_setRow ((Below.refl _ _).alloc (Nat.le_refl _) _) (Nat.le_refl _) _, by simp⟩
theorem fork_nil (w : World) :
    Calls Tryd.prog 32 #[.pointer none] w fun e w' => e = .returned (.pointer none) ∧ w = w' := by
  go_enter Tryd.func32, Tryd.ntmps32
  go_wp2
  go_ret
  exact ⟨rfl, rfl⟩

/-! ### pad -/
theorem noughts_lt (n : Nat) : noughts n < 64 := Nat.mod_lt _ (by decide)
theorem tail_start (n : Nat) : (tailP n).take (1 + noughts n) = 128 :: List.replicate (noughts n) 0 := by
  unfold tailP
  rw [List.take_append_of_le_length (by simp; omega), List.take_of_length_le (by simp; omega)]
theorem be8_get (n k : Nat) (hk : k < 8) : (be8 n)[k]? = some (UInt8.ofNat (n / 2 ^ (8 * (7 - k)))) := by
  have ck : k = 0 ∨ k = 1 ∨ k = 2 ∨ k = 3 ∨ k = 4 ∨ k = 5 ∨ k = 6 ∨ k = 7 := by omega
  rcases ck with rfl | rfl | rfl | rfl | rfl | rfl | rfl | rfl <;> (first | rfl | simp [be8])
theorem tail_step (n k : Nat) (hk : k < 8) : (tailP n).take (1 + noughts n + (k + 1)) = (tailP n).take (1 + noughts n + k) ++ [UInt8.ofNat (8 * n / 2 ^ (8 * (7 - k)))] := by
  have hg : (tailP n)[1 + noughts n + k]? = some (UInt8.ofNat (8 * n / 2 ^ (8 * (7 - k)))) := by
    unfold tailP
    rw [List.getElem?_append_right (by simp; omega)]
    simp only [List.length_cons, List.length_replicate]
    rw [show 1 + noughts n + k - (noughts n + 1) = k from by omega]
    exact be8_get _ _ hk
  rw [show 1 + noughts n + (k + 1) = (1 + noughts n + k) + 1 from by omega, List.take_add_one, hg]
  rfl
theorem tail_all (n : Nat) : (tailP n).take (1 + noughts n + 8) = tailP n := List.take_of_length_le (by rw [tailP_len]; omega)
theorem byteN (n k : Nat) : Value.int .u8 ((n : Int) / 2 ^ k % 256) = bv (UInt8.ofNat (n / 2 ^ k)) := by
  unfold bv
  congr 1

theorem zero59 (w : World) : (zeroValue 89).run Tryd.prog w = .ok (.agg (zB 72).toArray) w := by kernel_rfl
theorem zB_start (k : Nat) (hk : k < 64) : (zB 72).set 0 (.int .u8 128) = bPad 72 (128 :: List.replicate k 0) := by
  unfold zB bPad zB
  rw [show 72 = 71 + 1 from rfl, List.replicate_succ, List.set_cons_zero]
  simp only [List.map_cons, List.length_cons, List.length_replicate, List.map_replicate, List.cons_append]
  rw [show bv 0 = .int .u8 0 from rfl, List.replicate_append_replicate, show k + (71 + 1 - (k + 1)) = 71 from by omega]
  rfl

set_option maxRecDepth 100000 in
set_option maxHeartbeats 1000000 in
theorem pad_any (g : Nat) (bs : List UInt8) (w : World) (hst : St w g bs) (hbd : bs.length ≤ 1125899906842624) (ht : Tab w) (hg0 : 0 ≠ g) (hg1 : 1 ≠ g) :
    Calls Tryd.prog 37 #[.pointer (some ⟨g, 0, none⟩)] w fun e w' => (∃ v, e = .returned v) ∧ St w' g (bs ++ tailP bs.length) ∧ w.grownBy w' (some g) := by
  have HS := Lib.hid hst
  have HT := Lib.hid ht
  have HG := Lib.hid (And.intro hg0 hg1)
  obtain ⟨rest, hrl, htk, hbk⟩ := hst
  have hgl := hbk.lt
  have cc := hbk.cell 72
  rw [st_cnt _ _ _ hrl] at cc
  clear hrl htk hbk ht hg0 hg1
  obtain ⟨n, hn⟩ : ∃ n, n = bs.length := ⟨_, rfl⟩
  rw [← hn] at cc hbd ⊢
  have HNB := Lib.hid hn
  clear hn
  have hk0 := noughts_lt n
  have em : (IntKind.u64.wrap (55 - (n : Int))).tmod 64 = (noughts n : Int) := by
    rw [IntKind.wrap_u64, Int.tmod_eq_emod_of_nonneg (by omega)]
    unfold noughts
    omega
  have HST := Lib.hid (fun k (hk : k < 8) => tail_step n k hk)
  have HSB := Lib.hid (tail_start n)
  have HAL := Lib.hid (tail_all n)
  have HLN := Lib.hid (tailP_len n)
  generalize noughts n = k0 at *
  have hk1 : (k0 : Int) < 64 := by omega
  have hn0 : (0 : Int) ≤ (n : Int) := by omega
  have hn1 : (n : Int) ≤ 1125899906842624 := by omega
  have hz59 := zero59
  have q0 := Bk.new w 89 (zB 72)
  have cz := q0.cell 0
  rw [show (zB 72)[0]? = some (.int .u8 0) from rfl] at cz
  have fz := q0.frozen 0
  go_enter Tryd.func37, Tryd.ntmps37
  go_wp2
  have hb0 : Bk (w.alloc (.cells ((zB 72).set 0 (.int .u8 128)).toArray 89)) w.heap.size 89 (bPad 72 ((tailP n).take (1 + k0 + 0))) := by
    rw [Nat.add_zero, HSB.out, ← zB_start k0 hk0]
    exact Bk.new w _ _
  have hbw0 := (Below.refl w.heap.size w).alloc (Nat.le_refl _) (.cells ((zB 72).set 0 (.int .u8 128)).toArray 89)
  clear cz fz hz59 q0 em cc
  go_loopw [19] (fun p wr => ∃ k : Nat, k ≤ 8 ∧ p = .int .u64 (k : Int) ∧ Bk wr w.heap.size 89 (bPad 72 ((tailP n).take (1 + k0 + k))) ∧ Below w.heap.size w wr)
    (fun p _ => 8 - (intOf p).toNat)
  case atStart => exact ⟨0, by omega, rfl, hb0, hbw0⟩
  case round =>
    clear hb0 hbw0
    obtain ⟨k, hk, rfl, hb, hbw⟩ := hrel
    have hlt0 : ((tailP n).take (1 + k0 + k)).length = 1 + k0 + k := by rw [List.length_take, HLN.out]; omega
    have HLT := Lib.hid hlt0
    clear hlt0
    by_cases hlt : k < 8
    · have hck : (k : Int) < 8 := by omega
      have hck7 : (k : Int) ≤ 7 := by omega
      have i0 : 0 ≤ 1 + (k0 : Int) + (k : Int) := by omega
      have i1 : 1 + (k0 : Int) + (k : Int) < 72 := by omega
      have i2 : (1 + (k0 : Int) + (k : Int)).toNat = 1 + k0 + k := by omega
      have i3 : 0 ≤ 7 - (k : Int) := by omega
      have i4 : 0 ≤ 8 * (7 - (k : Int)) := by omega
      have i5 : 8 * (7 - (k : Int)) ≤ 64 := by omega
      have i6 : (8 * (7 - (k : Int))).toNat = 8 * (7 - k) := by omega
      have cu := hb.cell (1 + k0 + k)
      rw [List.getElem?_eq_getElem (by rw [bPad_len _ _ (by have := HLT.out; omega)]; omega)] at cu
      have fu := hb.frozen (1 + k0 + k)
      have h2 := hb.set_ (1 + k0 + k) (Value.int .u8 (((8 * n : Nat) : Int) / 2 ^ (8 * (7 - k)) % 256))
      have hset := bPad_set 72 ((tailP n).take (1 + k0 + k)) (UInt8.ofNat (8 * n / 2 ^ (8 * (7 - k)))) (by have := HLT.out; omega)
      rw [HLT.out, ← byteN, ← HST.out k hlt] at hset
      rw [hset] at h2
      have h3 := hbw.setCell (p := ⟨w.heap.size, 1 + k0 + k, none⟩) (Nat.le_refl _) (Value.int .u8 (((8 * n : Nat) : Int) / 2 ^ (8 * (7 - k)) % 256))
      rw [Int.natCast_mul] at h2 h3
      have H2 := Lib.hid h2
      have H3 := Lib.hid h3
      clear h2 h3 hset
      go_wp2
      go_roundw
      case rel => exact ⟨k + 1, by omega, by go_num, H2.out, H3.out⟩
      case measure => simp [intOf]; omega
    · obtain rfl : k = 8 := by omega
      clear hlt hk HLT
      rw [HAL.out] at hb
      have hgw : w.grownBy wr (some g) := ⟨hbw.os, hbw.tape, hbw.output, hbw.size, fun j hj _ => hbw.block j hj⟩
      have hst : St wr g bs := by
        obtain ⟨rest, hrl, htk, hbk⟩ := HS.out
        exact ⟨rest, hrl, htk, hbk.later hbw⟩
      have hr : Rdg wr g (some ⟨w.heap.size, 0, none⟩) (k0 + 9) (tailP n) := ⟨HLN.out, fun _ => ⟨_, _, rfl, by omega, hb.lt, fun j u hu => by
        rw [Nat.zero_add, hb.cell]
        unfold bPad
        rw [List.getElem?_append_left (by have := (List.getElem?_eq_some_iff.1 hu).1; simpa using this), List.getElem?_map, hu]
        rfl⟩⟩
      have HSTT := Lib.hid hst
      have HRR := Lib.hid hr
      clear hst hr hb
      have i0 : 0 ≤ 1 + (k0 : Int) + 8 := by omega
      have i1 : 1 + (k0 : Int) + 8 ≤ 72 := by omega
      have i2 : (1 + (k0 : Int) + 8).toNat = k0 + 9 := by omega
      go_wp2_with fail
      refine (write_any g bs _ (k0 + 9) 72 (tailP n) _ HSTT.out HRR.out (by omega) (by have := HNB.out; omega) (HT.out.below hbw) HG.out.1 HG.out.2).mono ?_
      rintro e W2 ⟨rfl, hst2, hgr2⟩
      go_wp2
      go_end0
      exact ⟨⟨_, rfl⟩, hst2, hgw.trans hgr2⟩
end Go.Proofs.YtgkfebbifgkkeaaDoor
