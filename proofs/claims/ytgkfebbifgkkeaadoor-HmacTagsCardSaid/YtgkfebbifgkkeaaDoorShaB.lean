/- Layer 2 (sha): a block's words, by the code. -/
import Derived.Test.YtgkfebbifgkkeaaDoorShaA
import Derived.Deep.QuietTactic
import Derived.BigQuiet
import Derived.StillTailTactics
import Derived.Laws.CopyOwn
set_option linter.unusedVariables false
namespace Go.Proofs.YtgkfebbifgkkeaaDoor
open Go Go.RowKit
attribute [local go_sem] wXor wAnd wOr wAdd wAdd' wSr3 wSr10

def zU (n : Nat) : List Value := List.replicate n (.int .u32 0)

theorem Bk.newAt {w : World} {g : Nat} (t : TypeId) (cs : List Value) (h : w.heap.size = g) : Bk (w.alloc (.cells cs.toArray t)) g t cs := h ▸ Bk.new w t cs
/-- 64 words of which the first are l. -/
def wPad (l : List UInt32) : List Value := l.map uv ++ zU (64 - l.length)

theorem wPad_set (l : List UInt32) (x : UInt32) (h : l.length < 64) : (wPad l).set l.length (uv x) = wPad (l ++ [x]) := by
  unfold wPad zU
  obtain ⟨m, hm⟩ : ∃ m, 64 - l.length = m + 1 := ⟨64 - l.length - 1, by omega⟩
  have hm' : 64 - (l ++ [x]).length = m := by simp; omega
  rw [hm, hm', List.replicate_succ, List.set_append]
  simp [uv]
theorem wPad_full (l : List UInt32) (h : l.length = 64) : wPad l = l.map uv := by simp [wPad, zU, h]
theorem wPad_len (l : List UInt32) (h : l.length ≤ 64) : (wPad l).length = 64 := by simp [wPad, zU]; omega
theorem wPad_get (l : List UInt32) (i : Nat) (h : i < l.length) : (wPad l)[i]? = some (.int .u32 (ui (l.getD i 0))) := by
  unfold wPad
  rw [List.getElem?_append_left (by simpa using h)]
  simp [uv, List.getD, List.getElem?_eq_getElem h]
theorem word4Walk (a b c d : UInt8) : bits .or .u32 (bits .or .u32 (bits .or .u32 (IntKind.u32.wrap (IntKind.u32.wrap (a.toNat : Int) * 16777216)) (IntKind.u32.wrap (IntKind.u32.wrap (b.toNat : Int) * 65536))) (IntKind.u32.wrap (IntKind.u32.wrap (c.toNat : Int) * 256))) (IntKind.u32.wrap (d.toNat : Int)) = ui (word4 a b c d) := by
  unfold ui
  have ha := u8_lt a
  have hb := u8_lt b
  have hc := u8_lt c
  have hd := u8_lt d
  have e1 : IntKind.u32.wrap (IntKind.u32.wrap (a.toNat : Int) * 16777216) = ((a.toNat * 16777216 : Nat) : Int) := by simp only [IntKind.wrap_u32]; omega
  have e2 : IntKind.u32.wrap (IntKind.u32.wrap (b.toNat : Int) * 65536) = ((b.toNat * 65536 : Nat) : Int) := by simp only [IntKind.wrap_u32]; omega
  have e3 : IntKind.u32.wrap (IntKind.u32.wrap (c.toNat : Int) * 256) = ((c.toNat * 256 : Nat) : Int) := by simp only [IntKind.wrap_u32]; omega
  have e4 : IntKind.u32.wrap (d.toNat : Int) = ((d.toNat : Nat) : Int) := by simp only [IntKind.wrap_u32]; omega
  have j1 : a.toNat * 16777216 ||| b.toNat * 65536 = a.toNat * 16777216 + b.toNat * 65536 := by
    rw [nat_join 24 _ _ (by simp) (by show _ < 16777216; omega)]
  have j2 : (a.toNat * 16777216 + b.toNat * 65536) ||| c.toNat * 256 = a.toNat * 16777216 + b.toNat * 65536 + c.toNat * 256 := by
    rw [nat_join 16 _ _ (by show _ % 65536 = 0; omega) (by show _ < 65536; omega)]
  have j3 : (a.toNat * 16777216 + b.toNat * 65536 + c.toNat * 256) ||| d.toNat = a.toNat * 16777216 + b.toNat * 65536 + c.toNat * 256 + d.toNat := by
    rw [nat_join 8 _ _ (by show _ % 256 = 0; omega) (by show _ < 256; omega)]
  rw [e1, e2, e3, e4, u32_or_nat _ _ (by omega) (by omega), j1, u32_or_nat _ _ (by omega) (by omega), j2, u32_or_nat _ _ (by omega) (by omega), j3, word4_nat]

set_option maxRecDepth 100000 in
set_option maxHeartbeats 1000000 in
theorem spread_any (bs : List UInt8) (w : World) (hl : bs.length = 64) :
    Calls Tryd.prog 39 #[.agg (bs.map bv).toArray] w fun e w' => e = .returned (.agg ((spreadL bs).map uv).toArray) ∧ Below w.heap.size w w' := by
  have HL := Lib.hid hl
  clear hl
  go_enter Tryd.func39, Tryd.ntmps39
  go_wp2
  go_loopw [11] (fun i wr => ∃ k : Nat, k ≤ 16 ∧ i = .int .i64 k ∧ Bk wr w.heap.size 45 (bs.map bv) ∧ Bk wr (w.heap.size + 1) 86 (zU 64) ∧ Bk wr (w.heap.size + 1 + 1) 86 (wPad (ws16 bs k)) ∧ Below w.heap.size w wr)
    (fun i _ => 16 - (intOf i).toNat)
  case atStart => 
    exact ⟨0, by omega, rfl, ((Bk.new w _ (bs.map bv)).alloc _).alloc _, (Bk.newAt _ (zU 64) (by simp)).alloc _, Bk.newAt _ (zU 64) (by simp), (((Below.refl _ _).alloc (Nat.le_refl _) _).alloc (by simp) _).alloc (by simp; omega) _⟩
  case round =>
    obtain ⟨k, hk, rfl, hb0, hb1, hb2, hbw⟩ := hrel
    by_cases hlt : k < 16
    · obtain ⟨b0, h0⟩ : ∃ b, bs[4 * k]? = some b := ⟨_, List.getElem?_eq_getElem (by have := HL.out; omega)⟩
      obtain ⟨b1, h1⟩ : ∃ b, bs[4 * k + 1]? = some b := ⟨_, List.getElem?_eq_getElem (by have := HL.out; omega)⟩
      obtain ⟨b2, h2⟩ : ∃ b, bs[4 * k + 2]? = some b := ⟨_, List.getElem?_eq_getElem (by have := HL.out; omega)⟩
      obtain ⟨b3, h3⟩ : ∃ b, bs[4 * k + 3]? = some b := ⟨_, List.getElem?_eq_getElem (by have := HL.out; omega)⟩
      have c0 : wr.cell? ⟨w.heap.size, 4 * k, none⟩ = some (.int .u8 (b0.toNat : Int)) := by rw [hb0.cell]; simp [h0, bv]
      have c1 : wr.cell? ⟨w.heap.size, 4 * k + 1, none⟩ = some (.int .u8 (b1.toNat : Int)) := by rw [hb0.cell]; simp [h1, bv]
      have c2 : wr.cell? ⟨w.heap.size, 4 * k + 2, none⟩ = some (.int .u8 (b2.toNat : Int)) := by rw [hb0.cell]; simp [h2, bv]
      have c3 : wr.cell? ⟨w.heap.size, 4 * k + 3, none⟩ = some (.int .u8 (b3.toNat : Int)) := by rw [hb0.cell]; simp [h3, bv]
      have HW := Lib.hid (show wordAt bs k = word4 b0 b1 b2 b3 by simp [wordAt, List.getD, h0, h1, h2, h3])
      clear h0 h1 h2 h3
      have hx : ∃ u, wr.cell? ⟨w.heap.size + 1 + 1, k, none⟩ = some u := ⟨_, by rw [hb2.cell]; exact List.getElem?_eq_getElem (by rw [wPad_len _ (by rw [ws16_len]; omega)]; omega)⟩
      obtain ⟨u, cu⟩ := hx
      have cu' := Lib.hid cu
      have fu := hb2.frozen k
      have l0 := u8_lt b0
      have l1 := u8_lt b1
      have l2 := u8_lt b2
      have l3 := u8_lt b3
      have hlt' : (k : Int) < 16 := by omega
      have i0 : 0 ≤ 4 * (k : Int) := by omega
      have i1 : 4 * (k : Int) < 64 := by omega
      have i2 : 0 ≤ 4 * (k : Int) + 1 := by omega
      have i3 : 4 * (k : Int) + 1 < 64 := by omega
      have i4 : 0 ≤ 4 * (k : Int) + 2 := by omega
      have i5 : 4 * (k : Int) + 2 < 64 := by omega
      have i6 : 0 ≤ 4 * (k : Int) + 3 := by omega
      have i7 : 4 * (k : Int) + 3 < 64 := by omega
      have i8 : (k : Int) < 64 := by omega
      have j0 : (4 * (k : Int)).toNat = 4 * k := by omega
      have j1 : (4 * (k : Int) + 1).toNat = 4 * k + 1 := by omega
      have j2 : (4 * (k : Int) + 2).toNat = 4 * k + 2 := by omega
      have j3 : (4 * (k : Int) + 3).toNat = 4 * k + 3 := by omega
      have e1 : IntKind.i64.wrap (4 * (k : Int) + 1) = 4 * (k : Int) + 1 := IntWalk.i64_in _ (by omega)
      have e2 : IntKind.i64.wrap (4 * (k : Int) + 2) = 4 * (k : Int) + 2 := IntWalk.i64_in _ (by omega)
      have e3 : IntKind.i64.wrap (4 * (k : Int) + 3) = 4 * (k : Int) + 3 := IntWalk.i64_in _ (by omega)
      go_wp2
      go_still_tail 27, (by kernel_rfl)
      rw [word4Walk, ← HW.out]
      have hb2' := (hb2.drew).set_ k (uv (wordAt bs k))
      rw [show (wPad (ws16 bs k)).set k (uv (wordAt bs k)) = wPad (ws16 bs (k + 1)) from by have := wPad_set (ws16 bs k) (wordAt bs k) (by rw [ws16_len]; omega); rw [ws16_len] at this; exact this] at hb2'
      clear cu fu
      have cu : (wr.drew).cell? ⟨w.heap.size + 1 + 1, k, none⟩ = some u := by rw [hb2.drew.cell, ← hb2.cell]; exact cu'.out
      have fu := hb2.drew.frozen k
      have hb0' := hb0.drew.far (p := ⟨w.heap.size + 1 + 1, k, none⟩) (by simp; omega) (uv (wordAt bs k))
      have hb1' := hb1.drew.far (p := ⟨w.heap.size + 1 + 1, k, none⟩) (by simp) (uv (wordAt bs k))
      have hbw' := hbw.drew.setCell (p := ⟨w.heap.size + 1 + 1, k, none⟩) (by simp; omega) (uv (wordAt bs k))
      clear hb0 hb1 hb2 hbw
      unfold uv at hb0' hb1' hb2' hbw'
      show wpList _ _ _ _ _ wr.drew
      go_wp2
      go_roundw
      case rel => exact ⟨k + 1, by omega, by go_num, hb0', hb1', hb2', hbw'⟩
      case measure => simp [intOf]; omega
    · obtain rfl : k = 16 := by omega
      clear hlt hk
      rw [show ((16 : Nat) : Int) = 16 from rfl]
      go_wp2
      go_loopw [6] (fun i wr => ∃ n : Nat, 16 ≤ n ∧ n ≤ 64 ∧ i = .int .i64 (n : Int) ∧ Bk wr (w.heap.size + 1) 86 (zU 64) ∧ Bk wr (w.heap.size + 1 + 1) 86 (wPad (wsF bs (n - 16))) ∧ Below w.heap.size w wr)
        (fun i _ => 64 - (intOf i).toNat)
      case atStart => exact ⟨16, by omega, by omega, rfl, hb1, hb2, hbw⟩
      case round =>
        clear hb0 hb1 hb2 hbw
        obtain ⟨n, hn, hk, rfl, hb1, hb2, hbw⟩ := hrel
        by_cases hlt : n < 64
        · have hlen : (wsF bs (n - 16)).length = n := by rw [wsF_len]; omega
          have HN := Lib.hid (show wsF bs (n + 1 - 16) = wsF bs (n - 16) ++ [nextW (wsF bs (n - 16)) n] from by
            rw [show n + 1 - 16 = (n - 16) + 1 from by omega, wsF, show 16 + (n - 16) = n from by omega])
          generalize hgl : wsF bs (n - 16) = l at *
          clear hgl
          have c15 : wr.cell? ⟨w.heap.size + 1 + 1, n - 15, none⟩ = some (.int .u32 (ui (l.getD (n - 15) 0))) := by rw [hb2.cell]; exact wPad_get l _ (by omega)
          have c2 : wr.cell? ⟨w.heap.size + 1 + 1, n - 2, none⟩ = some (.int .u32 (ui (l.getD (n - 2) 0))) := by rw [hb2.cell]; exact wPad_get l _ (by omega)
          have c16 : wr.cell? ⟨w.heap.size + 1 + 1, n - 16, none⟩ = some (.int .u32 (ui (l.getD (n - 16) 0))) := by rw [hb2.cell]; exact wPad_get l _ (by omega)
          have c7 : wr.cell? ⟨w.heap.size + 1 + 1, n - 7, none⟩ = some (.int .u32 (ui (l.getD (n - 7) 0))) := by rw [hb2.cell]; exact wPad_get l _ (by omega)
          have HX := Lib.hid (show nextW l n = l.getD (n - 16) 0 + s0 (l.getD (n - 15) 0) + l.getD (n - 7) 0 + s1 (l.getD (n - 2) 0) from rfl)
          generalize l.getD (n - 15) 0 = x15 at *
          generalize l.getD (n - 2) 0 = x2 at *
          generalize l.getD (n - 16) 0 = x16 at *
          generalize l.getD (n - 7) 0 = x7 at *
          have HLen := Lib.hid hlen
          clear hlen
          have hi : (n : Int) < 64 := by omega
          have hj : 16 ≤ (n : Int) := by omega
          have i0 : 0 ≤ (n : Int) - 15 := by omega
          have i1 : (n : Int) - 15 < 64 := by omega
          have i2 : 0 ≤ (n : Int) - 2 := by omega
          have i3 : (n : Int) - 2 < 64 := by omega
          have i4 : 0 ≤ (n : Int) - 16 := by omega
          have i5 : (n : Int) - 16 < 64 := by omega
          have i6 : 0 ≤ (n : Int) - 7 := by omega
          have i7 : (n : Int) - 7 < 64 := by omega
          have i8 : 15 ≤ (n : Int) := by omega
          have i9 : 2 ≤ (n : Int) := by omega
          have i10 : 7 ≤ (n : Int) := by omega
          have j0 : ((n : Int) - 15).toNat = n - 15 := by omega
          have j1 : ((n : Int) - 2).toNat = n - 2 := by omega
          have j2 : ((n : Int) - 16).toNat = n - 16 := by omega
          have j3 : ((n : Int) - 7).toNat = n - 7 := by omega
          have e0 : IntKind.i64.wrap ((n : Int) - 15) = (n : Int) - 15 := IntWalk.i64_in _ (by omega)
          have e1 : IntKind.i64.wrap ((n : Int) - 2) = (n : Int) - 2 := IntWalk.i64_in _ (by omega)
          have e2 : IntKind.i64.wrap ((n : Int) - 16) = (n : Int) - 16 := IntWalk.i64_in _ (by omega)
          have e3 : IntKind.i64.wrap ((n : Int) - 7) = (n : Int) - 7 := IntWalk.i64_in _ (by omega)
          go_wp2
          go_quiet (fail)
          go_wp2_with (go_at_call 40; refine (rot_any _ _ _ (by decide) (by decide)).mono ?_; rintro e w' ⟨rfl, rfl⟩)
          have hb1q : Bk (wr.drewN nq) (w.heap.size + 1) 86 (zU 64) := hb1
          have hb2q : Bk (wr.drewN nq) (w.heap.size + 1 + 1) 86 (wPad l) := hb2
          have hbwq : Below w.heap.size w (wr.drewN nq) := ⟨hbw.os, hbw.tape, hbw.output, hbw.size, hbw.block⟩
          have c16q : (wr.drewN nq).cell? ⟨w.heap.size + 1 + 1, n - 16, none⟩ = some (.int .u32 (ui x16)) := c16
          have c7q : (wr.drewN nq).cell? ⟨w.heap.size + 1 + 1, n - 7, none⟩ = some (.int .u32 (ui x7)) := c7
          clear hb1 hb2 hbw c16 c7 c15 c2
          generalize wr.drewN nq = wq at *
          have cu : ∃ u, wq.cell? ⟨w.heap.size + 1 + 1, n, none⟩ = some u := ⟨_, by rw [hb2q.cell]; exact List.getElem?_eq_getElem (by rw [wPad_len _ (by rw [HLen.out]; omega)]; omega)⟩
          obtain ⟨u, cu⟩ := cu
          have fu := hb2q.frozen n
          have HB := Lib.hid (hb2q.drew.set_ n (uv (nextW l n)))
          have HB1 := Lib.hid (hb1q.drew.far (p := ⟨w.heap.size + 1 + 1, n, none⟩) (by simp) (uv (nextW l n)))
          have HBW := Lib.hid (hbwq.drew.setCell (p := ⟨w.heap.size + 1 + 1, n, none⟩) (by simp; omega) (uv (nextW l n)))
          clear hb1q hb2q hbwq
          go_still_tail 15, (by kernel_rfl)
          have fu' : wq.drew.frozen? ⟨w.heap.size + 1 + 1, n, none⟩ = false := fu
          have cu' : wq.drew.cell? ⟨w.heap.size + 1 + 1, n, none⟩ = some u := cu
          clear cu fu c16q c7q
          show wpList _ _ _ _ _ wq.drew
          go_wp2
          go_roundw
          case rel =>
            rw [show x16 + (rr x15 7 ^^^ rr x15 18 ^^^ sr x15 3) + x7 + (rr x2 17 ^^^ rr x2 19 ^^^ sr x2 10) = nextW l n from HX.out.symm]
            refine ⟨n + 1, by omega, by omega, by go_num, HB1.out, ?_, HBW.out⟩
            rw [HN.out]
            have h1 := HB.out
            have h2 := wPad_set l (nextW l n) (by rw [HLen.out]; omega)
            rw [HLen.out] at h2
            rw [h2] at h1
            exact h1
          case measure => simp [intOf]; omega
        · obtain rfl : n = 64 := by omega
          clear hlt hk hn
          rw [show 64 - 16 = 48 from rfl, wPad_full _ (wsF_len bs 48)] at hb2
          have hsz : (Tryd.prog.info? 86).map (·.size) = some ((wsF bs 48).map uv).toArray.size := by
            rw [List.size_toArray, List.length_map, wsF_len]
            kernel_rfl
          go_wp2_with (first
            | (refine wpList_load_row (P := Tryd.prog) rfl 86 _ rfl (w.heap.size + 1 + 1) rfl _ _ _ _ hb2 Tryd.underlying86 rfl hsz ?_)
            | (refine wpList_store_row (P := Tryd.prog) rfl 86 _ _ rfl (w.heap.size + 1) _ rfl rfl _ _ hb1 hsz (by simp [zU, wsF_len]) (by simp [uv, Value.oneCell']) ?_))
          refine bodyPost_ret (v := .agg ((spreadL bs).map uv).toArray) (results_cell_row rfl _ _ (w.heap.size + 1) _ _ _ _ rfl (setRow_heap wr (w.heap.size + 1) _ _ _ _ hb1) Tryd.underlying86 rfl hsz) rfl ⟨rfl, below_setRow hbw (by omega) _⟩
end Go.Proofs.YtgkfebbifgkkeaaDoor
