/- Layer 2 (sha), the reference: a block's words. -/
import Derived.Test.YtgkfebbifgkkeaaDoorShaT
import Derived.Test.YtgkfebbifgkkeaaDoorOw
import Derived.Test.YtgkfebbifgkkeaaDoorTail
set_option linter.unusedVariables false
set_option linter.unusedSimpArgs false
namespace Go.Proofs.YtgkfebbifgkkeaaDoor
open Go Go.RowKit
attribute [local go_sem] wXor wAnd wOr wAdd wAdd' wSr3 wSr10 wNot wNot'

def Ow32 (w : World) (base : Nat) (A : Option Addr) (c n : Nat) (l : List UInt32) : Prop := w.ownsRow base 53 1 (.slice A n c) n (l.map uv)
theorem Ow32.len {w : World} {base c n : Nat} {A : Option Addr} {l : List UInt32} (h : Ow32 w base A c n l) : l.length = n := by simpa using h.1
theorem Ow32.rd {w : World} {base c n : Nat} {A : Option Addr} {l : List UInt32} (h : Ow32 w base A c n l) : Rd w w.heap.size 1 A n (l.map uv) := Rd.ofOwn h
theorem app32 {ops : Array Oper} {rest : List Oper} {o : Oper} {a : Act} {Q : Exit → Act → World → Prop} (w : World) (hgd : o.guard = none) (p x : Operand)
    (ho : o.op = .call { callee := .builtin .append, args := #[p, x], argTypes := #[67, 67] })
    (base : Nat) (A0 : Option Addr) (c0 n : Nat) (l : List UInt32) (hv : a.eval p = .slice A0 n c0) (hown : Ow32 w base A0 c0 n l)
    (H : Nat) (y : UInt32) (hx : a.eval x = .slice (some ⟨H, 0, none⟩) 1 1) (hH : w.heap.size = H) (hb : n ≤ 1048576) (hbase : base ≤ w.heap.size)
    (h : ∀ A' c' w', Ow32 w' base A' c' (n + 1) (l ++ [y]) → Below base w w' → wpList Tryd.prog ops Q rest (a.put o.dst (.slice A' (n + 1) c')) w') : wpList Tryd.prog ops Q (o :: rest) a (w.alloc (.cells #[uv y] 53)) := by
  obtain ⟨i0, hi, hz0, hz1, hz2⟩ := info_parts u32info
  refine wpList_app _ hgd p x 67 ho base 53 i0 _ 1 4 Tryd.underlying67 hi hz0 hz1 hz2 rfl (by decide) _ n _ hv (World.ownsRow.alloc hown _) (H + 1) (some ⟨H, 0, none⟩) 1 1 [uv y] hx
    ⟨rfl, fun _ => ⟨H, 0, rfl, by omega, fun j u hu => by
      subst hH
      rw [Nat.zero_add, cell_of_row _ _ j #[uv y] 53 (0, 0) (heap_alloc_new w _)]
      simpa using hu⟩⟩ (uv_one [y]) (by simp only [maxLen]; omega) (by omega) (by simp; omega) ?_
  intro A' c' w' h1 h2 _
  refine h A' c' w' (by unfold Ow32; rw [List.map_append]; exact h1) ?_
  exact belowApp ((Below.refl _ _).alloc hbase _) (World.ownsRow.alloc hown _) h2 (by simp; omega)

theorem rRotQ (x : UInt32) (k : Int) (w : World) (h0 : 0 < k) (h1 : k < 32) :
    Calls Tryd.prog 35 #[.int .u32 (ui x), .int .u64 k] w fun e w' => e = .returned (.int .u32 (ui (rr x k.toNat))) ∧ w' = w :=
  (rRot_any x k w h0 h1).mono fun _ _ ⟨he, hw⟩ => ⟨he, hw.symm⟩

set_option maxRecDepth 100000 in
set_option maxHeartbeats 1000000 in
theorem rWords_any (A : Option Addr) (c : Nat) (bs : List UInt8) (w : World) (hr : Rd w w.heap.size 1 A 64 (bs.map bv)) :
    Calls Tryd.prog 33 #[.slice A 64 c] w fun e w' => ∃ A' c', e = .returned (.slice A' 64 c') ∧ Ow32 w' w.heap.size A' c' 64 (spreadL bs) ∧ Below w.heap.size w w' := by
  have HL := Lib.hid (show bs.length = 64 by simpa using hr.len1)
  obtain ⟨b, o, rfl, hb, hcell⟩ := hr.2 (by omega)
  have HC := Lib.hid (fun j (x : UInt8) (hx : bs[j]? = some x) => (hcell j (bv x) (by simp [hx])))
  clear hr hcell
  go_enter Tryd.func33, Tryd.ntmps33
  go_wp2
  go_loopw [3, 4] (fun q p wr => ∃ (k : Nat) (Aw : Option Addr) (cw : Nat), k ≤ 16 ∧ p = .int .i64 (k : Int) ∧ q = .slice Aw k cw ∧ Ow32 wr w.heap.size Aw cw k (ws16 bs k) ∧ Below w.heap.size w wr)
    (fun _ p _ => 16 - (intOf p).toNat)
  case atStart => exact ⟨0, none, 0, by omega, rfl, rfl, World.ownsRow_nil _ _ _ _, Below.refl _ _⟩
  case round =>
    obtain ⟨k, Aw, cw, hk, rfl, rfl, ho, hbw⟩ := hrel
    by_cases hlt : k < 16
    · obtain ⟨b0, h0⟩ : ∃ b, bs[4 * k]? = some b := ⟨_, List.getElem?_eq_getElem (by have := HL.out; omega)⟩
      obtain ⟨b1, h1⟩ : ∃ b, bs[4 * k + 1]? = some b := ⟨_, List.getElem?_eq_getElem (by have := HL.out; omega)⟩
      obtain ⟨b2, h2⟩ : ∃ b, bs[4 * k + 2]? = some b := ⟨_, List.getElem?_eq_getElem (by have := HL.out; omega)⟩
      obtain ⟨b3, h3⟩ : ∃ b, bs[4 * k + 3]? = some b := ⟨_, List.getElem?_eq_getElem (by have := HL.out; omega)⟩
      have c0 : wr.cell? ⟨b, o + 4 * k, none⟩ = some (.int .u8 (b0.toNat : Int)) := by rw [hbw.cell hb]; exact HC.out _ _ h0
      have c1 : wr.cell? ⟨b, o + (4 * k + 1), none⟩ = some (.int .u8 (b1.toNat : Int)) := by rw [hbw.cell hb]; exact HC.out _ _ h1
      have c2 : wr.cell? ⟨b, o + (4 * k + 2), none⟩ = some (.int .u8 (b2.toNat : Int)) := by rw [hbw.cell hb]; exact HC.out _ _ h2
      have c3 : wr.cell? ⟨b, o + (4 * k + 3), none⟩ = some (.int .u8 (b3.toNat : Int)) := by rw [hbw.cell hb]; exact HC.out _ _ h3
      have HW := Lib.hid (show wordAt bs k = word4 b0 b1 b2 b3 by simp [wordAt, List.getD, h0, h1, h2, h3])
      clear h0 h1 h2 h3
      have l0 := u8_lt b0
      have l1 := u8_lt b1
      have l2 := u8_lt b2
      have l3 := u8_lt b3
      have hlt' : (k : Int) < 16 := by omega
      have i0 : 0 ≤ 4 * (k : Int) := by omega
      have i1 : 4 * (k : Int) < 64 := by omega
      have i2 : 0 ≤ 4 * (k : Int) + 1 := by omega
      have i3 : 4 * (k : Int) + 1 < 64 := by omega
      have i4 : 0 ≤ 4 * (k : Int) + 2 := by omega
      have i5 : 4 * (k : Int) + 2 < 64 := by omega
      have i6 : 0 ≤ 4 * (k : Int) + 3 := by omega
      have i7 : 4 * (k : Int) + 3 < 64 := by omega
      have j0 : (4 * (k : Int)).toNat = 4 * k := by omega
      have j1 : (4 * (k : Int) + 1).toNat = 4 * k + 1 := by omega
      have j2 : (4 * (k : Int) + 2).toNat = 4 * k + 2 := by omega
      have j3 : (4 * (k : Int) + 3).toNat = 4 * k + 3 := by omega
      have e0 : IntKind.i64.wrap (4 * (k : Int)) = 4 * (k : Int) := IntWalk.i64_in _ (by omega)
      have e1 : IntKind.i64.wrap (4 * (k : Int) + 1) = 4 * (k : Int) + 1 := IntWalk.i64_in _ (by omega)
      have e2 : IntKind.i64.wrap (4 * (k : Int) + 2) = 4 * (k : Int) + 2 := IntWalk.i64_in _ (by omega)
      have e3 : IntKind.i64.wrap (4 * (k : Int) + 3) = 4 * (k : Int) + 3 := IntWalk.i64_in _ (by omega)
      go_wp2
      refine wp_region_any (by kernel_rfl) ?_
      try (change wpAny _ _ _ _ _ _ _ (World.drew _))
      refine wpAny_take (i := 0) (oi := ?oia1) (v := ?va1) ?hoa1 (by kernel_rfl) ?hfa1 ?hra1 ?hQa1 ?hya1 ?resta1
      case hoa1 => (simp only [List.getElem?_toArray, List.getElem?_cons_succ, List.getElem?_cons_zero]; exact rfl)
      case hfa1 => kernel_rfl
      case hra1 => kernel_rfl
      case hQa1 => exact fun _ _ _ h => h
      case hya1 =>
        refine Or.inl ⟨by rfl, ?_⟩
        intro w
        go_simp
        (try with_reducible rfl)
      try simp only [Act.put, List.setIfInBounds_toArray, List.set_cons_zero, List.set_cons_succ]
      refine wpAny_tail' 34 1 (by kernel_rfl) (by kernel_rfl) ?_
      simp only [List.take_succ_cons, List.take_zero, List.drop_succ_cons, List.drop_zero]
      repeat still_step
      try refine wpStill_nil ?_
      rw [word4Walk, ← HW.out]
      have hod : Ow32 wr.drew w.heap.size Aw cw k (ws16 bs k) := ho
      have hbd := hbw.drew
      clear ho hbw c0 c1 c2 c3
      generalize wr.drew = W1 at *
      go_wp2_with (at_builtin; refine app32 W1 rfl (.tmp 12) (.tmp 46) rfl w.heap.size Aw cw k _ rfl hod W1.heap.size (wordAt bs k) rfl rfl (by omega) hbd.size ?_; intro A4 c4 w4 ho4 hb4)
      go_roundw
      case rel => exact ⟨k + 1, A4, c4, by omega, by go_num, rfl, ho4, hbd.trans hb4⟩
      case measure => simp [intOf]; omega
    · obtain rfl : k = 16 := by omega
      clear hlt hk
      rw [show ((16 : Nat) : Int) = 16 from rfl]
      go_wp2
      go_loopw [3, 5] (fun q p wr => ∃ (n : Nat) (Aw : Option Addr) (cw : Nat), 16 ≤ n ∧ n ≤ 64 ∧ p = .int .i64 (n : Int) ∧ q = .slice Aw n cw ∧ Ow32 wr w.heap.size Aw cw n (wsF bs (n - 16)) ∧ Below w.heap.size w wr)
        (fun _ p _ => 64 - (intOf p).toNat)
      case atStart => exact ⟨16, Aw, cw, by omega, by omega, rfl, rfl, ho, hbw⟩
      case round =>
        clear ho hbw
        obtain ⟨n, Aw, cw, hn, hk, rfl, rfl, ho, hbw⟩ := hrel
        by_cases hlt : n < 64
        · have hlen := ho.len
          have HN := Lib.hid (show wsF bs (n + 1 - 16) = wsF bs (n - 16) ++ [nextW (wsF bs (n - 16)) n] from by
            rw [show n + 1 - 16 = (n - 16) + 1 from by omega, wsF, show 16 + (n - 16) = n from by omega])
          generalize hgl : wsF bs (n - 16) = l at *
          clear hgl
          obtain ⟨b', o', hA, hb', hcl⟩ := ho.rd.2 (by omega)
          subst hA
          have hgt : ∀ j, j < n → wr.cell? ⟨b', o' + j, none⟩ = some (.int .u32 (ui (l.getD j 0))) := fun j hj => hcl j (uv (l.getD j 0)) (by
            rw [List.getElem?_map, List.getD, List.getElem?_eq_getElem (by omega)]
            rfl)
          have c15 := hgt (n - 15) (by omega)
          have c2 := hgt (n - 2) (by omega)
          have c16 := hgt (n - 16) (by omega)
          have c7 := hgt (n - 7) (by omega)
          have HX := Lib.hid (show nextW l n = l.getD (n - 16) 0 + s0 (l.getD (n - 15) 0) + l.getD (n - 7) 0 + s1 (l.getD (n - 2) 0) from rfl)
          generalize l.getD (n - 15) 0 = x15 at *
          generalize l.getD (n - 2) 0 = x2 at *
          generalize l.getD (n - 16) 0 = x16 at *
          generalize l.getD (n - 7) 0 = x7 at *
          have HLen := Lib.hid hlen
          clear hlen hcl hgt
          have hi : (n : Int) < 64 := by omega
          have hj : 16 ≤ (n : Int) := by omega
          have i0 : 0 ≤ (n : Int) - 15 := by omega
          have i1 : (n : Int) - 15 < 64 := by omega
          have i2 : 0 ≤ (n : Int) - 2 := by omega
          have i3 : (n : Int) - 2 < 64 := by omega
          have i4 : 0 ≤ (n : Int) - 16 := by omega
          have i5 : (n : Int) - 16 < 64 := by omega
          have i6 : 0 ≤ (n : Int) - 7 := by omega
          have i7 : (n : Int) - 7 < 64 := by omega
          have i8 : 15 ≤ (n : Int) := by omega
          have i9 : 2 ≤ (n : Int) := by omega
          have i10 : 7 ≤ (n : Int) := by omega
          have k0 : (n : Int) - 15 < (n : Int) := by omega
          have k1 : (n : Int) - 2 < (n : Int) := by omega
          have k2 : (n : Int) - 16 < (n : Int) := by omega
          have k3 : (n : Int) - 7 < (n : Int) := by omega
          have j0 : ((n : Int) - 15).toNat = n - 15 := by omega
          have j1 : ((n : Int) - 2).toNat = n - 2 := by omega
          have j2 : ((n : Int) - 16).toNat = n - 16 := by omega
          have j3 : ((n : Int) - 7).toNat = n - 7 := by omega
          have e0 : IntKind.i64.wrap ((n : Int) - 15) = (n : Int) - 15 := IntWalk.i64_in _ (by omega)
          have e1 : IntKind.i64.wrap ((n : Int) - 2) = (n : Int) - 2 := IntWalk.i64_in _ (by omega)
          have e2 : IntKind.i64.wrap ((n : Int) - 16) = (n : Int) - 16 := IntWalk.i64_in _ (by omega)
          have e3 : IntKind.i64.wrap ((n : Int) - 7) = (n : Int) - 7 := IntWalk.i64_in _ (by omega)
          go_wp2
          refine wp_region_any (by kernel_rfl) ?_
          try (change wpAny _ _ _ _ _ _ _ (World.drew _))
          refine wpAny_take (i := 0) (oi := ?oia51) (v := ?va51) ?hoa51 (by kernel_rfl) ?hfa51 ?hra51 ?hQa51 ?hya51 ?resta51
          case hoa51 => (simp only [List.getElem?_toArray, List.getElem?_cons_succ, List.getElem?_cons_zero]; exact rfl)
          case hfa51 => kernel_rfl
          case hra51 => kernel_rfl
          case hQa51 => exact fun _ _ _ h => h
          case hya51 =>
            refine Or.inl ⟨by rfl, ?_⟩
            intro w
            go_simp
            (try with_reducible rfl)
          try simp only [Act.put, List.setIfInBounds_toArray, List.set_cons_zero, List.set_cons_succ]
          refine wpAny_tail' 30 1 (by kernel_rfl) (by kernel_rfl) ?_
          simp only [List.take_succ_cons, List.take_zero, List.drop_succ_cons, List.drop_zero]
          repeat (first | still_step | still_call (rRotQ _ _ _ (by decide) (by decide)))
          try refine wpStill_nil ?_
          have hod : Ow32 wr.drew w.heap.size (some ⟨b', o', none⟩) cw n l := ho
          have hbd := hbw.drew
          clear ho hbw c15 c2 c16 c7
          generalize wr.drew = W1 at *
          go_wp2_with (at_builtin; refine app32 W1 rfl (.tmp 62) (.tmp 92) rfl w.heap.size (some ⟨b', o', none⟩) cw n _ rfl hod W1.heap.size _ rfl rfl (by omega) hbd.size ?_; intro A4 c4 w4 ho4 hb4)
          rw [show x16 + (rr x15 7 ^^^ rr x15 18 ^^^ sr x15 3) + x7 + (rr x2 17 ^^^ rr x2 19 ^^^ sr x2 10) = nextW l n from HX.out.symm] at ho4
          rw [← HN.out] at ho4
          go_roundw
          case rel => exact ⟨n + 1, A4, c4, by omega, by omega, by go_num, rfl, ho4, hbd.trans hb4⟩
          case measure => simp [intOf]; omega
        · obtain rfl : n = 64 := by omega
          clear hlt hk hn
          go_wp2
          go_ret
          exact ⟨Aw, cw, rfl, ho, hbw⟩
end Go.Proofs.YtgkfebbifgkkeaaDoor
