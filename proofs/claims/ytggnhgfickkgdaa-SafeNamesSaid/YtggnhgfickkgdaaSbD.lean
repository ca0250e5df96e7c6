/- Layer 11 (safe), the laws: an atom called otherwise; rows of terms of one's own. -/
import Derived.Test.YtggnhgfickkgdaaSbC
import Derived.Great.BuildSlice
set_option linter.unusedVariables false
set_option linter.unusedSimpArgs false
namespace Go.Proofs.Ytggnhgfickkgdaa
open Go Go.RowKit

theorem termInfo : (Try.prog.info? 48).map (fun i => (i.zero, i.size, i.bytes)) = some (some (.agg #[.bool false, .int .u32 0]), 2, 8) := by kernel_rfl
abbrev OwT (w : World) (base : Nat) (A : Option Addr) (c n : Nat) (l : List Tm) : Prop := w.ownsRow base 48 2 (.slice A n c) n (tmCs l)
section
variable {w w' : World} {base : Nat} {A : Option Addr} {c n : Nat}
theorem OwT.rd {l : List Tm} (h : OwT w base A c n l) : RdT w w.heap.size A n l := Rd.ofOwn h
theorem OwT.cap {l : List Tm} (h : OwT w base A c n l) : n ≤ c := by
  obtain ⟨A1, c1, hv, hl⟩ := ownForm h
  cases hv
  exact hl
end
theorem wp_appT {o : Oper} {a : Act} {K : Act → World → Prop} {Q : Exit → Act → World → Prop} (w : World) (p x : Operand)
    (ho : o.op = .call { callee := .builtin .append, args := #[p, x], argTypes := #[31, 31] })
    (base : Nat) (A0 : Option Addr) (c0 n : Nat) (l : List Tm) (hv : a.eval p = .slice A0 n c0) (hown : OwT w base A0 c0 n l)
    (B : Nat) (A : Option Addr) (m c : Nat) (news : List Tm) (hx : a.eval x = .slice A m c) (hr : RdT w B A m news) (hb : n + m ≤ 1000000000) (hbase : base ≤ w.heap.size)
    (h : ∀ A' c' w', OwT w' base A' c' (n + m) (l ++ news) → Below base w w' → K (a.put o.dst (.slice A' (n + m) c')) w') : o.wp Try.prog a w K Q := by
  obtain ⟨i0, hi, hz0, hz1, hz2⟩ := info_parts termInfo
  refine wp_app w p x 31 ho base 48 i0 _ 2 8 Try.underlying31 hi hz0 hz1 hz2 rfl (by decide) _ n _ hv hown B A m c _ hx hr (tmCs_one news) (by simp only [maxLen]; omega) (by omega) hbase ?_
  intro A' c' w' h1 h2 h3
  refine h A' c' w' ?_ (belowApp (Below.refl _ _) hown h2 hbase)
  show World.ownsRow _ _ _ _ _ _ _
  rw [tmCs_append]
  exact h1
theorem appT {ops : Array Oper} {rest : List Oper} {o : Oper} {a : Act} {Q : Exit → Act → World → Prop} (w : World) (hgd : o.guard = none) (p x : Operand)
    (ho : o.op = .call { callee := .builtin .append, args := #[p, x], argTypes := #[31, 31] })
    (base : Nat) (A0 : Option Addr) (c0 n : Nat) (l : List Tm) (hv : a.eval p = .slice A0 n c0) (hown : OwT w base A0 c0 n l)
    (B : Nat) (A : Option Addr) (m c : Nat) (news : List Tm) (hx : a.eval x = .slice A m c) (hr : RdT w B A m news) (hb : n + m ≤ 1000000000) (hbase : base ≤ w.heap.size)
    (h : ∀ A' c' w', OwT w' base A' c' (n + m) (l ++ news) → Below base w w' → wpList Try.prog ops Q rest (a.put o.dst (.slice A' (n + m) c')) w') : wpList Try.prog ops Q (o :: rest) a w :=
  wpList_plain hgd fun _ hK => wp_appT w p x ho base A0 c0 n l hv hown B A m c news hx hr hb hbase fun A' c' w' h1 h2 => hK _ _ (h A' c' w' h1 h2)
theorem anyd_appT {ops : Array Oper} {E : Prop} {o : Oper} {a : Act} {K : Act → World → Prop} {Q : Exit → Act → World → Prop} {w : World} (hwant : Region.wanted o (yielded ops a.tmps) = true) (p x : Operand)
    (ho : o.op = .call { callee := .builtin .append, args := #[p, x], argTypes := #[31, 31] })
    (base : Nat) (A0 : Option Addr) (c0 n : Nat) (l : List Tm) (hv : a.eval p = .slice A0 n c0) (hown : OwT w base A0 c0 n l)
    (B : Nat) (A : Option Addr) (m c : Nat) (news : List Tm) (hx : a.eval x = .slice A m c) (hr : RdT w B A m news) (hb : n + m ≤ 1000000000) (hbase : base ≤ w.heap.size)
    (h : ∀ A' c' w', OwT w' base A' c' (n + m) (l ++ news) → Below base w w' → K (a.put o.dst (.slice A' (n + m) c')) w') : if Region.wanted o (yielded ops a.tmps) = true then Oper.wp Try.prog o a w K Q else E := by
  rw [if_pos hwant]
  exact wp_appT w p x ho base A0 c0 n l hv hown B A m c news hx hr hb hbase h
theorem run_litT (t : Tm) (w : World) : (Instr.buildSlice 31 1 #[(0, .agg #[.bool t.1, nv t.2])]).run Try.prog w = .ok (.slice (some ⟨w.heap.size, 0, none⟩) 1 1) (w.alloc (.cells #[.bool t.1, nv t.2] 48)) := by
  obtain ⟨i0, hi, hz0, hz1, hz2⟩ := info_parts termInfo
  simp [Instr.buildSlice, run_underlying Try.underlying31, sizeOf, typeInfo, zeroValue, hi, hz0, hz1, newRow, Instr.fill]
  kernel_rfl
theorem litT_rd (t : Tm) (w : World) : RdT (w.alloc (.cells #[.bool t.1, nv t.2] 48)) (w.heap.size + 1) (some ⟨w.heap.size, 0, none⟩) 1 [t] :=
  ⟨by simp [tmCs_len], fun _ => ⟨_, _, rfl, by omega, fun j u hu => by
    rw [Nat.zero_add, cell_of_row _ _ j #[.bool t.1, nv t.2] 48 (0, 0) (heap_alloc_new w _)]
    simpa [tmCs, tmC] using hu⟩⟩
theorem addU (a b : UInt32) : ((a.toNat : Int) + (b.toNat : Int)) % 4294967296 = ((a + b).toNat : Int) := by
  rw [UInt32.toNat_add]
  omega
theorem remU (a : UInt32) : Int.tmod (a.toNat : Int) 16 = ((a % 16).toNat : Int) := by
  rw [Int.tmod_eq_emod_of_nonneg (by omega), UInt32.toNat_mod]
  rfl
theorem wrapU (a : UInt32) : (a.toNat : Int) % 4294967296 = (a.toNat : Int) := by
  have := n32_lt a
  omega
theorem by8 (b : UInt8) : (b.toNat : Int) % 4294967296 = (b.toUInt32.toNat : Int) := by
  have := UInt8.toNat_lt b
  simp
  omega
set_option maxRecDepth 100000 in
set_option maxHeartbeats 4000000 in
theorem called_any (p : UInt32) (A : Option Addr) (n c : Nat) (l : List Tm) (mv : UInt32) (by_ : UInt8) (w : World) (h : RdT w w.heap.size A n l) (hn : n ≤ 1000000) :
    Calls Try.prog 12 #[.agg #[nv p, .slice A n c], nv mv, .int .u8 (by_.toNat : Int)] w fun e w' => ∃ A' c', e = .returned (.agg #[nv (p + mv), .slice A' n c']) ∧ OwT w' w.heap.size A' c' n (l.map (calledT by_)) ∧ Below w.heap.size w w' := by
  have HL := Lib.hid (rdT_len h)
  obtain ⟨pm, hpm⟩ : ∃ pm, pm = p + mv := ⟨_, rfl⟩
  have hadd : ((p.toNat : Int) + (mv.toNat : Int)) % 4294967296 = (pm.toNat : Int) := by rw [hpm]; exact addU p mv
  rw [← hpm]
  clear hpm
  obtain ⟨W, hW, hb, hbr, hbF, hbw, hsz⟩ : ∃ W, W = ((w.alloc (.cells #[nv p, .slice A n c] 33)).alloc (.cells #[.int .u32 0, .slice none 0 0] 33)).alloc (.cells #[nv pm, .slice none 0 0] 33) ∧ Bk W w.heap.size 33 [nv p, .slice A n c] ∧ Bk W (w.heap.size + 1) 33 [.int .u32 0, .slice none 0 0] ∧
      Bk W (w.heap.size + 1 + 1) 33 [nv pm, .slice none 0 0] ∧ Below w.heap.size w W ∧ W.heap.size = w.heap.size + 1 + 1 + 1 :=
    ⟨_, rfl, ((Bk.new w _ _).alloc _).alloc _, (Bk.second w _ _ [.int .u32 0, .slice none 0 0]).alloc _, by
      have h := Bk.new ((w.alloc (.cells #[nv p, .slice A n c] 33)).alloc (.cells #[.int .u32 0, .slice none 0 0] 33)) 33 [nv pm, .slice none 0 0]
      simpa using h, (below2 _ _ _).alloc (by simp; omega) _, by simp⟩
  have HW := Lib.hid hW
  have HB := Lib.hid hb
  have HBR0 := Lib.hid hbr
  have HBF := Lib.hid hbF
  have HR := Lib.hid (h.below hbw)
  have HSZ := Lib.hid hsz
  have hw8 := by8 by_
  clear hW hb h hbr hbF
  go_enter Try.func12, Try.ntmps12
  repeat (first | go_skip | go_guarded | go_step)
  rw [← HW.out]
  clear hadd hw8
  go_loopw [8] (fun p' wr => ∃ (i : Nat) (A' : Option Addr) (c' : Nat), i ≤ n ∧ p' = .int .i64 (i : Int) ∧ Bk wr (w.heap.size + 1 + 1) 33 [nv pm, .slice A' i c'] ∧ OwT wr W.heap.size A' c' i ((l.take i).map (calledT by_)) ∧ Below (w.heap.size + 1 + 1) W wr ∧ W.heap.size ≤ wr.heap.size) (fun p _ => n - (intOf p).toNat)
  case atStart => exact ⟨0, none, 0, by omega, rfl, HBF.out, World.ownsRow_nil _ _ _ _, Below.refl _ _, Nat.le_refl _⟩
  case round =>
    rename World => wr
    obtain ⟨i, A', c', hi, rfl, hf, ho, hbr, hus⟩ := hrel
    have hbA : Bk wr w.heap.size 33 [nv p, .slice A n c] := HB.out.below hbr (by omega)
    have j1 := hbA.read (Below.refl _ _) 1 rfl
    by_cases hlt : i < n
    · have hci : (i : Int) < (n : Int) := by omega
      obtain ⟨b, o, t, hA, hbb, ht, hc0, hc1⟩ := rdT_at (HR.out.below (hbr.mono (by omega))) hlt
      subst hA
      have HT := Lib.hid ht
      have HF := Lib.hid hf
      have HO := Lib.hid ho
      have HBR := Lib.hid hbr
      clear ht hf ho hbr hbA
      obtain ⟨bt, nt⟩ := t
      dsimp only at hc0 hc1
      go_upto_region 6 with (fail)
      obtain ⟨U, hU, hbt, hbU⟩ : ∃ U, U = wr.alloc (.cells #[.bool bt, nv nt] 48) ∧ Bk U wr.heap.size 48 [.bool bt, nv nt] ∧ Below wr.heap.size wr U := ⟨_, rfl, Bk.new wr _ [.bool bt, nv nt], (Below.refl _ _).alloc (Nat.le_refl _) _⟩
      rw [← hU]
      have b0 := hbt.read (Below.refl _ _) 0 rfl
      have b1 := hbt.read (Below.refl _ _) 1 rfl
      have bf1 := hbt.frozen 1
      have HBT := Lib.hid hbt
      have HBU := Lib.hid hbU
      obtain ⟨gt, hgt⟩ : ∃ gt, gt = wr.heap.size := ⟨_, rfl⟩
      rw [← hgt] at b0 b1 bf1 HBT ⊢
      have HGT := Lib.hid hgt
      clear hU hbt hbU hgt j1 hc0 hc1
      cases bt with
      | false =>
        have hct : calledT by_ (false, nt) = (false, nt) := by unfold calledT; rw [if_neg (by rintro ⟨h, _⟩; cases h)]
        have HCT := Lib.hid hct
        clear hct bf1
        go_upto_region 8 with (fail)
        clear b0 b1
        have hbv := HBT.out
        have hwv := HBU.out
        have HBV := Lib.hid hbv
        have HWV := Lib.hid hwv
        have hofV : Bk U (w.heap.size + 1 + 1) 33 [nv pm, .slice A' i c'] := HF.out.later hwv
        have v0 := hbv.read (Below.refl _ _) 0 rfl
        have v1 := hbv.read (Below.refl _ _) 1 rfl
        have o1 := hofV.read (Below.refl _ _) 1 rfl
        have HOFV := Lib.hid hofV
        have hZ : Below U.heap.size U (U.alloc (.cells #[.bool false, nv nt] 48)) := (Below.refl _ _).alloc (Nat.le_refl _) _
        have HWZ := Lib.hid (hwv.trans (hZ.mono hwv.size))
        have HOZ := Lib.hid (show OwT (U.alloc (.cells #[.bool false, nv nt] 48)) W.heap.size A' c' i ((l.take i).map (calledT by_)) from ownBelow HO.out (hwv.trans (hZ.mono hwv.size)) (Nat.le_refl _))
        have HOFZ := Lib.hid (hofV.later hZ)
        have HRZ := Lib.hid (litT_rd (false, nt) U)
        have hsz4 : W.heap.size ≤ (U.alloc (.cells #[.bool false, nv nt] 48)).heap.size := Nat.le_trans hus HWZ.out.size
        clear hbv hwv hofV hZ
        repeat (first
          | (at_builtin
             refine appT _ rfl (.tmp 42) (.tmp 44) rfl W.heap.size A' c' i _ rfl HOZ.out _ _ 1 1 [(false, nt)] rfl HRZ.out (by omega) hsz4 ?_
             intro A9 c9 V9 ho9 hb9
             have hfd : Below W.heap.size wr V9 := (HWZ.out.mono hus).trans hb9
             have hbk9 : Bk V9 (w.heap.size + 1 + 1) 33 [nv pm, .slice A' i c'] := HF.out.below hfd (by have := HSZ.out; omega)
             have HFD := Lib.hid hfd
             have HBK9 := Lib.hid hbk9
             have HO9 := Lib.hid ho9
             have o9 := hbk9.read (Below.refl _ _) 1 rfl
             have of9 := hbk9.frozen 1
             clear ho9 hb9 hfd hbk9 v0 v1 o1)
          | go_skip | go_guarded | go_step)
        go_roundw
        case rel =>
          have hbk := HBK9.out.set_ 1 (.slice A9 (i + 1) c9)
          have hT : Turn (fun k => k = w.heap.size + 1 + 1) V9 (V9.setCell ⟨w.heap.size + 1 + 1, 1, none⟩ (.slice A9 (i + 1) c9)) := (Turn.refl (fun k => k = w.heap.size + 1 + 1) V9).setCell (p := ⟨w.heap.size + 1 + 1, 1, none⟩) (fun _ => rfl) _
          refine ⟨i + 1, A9, c9, by omega, by go_num, hbk, ?_, ?_, by have := HFD.out.size; simp; omega⟩
          · have e : (l.take (i + 1)).map (calledT by_) = (l.take i).map (calledT by_) ++ [(false, nt)] := by
              rw [List.take_add_one, HT.out]
              simp [HCT.out]
            rw [e]
            exact hT.own HO9.out (fun k hk e => by have := (World.ownsRow.lt HO9.out k hk).1; have := HSZ.out; omega)
          · exact (HBR.out.trans (Below.mono HFD.out (by have := HSZ.out; omega))).setCell (Nat.le_refl _) _
        case measure => simp [intOf]; omega
      | true =>
        by_cases hlo : nt.toNat < 16
        · have hloi : (nt.toNat : Int) < 16 := by omega
          obtain ⟨r8, hr8⟩ : ∃ r8 : UInt32, r8 = (nt + by_.toUInt32) % 16 := ⟨_, rfl⟩
          have hr8n : ((nt.toNat : Int) + (by_.toNat : Int)) % 16 = (r8.toNat : Int) := by
            rw [hr8, around_nat nt by_.toUInt32 hlo (by_lt by_)]
            simp
          have HR8 := Lib.hid hr8n
          have hct : calledT by_ (true, nt) = (true, r8) := by unfold calledT; rw [if_pos ⟨rfl, hlo⟩, hr8]
          have HCT := Lib.hid hct
          clear hct hr8 hr8n hlo
          go_upto_region 8 with (fail)
          rw [HR8.out]
          obtain ⟨V, hV, hbv, hwv⟩ : ∃ V, V = U.setCell ⟨gt, 1, none⟩ (nv r8) ∧ Bk V gt 48 [.bool true, nv r8] ∧ Below wr.heap.size wr V := ⟨_, rfl, HBT.out.set_ 1 (nv r8), HBU.out.setCell (p := ⟨gt, 1, none⟩) (show wr.heap.size ≤ gt by have := HGT.out; omega) _⟩
          rw [← hV]
          clear hV b0 b1 bf1 hloi
          have HBV := Lib.hid hbv
          have HWV := Lib.hid hwv
          have hofV : Bk V (w.heap.size + 1 + 1) 33 [nv pm, .slice A' i c'] := HF.out.later hwv
          have v0 := hbv.read (Below.refl _ _) 0 rfl
          have v1 := hbv.read (Below.refl _ _) 1 rfl
          have o1 := hofV.read (Below.refl _ _) 1 rfl
          have HOFV := Lib.hid hofV
          have hZ : Below V.heap.size V (V.alloc (.cells #[.bool true, nv r8] 48)) := (Below.refl _ _).alloc (Nat.le_refl _) _
          have HWZ := Lib.hid (hwv.trans (hZ.mono hwv.size))
          have HOZ := Lib.hid (show OwT (V.alloc (.cells #[.bool true, nv r8] 48)) W.heap.size A' c' i ((l.take i).map (calledT by_)) from ownBelow HO.out (hwv.trans (hZ.mono hwv.size)) (Nat.le_refl _))
          have HOFZ := Lib.hid (hofV.later hZ)
          have HRZ := Lib.hid (litT_rd (true, r8) V)
          have hsz4 : W.heap.size ≤ (V.alloc (.cells #[.bool true, nv r8] 48)).heap.size := Nat.le_trans hus HWZ.out.size
          clear hbv hwv hofV hZ
          repeat (first
            | (at_builtin
               refine appT _ rfl (.tmp 42) (.tmp 44) rfl W.heap.size A' c' i _ rfl HOZ.out _ _ 1 1 [(true, r8)] rfl HRZ.out (by omega) hsz4 ?_
               intro A9 c9 V9 ho9 hb9
               have hfd : Below W.heap.size wr V9 := (HWZ.out.mono hus).trans hb9
               have hbk9 : Bk V9 (w.heap.size + 1 + 1) 33 [nv pm, .slice A' i c'] := HF.out.below hfd (by have := HSZ.out; omega)
               have HFD := Lib.hid hfd
               have HBK9 := Lib.hid hbk9
               have HO9 := Lib.hid ho9
               have o9 := hbk9.read (Below.refl _ _) 1 rfl
               have of9 := hbk9.frozen 1
               clear ho9 hb9 hfd hbk9 v0 v1 o1)
            | go_skip | go_guarded | go_step)
          go_roundw
          case rel =>
            have hbk := HBK9.out.set_ 1 (.slice A9 (i + 1) c9)
            have hT : Turn (fun k => k = w.heap.size + 1 + 1) V9 (V9.setCell ⟨w.heap.size + 1 + 1, 1, none⟩ (.slice A9 (i + 1) c9)) := (Turn.refl (fun k => k = w.heap.size + 1 + 1) V9).setCell (p := ⟨w.heap.size + 1 + 1, 1, none⟩) (fun _ => rfl) _
            refine ⟨i + 1, A9, c9, by omega, by go_num, hbk, ?_, ?_, by have := HFD.out.size; simp; omega⟩
            · have e : (l.take (i + 1)).map (calledT by_) = (l.take i).map (calledT by_) ++ [(true, r8)] := by
                rw [List.take_add_one, HT.out]
                simp [HCT.out]
              rw [e]
              exact hT.own HO9.out (fun k hk e => by have := (World.ownsRow.lt HO9.out k hk).1; have := HSZ.out; omega)
            · exact (HBR.out.trans (Below.mono HFD.out (by have := HSZ.out; omega))).setCell (Nat.le_refl _) _
          case measure => simp [intOf]; omega
        · have hloi : ¬ (nt.toNat : Int) < 16 := by omega
          have hct : calledT by_ (true, nt) = (true, nt) := by unfold calledT; rw [if_neg (by rintro ⟨_, h⟩; exact hlo h)]
          have HCT := Lib.hid hct
          clear hct bf1
          go_upto_region 8 with (fail)
          clear b0 b1
          have hbv := HBT.out
          have hwv := HBU.out
          have HBV := Lib.hid hbv
          have HWV := Lib.hid hwv
          have hofV : Bk U (w.heap.size + 1 + 1) 33 [nv pm, .slice A' i c'] := HF.out.later hwv
          have v0 := hbv.read (Below.refl _ _) 0 rfl
          have v1 := hbv.read (Below.refl _ _) 1 rfl
          have o1 := hofV.read (Below.refl _ _) 1 rfl
          have HOFV := Lib.hid hofV
          have hZ : Below U.heap.size U (U.alloc (.cells #[.bool true, nv nt] 48)) := (Below.refl _ _).alloc (Nat.le_refl _) _
          have HWZ := Lib.hid (hwv.trans (hZ.mono hwv.size))
          have HOZ := Lib.hid (show OwT (U.alloc (.cells #[.bool true, nv nt] 48)) W.heap.size A' c' i ((l.take i).map (calledT by_)) from ownBelow HO.out (hwv.trans (hZ.mono hwv.size)) (Nat.le_refl _))
          have HOFZ := Lib.hid (hofV.later hZ)
          have HRZ := Lib.hid (litT_rd (true, nt) U)
          have hsz4 : W.heap.size ≤ (U.alloc (.cells #[.bool true, nv nt] 48)).heap.size := Nat.le_trans hus HWZ.out.size
          clear hbv hwv hofV hZ
          repeat (first
            | (at_builtin
               refine appT _ rfl (.tmp 42) (.tmp 44) rfl W.heap.size A' c' i _ rfl HOZ.out _ _ 1 1 [(true, nt)] rfl HRZ.out (by omega) hsz4 ?_
               intro A9 c9 V9 ho9 hb9
               have hfd : Below W.heap.size wr V9 := (HWZ.out.mono hus).trans hb9
               have hbk9 : Bk V9 (w.heap.size + 1 + 1) 33 [nv pm, .slice A' i c'] := HF.out.below hfd (by have := HSZ.out; omega)
               have HFD := Lib.hid hfd
               have HBK9 := Lib.hid hbk9
               have HO9 := Lib.hid ho9
               have o9 := hbk9.read (Below.refl _ _) 1 rfl
               have of9 := hbk9.frozen 1
               clear ho9 hb9 hfd hbk9 v0 v1 o1)
            | go_skip | go_guarded | go_step)
          go_roundw
          case rel =>
            have hbk := HBK9.out.set_ 1 (.slice A9 (i + 1) c9)
            have hT : Turn (fun k => k = w.heap.size + 1 + 1) V9 (V9.setCell ⟨w.heap.size + 1 + 1, 1, none⟩ (.slice A9 (i + 1) c9)) := (Turn.refl (fun k => k = w.heap.size + 1 + 1) V9).setCell (p := ⟨w.heap.size + 1 + 1, 1, none⟩) (fun _ => rfl) _
            refine ⟨i + 1, A9, c9, by omega, by go_num, hbk, ?_, ?_, by have := HFD.out.size; simp; omega⟩
            · have e : (l.take (i + 1)).map (calledT by_) = (l.take i).map (calledT by_) ++ [(true, nt)] := by
                rw [List.take_add_one, HT.out]
                simp [HCT.out]
              rw [e]
              exact hT.own HO9.out (fun k hk e => by have := (World.ownsRow.lt HO9.out k hk).1; have := HSZ.out; omega)
            · exact (HBR.out.trans (Below.mono HFD.out (by have := HSZ.out; omega))).setCell (Nat.le_refl _) _
          case measure => simp [intOf]; omega
    · obtain rfl : n = i := by omega
      have hci : ¬ (n : Int) < (n : Int) := by omega
      have HF := Lib.hid hf
      have HO := Lib.hid ho
      have HBR := Lib.hid hbr
      have hres : Bk wr (w.heap.size + 1) 33 [.int .u32 0, .slice none 0 0] := HBR0.out.below hbr (by omega)
      have o0 := hf.read (Below.refl _ _) 0 rfl
      have o1 := hf.read (Below.refl _ _) 1 rfl
      have r0 := hres.read (Below.refl _ _) 0 rfl
      have r1 := hres.read (Below.refl _ _) 1 rfl
      have rf0 := hres.frozen 0
      have rf1 := hres.frozen 1
      have HRES := Lib.hid hres
      clear hf ho hbr hres hbA
      repeat (first | go_skip | go_guarded | go_step)
      have hz : Bk ((wr.setCell ⟨w.heap.size + 1, 0, none⟩ (nv pm)).setCell ⟨w.heap.size + 1, 1, none⟩ (.slice A' n c')) (w.heap.size + 1) 33 [nv pm, .slice A' n c'] := (HRES.out.set_ 0 (nv pm)).set_ 1 (.slice A' n c')
      have hT : Turn (fun k => k = w.heap.size + 1) wr ((wr.setCell ⟨w.heap.size + 1, 0, none⟩ (nv pm)).setCell ⟨w.heap.size + 1, 1, none⟩ (.slice A' n c')) :=
        ((Turn.refl (fun k => k = w.heap.size + 1) wr).setCell (p := ⟨w.heap.size + 1, 0, none⟩) (fun _ => rfl) _).setCell (p := ⟨w.heap.size + 1, 1, none⟩) (fun _ => rfl) _
      refine bodyPost_ret (v := .agg #[nv pm, .slice A' n c']) (results_cell_row rfl _ _ (w.heap.size + 1) _ _ _ _ rfl hz Try.underlying33 rfl (by kernel_rfl)) rfl ⟨A', c', rfl, ?_, ?_⟩
      · have h := HO.out
        rw [List.take_of_length_le (by rw [HL.out]; exact Nat.le_refl _)] at h
        exact ownBase (hT.own h (fun k hk e => by have := (World.ownsRow.lt h k hk).1; have := HSZ.out; omega)) hbw.size
      · exact hbw.trans ((Below.trans (HBR.out.mono (by omega)) (hT.below (B := w.heap.size) (fun _ _ e => by rw [e]; omega) (by have := hbw.size; omega))))
end Go.Proofs.Ytggnhgfickkgdaa
