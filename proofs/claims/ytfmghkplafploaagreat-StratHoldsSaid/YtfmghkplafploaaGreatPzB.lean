/- Texts, packed: SaC SaD -/
import Derived.Test.YtfmghkplafploaaGreatPzA
import Derived.Deep.RegionHeld3
import Derived.StillTailTactics
import Derived.Deep.Cut
set_option linter.unusedVariables false
set_option linter.unusedSimpArgs false
namespace Go.Proofs.YtfmghkplafploaaGreat
open Go Go.RowKit

def inL (l : List Tm) (v : UInt32) : Bool := l.any fun t => t.1 && t.2 == v
def heldV (L : List Li) (v : UInt32) : Bool := L.any fun x => !x.1 && inL x.2.2 v
def heldL (L : List Li) (l : List Tm) : Bool := l.all fun t => !t.1 || heldV L t.2
def safeC (c : Cl) : Bool := heldL c.2 c.1.2 && c.2.all fun x => !x.1 || heldL c.2 x.2.2
theorem any_of_not {α : Type} {l : List α} {f : α → Bool} (h : l.all (fun x => !f x) = true) : l.any f = false := by
  rw [List.any_eq_false]
  rw [List.all_eq_true] at h
  intro x hx
  have := h x hx
  simpa using this
theorem any_at {α : Type} {l : List α} {f : α → Bool} {i : Nat} {x : α} (h : l[i]? = some x) (hx : f x = true) : l.any f = true := List.any_eq_true.2 ⟨x, List.mem_of_getElem? h, hx⟩
set_option maxRecDepth 100000 in
set_option maxHeartbeats 1000000 in
theorem rIn_any (p : UInt32) (A : Option Addr) (n c : Nat) (l : List Tm) (v : UInt32) (w : World) (h : RdT w w.heap.size A n l) (hn : n ≤ 1000000) :
    Calls Tryz.prog 56 #[.agg #[nv p, .slice A n c], nv v] w fun e w' => e = .returned (.bool (inL l v)) ∧ Below w.heap.size w w' := by
  have HL := Lib.hid (rdT_len h)
  obtain ⟨W, hW, hb, hbw⟩ : ∃ W, W = w.alloc (.cells #[nv p, .slice A n c] 42) ∧ Bk W w.heap.size 42 [nv p, .slice A n c] ∧ Below w.heap.size w W := ⟨_, rfl, Bk.new w _ _, (Below.refl _ _).alloc (Nat.le_refl _) _⟩
  have HR := Lib.hid (h.below hbw)
  have HW := Lib.hid hW
  have c1 := hb.cell 1
  rw [show [nv p, Value.slice A n c][1]? = some (Value.slice A n c) from rfl] at c1
  clear h hW
  go_enter Tryz.func56, Tryz.ntmps56
  repeat go_step
  rw [← HW.out]
  go_loop [5] (fun p => ∃ i : Nat, i ≤ n ∧ p = .int .i64 (i : Int) ∧ (l.take i).all (fun t => !(t.1 && t.2 == v)) = true) (fun p => n - (intOf p).toNat)
  case atStart => exact ⟨0, by omega, rfl, by simp⟩
  case round =>
    obtain ⟨i, hi, rfl, hal⟩ := hrel
    have HAL := Lib.hid hal
    clear hal
    by_cases hlt : i < n
    · have hci : (i : Int) < (n : Int) := by omega
      obtain ⟨b, o, t, hA, hbb, ht, hc0, hc1⟩ := rdT_at HR.out hlt
      subst hA
      obtain ⟨g, x⟩ := t
      dsimp only at hc0
      have HT := Lib.hid ht
      clear ht
      cases g with
      | false =>
        repeat (first | go_skip | go_guarded | go_step)
        go_round
        case rel => exact ⟨i + 1, by omega, by go_num, all_upto HT.out HAL.out rfl⟩
        case measure => simp [intOf]; omega
      | true =>
        by_cases hx : x = v
        · have hd : ((x.toNat : Int) == (v.toNat : Int)) = true := by subst hx; simp
          have HX := Lib.hid hx
          clear hx
          repeat (first | go_skip | go_guarded | go_step)
          go_ret
          exact ⟨by unfold inL; rw [any_at HT.out (by simp [HX.out])]; rfl, hbw⟩
        · have hd := u32ne' hx
          have HX := Lib.hid hx
          clear hx
          repeat (first | go_skip | go_guarded | go_step)
          go_round
          case rel => exact ⟨i + 1, by omega, by go_num, all_upto HT.out HAL.out (by simp [HX.out])⟩
          case measure => simp [intOf]; omega
    · obtain rfl : i = n := by omega
      have hci : ¬ (i : Int) < (i : Int) := by omega
      repeat (first | go_skip | go_guarded | go_step)
      go_ret
      exact ⟨by unfold inL; rw [any_of_not (all_whole (by have := HL.out; omega) HAL.out)]; rfl, hbw⟩
set_option maxRecDepth 100000 in
set_option maxHeartbeats 2000000 in
theorem rHeld_any (p : UInt32) (A : Option Addr) (n c : Nat) (A1 : Option Addr) (n1 c1 : Nat) (R : List SlA) (L : List Li) (q : UInt32) (A2 : Option Addr) (n2 c2 : Nat) (l2 : List Tm) (w : World) (h1 : RdL w w.heap.size A1 n1 R L) (h2 : RdT w w.heap.size A2 n2 l2)
    (hn1 : n1 ≤ 1000000) (hn2 : n2 ≤ 1000000) (hk : ∀ x ∈ L, x.2.2.length ≤ 1000000) :
    Calls Tryz.prog 41 #[.agg #[nv p, .slice A n c, .slice A1 n1 c1], .agg #[nv q, .slice A2 n2 c2]] w fun e w' => e = .returned (.bool (heldL L l2)) ∧ Below w.heap.size w w' := by
  have HL1 := Lib.hid h1.lenL
  have HL2 := Lib.hid (rdT_len h2)
  have HK := Lib.hid hk
  obtain ⟨W, hW, hb, hb', hbw⟩ : ∃ W, W = (w.alloc (.cells #[nv p, .slice A n c, .slice A1 n1 c1] 45)).alloc (.cells #[nv q, .slice A2 n2 c2] 42) ∧ Bk W w.heap.size 45 [nv p, .slice A n c, .slice A1 n1 c1] ∧
      Bk W (w.heap.size + 1) 42 [nv q, .slice A2 n2 c2] ∧ Below w.heap.size w W := ⟨_, rfl, (Bk.new w _ _).alloc _, Bk.second w _ _ _, below2 _ _ _⟩
  have HR1 := Lib.hid ((h1.below hbw).more hbw.size)
  have HR2 := Lib.hid (Rd.more (Rd.below h2 hbw) hbw.size)
  have HW := Lib.hid hW
  have HB := Lib.hid hb
  have HB' := Lib.hid hb'
  have HBW := Lib.hid hbw
  clear h1 h2 hW hb hb' hbw hk
  go_enter Tryz.func41, Tryz.ntmps41
  repeat (first | go_skip | go_guarded | go_step)
  rw [← HW.out]
  go_loopw [5] (fun q wr => ∃ i : Nat, i ≤ n2 ∧ q = .int .i64 (i : Int) ∧ (l2.take i).all (fun t => !t.1 || heldV L t.2) = true ∧ Below W.heap.size W wr) (fun q _ => n2 - (intOf q).toNat)
  case atStart => exact ⟨0, by omega, rfl, by simp, Below.refl _ _⟩
  case round =>
    rename World => wr
    obtain ⟨i, hi, rfl, hal, hbr⟩ := hrel
    have HAL := Lib.hid hal
    have HBR := Lib.hid hbr
    have d1 := HB'.out.read hbr 1 rfl
    clear hal hbr
    by_cases hlt : i < n2
    · have hci : (i : Int) < (n2 : Int) := by omega
      obtain ⟨b, o, t, hA, hbb, ht, hc0, hc1⟩ := rdT_at (Rd.below HR2.out HBR.out) hlt
      subst hA
      obtain ⟨g, x⟩ := t
      dsimp only at hc0 hc1
      have HT := Lib.hid ht
      have HBB := Lib.hid hbb
      have HCX := Lib.hid (show ∀ V, Below wr.heap.size wr V → V.cell? ⟨b, o + i * 2 + 1, none⟩ = some (nv x) from fun V hV => (hV.cell (p := ⟨b, o + i * 2 + 1, none⟩) (Nat.lt_of_lt_of_le hbb HBR.out.size)).trans hc1)
      clear ht hbb
      cases g with
      | false =>
        repeat (first | go_skip | go_guarded | go_step)
        go_roundw
        case rel => exact ⟨i + 1, by omega, by go_num, all_upto HT.out HAL.out rfl, HBR.out⟩
        case measure => simp [intOf]; omega
      | true =>
        repeat (first | go_skip | go_guarded | go_step)
        go_loopw [6, 7] (fun iv q w2 => ∃ (k : Nat) (is : Bool), k ≤ n1 ∧ iv = .bool is ∧ q = .int .i64 (k : Int) ∧ is = ((L.take k).any fun y => !y.1 && inL y.2.2 x) ∧ Below wr.heap.size wr w2) (fun _ q _ => n1 - (intOf q).toNat)
        case atStart => exact ⟨0, false, by omega, rfl, rfl, by simp, Below.refl _ _⟩
        case round =>
          rename World => w2
          obtain ⟨k, is, hk, rfl, rfl, his, hb2⟩ := hrel
          have HIS := Lib.hid his
          have HB2 := Lib.hid hb2
          have HW2 := Lib.hid (HBR.out.trans (hb2.mono HBR.out.size))
          have e2 := HB.out.read HW2.out 2 rfl
          have e1 := HB'.out.read HW2.out 1 rfl
          clear his hb2
          by_cases hltk : k < n1
          · have hki : (k : Int) < (n1 : Int) := by omega
            obtain ⟨b3, o3, g3, p3, l3, Ai, ni, ci, hA1, hb3, hx3, hd0, hd1, hd2, hrow⟩ := (HR1.out.below HW2.out).at_ hltk
            subst hA1
            have hni : ni ≤ 1000000 := by have := HK.out _ (List.mem_of_getElem? hx3); have := rdT_len hrow; dsimp only at *; omega
            have HX3 := Lib.hid hx3
            have hb3w : b3 < w2.heap.size := Nat.lt_of_lt_of_le hb3 HW2.out.size
            have HD := Lib.hid (show ∀ V, Below w2.heap.size w2 V → V.cell? ⟨b3, o3 + k * 3, none⟩ = some (.bool g3) ∧ V.cell? ⟨b3, o3 + k * 3 + 1, none⟩ = some (nv p3) ∧ V.cell? ⟨b3, o3 + k * 3 + 2, none⟩ = some (.slice Ai ni ci) from fun V hV =>
              ⟨(hV.cell (p := ⟨b3, o3 + k * 3, none⟩) hb3w).trans hd0, (hV.cell (p := ⟨b3, o3 + k * 3 + 1, none⟩) hb3w).trans hd1, (hV.cell (p := ⟨b3, o3 + k * 3 + 2, none⟩) hb3w).trans hd2⟩)
            have HROW := Lib.hid (Rd.more hrow HW2.out.size)
            have HBX := Lib.hid (show ∀ V, Below w2.heap.size w2 V → V.cell? ⟨w.heap.size, 2, none⟩ = some (.slice (some ⟨b3, o3, none⟩) n1 c1) ∧ V.cell? ⟨w.heap.size + 1, 1, none⟩ = some (.slice (some ⟨b, o, none⟩) n2 c2) from fun V hV =>
              ⟨HB.out.read (HW2.out.trans (hV.mono HW2.out.size)) 2 rfl, HB'.out.read (HW2.out.trans (hV.mono HW2.out.size)) 1 rfl⟩)
            have HCX2 := Lib.hid (show ∀ V, Below w2.heap.size w2 V → V.cell? ⟨b, o + i * 2 + 1, none⟩ = some (nv x) from fun V hV => HCX.out V (HB2.out.trans (hV.mono HB2.out.size)))
            have hany : ((L.take (k + 1)).any fun y => !y.1 && inL y.2.2 x) = (is || (!g3 && inL l3 x)) := by
              rw [List.take_add_one, HX3.out, List.any_append, ← HIS.out]
              simp
            have HANY := Lib.hid hany
            clear hx3 hd0 hd1 hd2 hrow hb3 hany e1 e2 hb3w d1 hc0 hc1
            cases is with
            | true =>
              have qa := fun q => (HBX.out (w2.drewN q) (belowDrewQ (Below.refl _ _) q)).1
              have e2 := (HBX.out w2 (Below.refl _ _)).1
              go_upto_region 9 with (fail)
              go_quiet (fail)
              repeat (first | go_skip | go_guarded | go_step)
              have hb9 := belowDrewQ HB2.out nq
              go_roundw
              case rel => exact ⟨k + 1, true, by omega, rfl, by go_num, by rw [HANY.out]; rfl, hb9⟩
              case measure => simp [intOf]; omega
            | false =>
              cases g3 with
              | true =>
                have qa := fun q => (HBX.out (w2.drewN q) (belowDrewQ (Below.refl _ _) q)).1
                have qb := fun q => (HD.out (w2.drewN q) (belowDrewQ (Below.refl _ _) q)).1
                have e2 := (HBX.out w2 (Below.refl _ _)).1
                go_upto_region 9 with (fail)
                go_quiet (fail)
                repeat (first | go_skip | go_guarded | go_step)
                have hb9 := belowDrewQ HB2.out nq
                go_roundw
                case rel => exact ⟨k + 1, false, by omega, rfl, by go_num, by rw [HANY.out]; rfl, hb9⟩
                case measure => simp [intOf]; omega
              | false =>
                have e2 := (HBX.out w2 (Below.refl _ _)).1
                go_upto_region 9 with (fail)
                refine wp_region_held_drew (S := fun V => Below w2.heap.size w2 V) (by kernel_rfl) ?_ (fun hHeld => ?_)
                · exact (Below.refl w2.heap.size w2).drew
                refine wpAnyH_take (i := 0) (oi := ?oid1) (v := ?vd1) ?hod1 (by kernel_rfl) ?hfd1 ?hrd1 ?hQd1 ?hyd1 hHeld ?restd1
                case hod1 => (simp only [List.getElem?_toArray, List.getElem?_cons_succ, List.getElem?_cons_zero]; exact rfl)
                case hfd1 => kernel_rfl
                case hrd1 => kernel_rfl
                case hQd1 => exact fun _ _ _ h => h
                case hyd1 =>
                  refine Or.inl ⟨by rfl, ?_⟩
                  intro V hSV
                  go_simp
                  (try with_reducible rfl)
                try simp only [Act.put, List.setIfInBounds_toArray, List.set_cons_zero, List.set_cons_succ]
                refine wpAnyH_take (i := 1) (oi := ?oid2) (v := ?vd2) ?hod2 (by kernel_rfl) ?hfd2 ?hrd2 ?hQd2 ?hyd2 hHeld ?restd2
                case hod2 => (simp only [List.getElem?_toArray, List.getElem?_cons_succ, List.getElem?_cons_zero]; exact rfl)
                case hfd2 => kernel_rfl
                case hrd2 => kernel_rfl
                case hQd2 => exact fun _ _ _ h => h
                case hyd2 =>
                  refine Or.inl ⟨by rfl, ?_⟩
                  intro V hSV
                  go_simp
                  (try with_reducible rfl)
                try simp only [Act.put, List.setIfInBounds_toArray, List.set_cons_zero, List.set_cons_succ]
                refine wpAnyH_take (i := 2) (oi := ?oid3) (v := ?vd3) ?hod3 (by kernel_rfl) ?hfd3 ?hrd3 ?hQd3 ?hyd3 hHeld ?restd3
                case hod3 => (simp only [List.getElem?_toArray, List.getElem?_cons_succ, List.getElem?_cons_zero]; exact rfl)
                case hfd3 => kernel_rfl
                case hrd3 => kernel_rfl
                case hQd3 => exact fun _ _ _ h => h
                case hyd3 =>
                  refine Or.inl ⟨by rfl, ?_⟩
                  intro V hSV
                  go_simp
                  (try with_reducible rfl)
                try simp only [Act.put, List.setIfInBounds_toArray, List.set_cons_zero, List.set_cons_succ]
                refine wpAnyH_take (i := 3) (oi := ?oid4) (v := ?vd4) ?hod4 (by kernel_rfl) ?hfd4 ?hrd4 ?hQd4 ?hyd4 hHeld ?restd4
                case hod4 => (simp only [List.getElem?_toArray, List.getElem?_cons_succ, List.getElem?_cons_zero]; exact rfl)
                case hfd4 => kernel_rfl
                case hrd4 => kernel_rfl
                case hQd4 => exact fun _ _ _ h => h
                case hyd4 =>
                  refine Or.inl ⟨by rfl, ?_⟩
                  intro V hSV
                  have qx := (HBX.out V hSV).1
                  go_simp
                  (try with_reducible rfl)
                try simp only [Act.put, List.setIfInBounds_toArray, List.set_cons_zero, List.set_cons_succ]
                refine wpAnyH_take (i := 4) (oi := ?oid5) (v := ?vd5) ?hod5 (by kernel_rfl) ?hfd5 ?hrd5 ?hQd5 ?hyd5 hHeld ?restd5
                case hod5 => (simp only [List.getElem?_toArray, List.getElem?_cons_succ, List.getElem?_cons_zero]; exact rfl)
                case hfd5 => kernel_rfl
                case hrd5 => kernel_rfl
                case hQd5 => exact fun _ _ _ h => h
                case hyd5 =>
                  refine Or.inl ⟨by rfl, ?_⟩
                  intro V hSV
                  go_simp
                  (try with_reducible rfl)
                try simp only [Act.put, List.setIfInBounds_toArray, List.set_cons_zero, List.set_cons_succ]
                refine wpAnyH_take (i := 5) (oi := ?oid6) (v := ?vd6) ?hod6 (by kernel_rfl) ?hfd6 ?hrd6 ?hQd6 ?hyd6 hHeld ?restd6
                case hod6 => (simp only [List.getElem?_toArray, List.getElem?_cons_succ, List.getElem?_cons_zero]; exact rfl)
                case hfd6 => kernel_rfl
                case hrd6 => kernel_rfl
                case hQd6 => exact fun _ _ _ h => h
                case hyd6 =>
                  refine Or.inl ⟨by rfl, ?_⟩
                  intro V hSV
                  go_simp
                  (try with_reducible rfl)
                try simp only [Act.put, List.setIfInBounds_toArray, List.set_cons_zero, List.set_cons_succ]
                refine wpAnyH_take (i := 6) (oi := ?oid7) (v := ?vd7) ?hod7 (by kernel_rfl) ?hfd7 ?hrd7 ?hQd7 ?hyd7 hHeld ?restd7
                case hod7 => (simp only [List.getElem?_toArray, List.getElem?_cons_succ, List.getElem?_cons_zero]; exact rfl)
                case hfd7 => kernel_rfl
                case hrd7 => kernel_rfl
                case hQd7 => exact fun _ _ _ h => h
                case hyd7 =>
                  refine Or.inl ⟨by rfl, ?_⟩
                  intro V hSV
                  go_simp
                  (try with_reducible rfl)
                try simp only [Act.put, List.setIfInBounds_toArray, List.set_cons_zero, List.set_cons_succ]
                refine wpAnyH_take (i := 7) (oi := ?oid8) (v := ?vd8) ?hod8 (by kernel_rfl) ?hfd8 ?hrd8 ?hQd8 ?hyd8 hHeld ?restd8
                case hod8 => (simp only [List.getElem?_toArray, List.getElem?_cons_succ, List.getElem?_cons_zero]; exact rfl)
                case hfd8 => kernel_rfl
                case hrd8 => kernel_rfl
                case hQd8 => exact fun _ _ _ h => h
                case hyd8 =>
                  refine Or.inl ⟨by rfl, ?_⟩
                  intro V hSV
                  have q0 := (HD.out V hSV).1
                  go_simp
                  (try with_reducible rfl)
                try simp only [Act.put, List.setIfInBounds_toArray, List.set_cons_zero, List.set_cons_succ]
                refine wpAnyH_take (i := 8) (oi := ?oid9) (v := ?vd9) ?hod9 (by kernel_rfl) ?hfd9 ?hrd9 ?hQd9 ?hyd9 hHeld ?restd9
                case hod9 => (simp only [List.getElem?_toArray, List.getElem?_cons_succ, List.getElem?_cons_zero]; exact rfl)
                case hfd9 => kernel_rfl
                case hrd9 => kernel_rfl
                case hQd9 => exact fun _ _ _ h => h
                case hyd9 =>
                  refine Or.inl ⟨by rfl, ?_⟩
                  intro V hSV
                  go_simp
                  (try with_reducible rfl)
                try simp only [Act.put, List.setIfInBounds_toArray, List.set_cons_zero, List.set_cons_succ]
                refine wpAnyH_take (i := 9) (oi := ?oid10) (v := ?vd10) ?hod10 (by kernel_rfl) ?hfd10 ?hrd10 ?hQd10 ?hyd10 hHeld ?restd10
                case hod10 => (simp only [List.getElem?_toArray, List.getElem?_cons_succ, List.getElem?_cons_zero]; exact rfl)
                case hfd10 => kernel_rfl
                case hrd10 => kernel_rfl
                case hQd10 => exact fun _ _ _ h => h
                case hyd10 =>
                  refine Or.inl ⟨by rfl, ?_⟩
                  intro V hSV
                  go_simp
                  (try with_reducible rfl)
                try simp only [Act.put, List.setIfInBounds_toArray, List.set_cons_zero, List.set_cons_succ]
                refine wpAnyH_take (i := 10) (oi := ?oid11) (v := ?vd11) ?hod11 (by kernel_rfl) ?hfd11 ?hrd11 ?hQd11 ?hyd11 hHeld ?restd11
                case hod11 => (simp only [List.getElem?_toArray, List.getElem?_cons_succ, List.getElem?_cons_zero]; exact rfl)
                case hfd11 => kernel_rfl
                case hrd11 => kernel_rfl
                case hQd11 => exact fun _ _ _ h => h
                case hyd11 =>
                  refine Or.inl ⟨by rfl, ?_⟩
                  intro V hSV
                  go_simp
                  (try with_reducible rfl)
                try simp only [Act.put, List.setIfInBounds_toArray, List.set_cons_zero, List.set_cons_succ]
                refine wpAnyH_take (i := 11) (oi := ?oid12) (v := ?vd12) ?hod12 (by kernel_rfl) ?hfd12 ?hrd12 ?hQd12 ?hyd12 hHeld ?restd12
                case hod12 => (simp only [List.getElem?_toArray, List.getElem?_cons_succ, List.getElem?_cons_zero]; exact rfl)
                case hfd12 => kernel_rfl
                case hrd12 => kernel_rfl
                case hQd12 => exact fun _ _ _ h => h
                case hyd12 =>
                  refine Or.inl ⟨by rfl, ?_⟩
                  intro V hSV
                  have qx := (HBX.out V hSV).1
                  go_simp
                  (try with_reducible rfl)
                try simp only [Act.put, List.setIfInBounds_toArray, List.set_cons_zero, List.set_cons_succ]
                refine wpAnyH_take (i := 12) (oi := ?oid13) (v := ?vd13) ?hod13 (by kernel_rfl) ?hfd13 ?hrd13 ?hQd13 ?hyd13 hHeld ?restd13
                case hod13 => (simp only [List.getElem?_toArray, List.getElem?_cons_succ, List.getElem?_cons_zero]; exact rfl)
                case hfd13 => kernel_rfl
                case hrd13 => kernel_rfl
                case hQd13 => exact fun _ _ _ h => h
                case hyd13 =>
                  refine Or.inl ⟨by rfl, ?_⟩
                  intro V hSV
                  go_simp
                  (try with_reducible rfl)
                try simp only [Act.put, List.setIfInBounds_toArray, List.set_cons_zero, List.set_cons_succ]
                refine wpAnyH_take (i := 13) (oi := ?oid14) (v := ?vd14) ?hod14 (by kernel_rfl) ?hfd14 ?hrd14 ?hQd14 ?hyd14 hHeld ?restd14
                case hod14 => (simp only [List.getElem?_toArray, List.getElem?_cons_succ, List.getElem?_cons_zero]; exact rfl)
                case hfd14 => kernel_rfl
                case hrd14 => kernel_rfl
                case hQd14 => exact fun _ _ _ h => h
                case hyd14 =>
                  refine Or.inl ⟨by rfl, ?_⟩
                  intro V hSV
                  go_simp
                  (try with_reducible rfl)
                try simp only [Act.put, List.setIfInBounds_toArray, List.set_cons_zero, List.set_cons_succ]
                refine wpAnyH_take (i := 14) (oi := ?oid15) (v := ?vd15) ?hod15 (by kernel_rfl) ?hfd15 ?hrd15 ?hQd15 ?hyd15 hHeld ?restd15
                case hod15 => (simp only [List.getElem?_toArray, List.getElem?_cons_succ, List.getElem?_cons_zero]; exact rfl)
                case hfd15 => kernel_rfl
                case hrd15 => kernel_rfl
                case hQd15 => exact fun _ _ _ h => h
                case hyd15 =>
                  refine Or.inl ⟨by rfl, ?_⟩
                  intro V hSV
                  go_simp
                  (try with_reducible rfl)
                try simp only [Act.put, List.setIfInBounds_toArray, List.set_cons_zero, List.set_cons_succ]
                refine wpAnyH_take (i := 15) (oi := ?oid16) (v := ?vd16) ?hod16 (by kernel_rfl) ?hfd16 ?hrd16 ?hQd16 ?hyd16 hHeld ?restd16
                case hod16 => (simp only [List.getElem?_toArray, List.getElem?_cons_succ, List.getElem?_cons_zero]; exact rfl)
                case hfd16 => kernel_rfl
                case hrd16 => kernel_rfl
                case hQd16 => exact fun _ _ _ h => h
                case hyd16 =>
                  refine Or.inl ⟨by rfl, ?_⟩
                  intro V hSV
                  have q1 := (HD.out V hSV).2.1
                  have q2 := (HD.out V hSV).2.2
                  go_simp
                  (try with_reducible rfl)
                try simp only [Act.put, List.setIfInBounds_toArray, List.set_cons_zero, List.set_cons_succ]
                refine wpAnyH_take (i := 16) (oi := ?oid17) (v := ?vd17) ?hod17 (by kernel_rfl) ?hfd17 ?hrd17 ?hQd17 ?hyd17 hHeld ?restd17
                case hod17 => (simp only [List.getElem?_toArray, List.getElem?_cons_succ, List.getElem?_cons_zero]; exact rfl)
                case hfd17 => kernel_rfl
                case hrd17 => kernel_rfl
                case hQd17 => exact fun _ _ _ h => h
                case hyd17 =>
                  refine Or.inl ⟨by rfl, ?_⟩
                  intro V hSV
                  go_simp
                  (try with_reducible rfl)
                try simp only [Act.put, List.setIfInBounds_toArray, List.set_cons_zero, List.set_cons_succ]
                refine wpAnyH_take (i := 17) (oi := ?oid18) (v := ?vd18) ?hod18 (by kernel_rfl) ?hfd18 ?hrd18 ?hQd18 ?hyd18 hHeld ?restd18
                case hod18 => (simp only [List.getElem?_toArray, List.getElem?_cons_succ, List.getElem?_cons_zero]; exact rfl)
                case hfd18 => kernel_rfl
                case hrd18 => kernel_rfl
                case hQd18 => exact fun _ _ _ h => h
                case hyd18 =>
                  refine Or.inl ⟨by rfl, ?_⟩
                  intro V hSV
                  have qy := (HBX.out V hSV).2
                  go_simp
                  (try with_reducible rfl)
                try simp only [Act.put, List.setIfInBounds_toArray, List.set_cons_zero, List.set_cons_succ]
                refine wpAnyH_take (i := 18) (oi := ?oid19) (v := ?vd19) ?hod19 (by kernel_rfl) ?hfd19 ?hrd19 ?hQd19 ?hyd19 hHeld ?restd19
                case hod19 => (simp only [List.getElem?_toArray, List.getElem?_cons_succ, List.getElem?_cons_zero]; exact rfl)
                case hfd19 => kernel_rfl
                case hrd19 => kernel_rfl
                case hQd19 => exact fun _ _ _ h => h
                case hyd19 =>
                  refine Or.inl ⟨by rfl, ?_⟩
                  intro V hSV
                  go_simp
                  (try with_reducible rfl)
                try simp only [Act.put, List.setIfInBounds_toArray, List.set_cons_zero, List.set_cons_succ]
                refine wpAnyH_take (i := 19) (oi := ?oid20) (v := ?vd20) ?hod20 (by kernel_rfl) ?hfd20 ?hrd20 ?hQd20 ?hyd20 hHeld ?restd20
                case hod20 => (simp only [List.getElem?_toArray, List.getElem?_cons_succ, List.getElem?_cons_zero]; exact rfl)
                case hfd20 => kernel_rfl
                case hrd20 => kernel_rfl
                case hQd20 => exact fun _ _ _ h => h
                case hyd20 =>
                  refine Or.inl ⟨by rfl, ?_⟩
                  intro V hSV
                  go_simp
                  (try with_reducible rfl)
                try simp only [Act.put, List.setIfInBounds_toArray, List.set_cons_zero, List.set_cons_succ]
                refine wpAnyH_take (i := 20) (oi := ?oid21) (v := ?vd21) ?hod21 (by kernel_rfl) ?hfd21 ?hrd21 ?hQd21 ?hyd21 hHeld ?restd21
                case hod21 => (simp only [List.getElem?_toArray, List.getElem?_cons_succ, List.getElem?_cons_zero]; exact rfl)
                case hfd21 => kernel_rfl
                case hrd21 => kernel_rfl
                case hQd21 => exact fun _ _ _ h => h
                case hyd21 =>
                  refine Or.inl ⟨by rfl, ?_⟩
                  intro V hSV
                  go_simp
                  (try with_reducible rfl)
                try simp only [Act.put, List.setIfInBounds_toArray, List.set_cons_zero, List.set_cons_succ]
                refine wpAnyH_take (i := 21) (oi := ?oid22) (v := ?vd22) ?hod22 (by kernel_rfl) ?hfd22 ?hrd22 ?hQd22 ?hyd22 hHeld ?restd22
                case hod22 => (simp only [List.getElem?_toArray, List.getElem?_cons_succ, List.getElem?_cons_zero]; exact rfl)
                case hfd22 => kernel_rfl
                case hrd22 => kernel_rfl
                case hQd22 => exact fun _ _ _ h => h
                case hyd22 =>
                  refine Or.inl ⟨by rfl, ?_⟩
                  intro V hSV
                  have qc := HCX2.out V hSV
                  go_simp
                  (try with_reducible rfl)
                try simp only [Act.put, List.setIfInBounds_toArray, List.set_cons_zero, List.set_cons_succ]
                refine wpAnyH_ready (rs := [22]) (by kernel_rfl) (by simp) ?_
                refine AllReadyH.cons (o := ?od23) ?hod23 (fun K hK => ?kd23) ?md23
                case hod23 => (simp only [List.getElem?_toArray, List.getElem?_cons_succ, List.getElem?_cons_zero]; exact rfl)
                case kd23 =>
                  go_simp
                  refine (rIn_any p3 Ai ni ci l3 x _ (Rd.more (Rd.below HROW.out hHeld) (Below.size hHeld)) hni).mono ?_
                  rintro e Vd23 ⟨rfl, hbd23⟩
                  (try dsimp only)
                  refine hK.out _ _ ?_ (fun hHeld => ?_)
                  · exact Below.trans hHeld (hbd23.mono (Below.size hHeld))
                  clear hK K
                  try simp only [Act.put, List.setIfInBounds_toArray, List.set_cons_zero, List.set_cons_succ]
                  refine wpAnyH_take (i := 23) (oi := ?oid24) (v := ?vd24) ?hod24 (by kernel_rfl) ?hfd24 ?hrd24 ?hQd24 ?hyd24 hHeld ?restd24
                  case hod24 => (simp only [List.getElem?_toArray, List.getElem?_cons_succ, List.getElem?_cons_zero]; exact rfl)
                  case hfd24 => kernel_rfl
                  case hrd24 => kernel_rfl
                  case hQd24 => exact fun _ _ _ h => h
                  case hyd24 =>
                    refine Or.inl ⟨by rfl, ?_⟩
                    intro V hSV
                    go_simp
                    (try with_reducible rfl)
                  try simp only [Act.put, List.setIfInBounds_toArray, List.set_cons_zero, List.set_cons_succ]
                  refine wpAnyH_take (i := 24) (oi := ?oid25) (v := ?vd25) ?hod25 (by kernel_rfl) ?hfd25 ?hrd25 ?hQd25 ?hyd25 hHeld ?restd25
                  case hod25 => (simp only [List.getElem?_toArray, List.getElem?_cons_succ, List.getElem?_cons_zero]; exact rfl)
                  case hfd25 => kernel_rfl
                  case hrd25 => kernel_rfl
                  case hQd25 => exact fun _ _ _ h => h
                  case hyd25 =>
                    refine Or.inl ⟨by rfl, ?_⟩
                    intro V hSV
                    go_simp
                    (try with_reducible rfl)
                  try simp only [Act.put, List.setIfInBounds_toArray, List.set_cons_zero, List.set_cons_succ]
                  refine wpAnyH_take (i := 25) (oi := ?oid26) (v := ?vd26) ?hod26 (by kernel_rfl) ?hfd26 ?hrd26 ?hQd26 ?hyd26 hHeld ?restd26
                  case hod26 => (simp only [List.getElem?_toArray, List.getElem?_cons_succ, List.getElem?_cons_zero]; exact rfl)
                  case hfd26 => kernel_rfl
                  case hrd26 => kernel_rfl
                  case hQd26 => exact fun _ _ _ h => h
                  case hyd26 =>
                    refine Or.inl ⟨by rfl, ?_⟩
                    intro V hSV
                    go_simp
                    (try with_reducible rfl)
                  try simp only [Act.put, List.setIfInBounds_toArray, List.set_cons_zero, List.set_cons_succ]
                  refine wpAnyH_done (by kernel_rfl) ?_ _
                  have hb9 := HB2.out.trans (Below.mono hHeld HB2.out.size)
                  have HANZ := HANY.out
                  generalize inL l3 x = iz at HANZ ⊢
                  repeat (first | go_skip | go_guarded | go_step)
                  go_roundw
                  case rel => exact ⟨k + 1, iz, by omega, rfl, by go_num, by rw [HANZ]; simp, hb9⟩
                  case measure => simp [intOf]; omega
                exact AllReadyH.nil
          · obtain rfl : k = n1 := by omega
            have hki : ¬ (k : Int) < (k : Int) := by omega
            have hv : is = heldV L x := by
              rw [HIS.out]
              unfold heldV
              rw [List.take_of_length_le (by rw [HL1.out]; exact Nat.le_refl _)]
            have HV := Lib.hid hv
            clear hv
            cases is with
            | false =>
              repeat (first | go_skip | go_guarded | go_step)
              go_ret
              exact ⟨by unfold heldL; rw [all_at HT.out (by simp [← HV.out])]; rfl, HBW.out.trans (HW2.out.mono HBW.out.size)⟩
            | true =>
              repeat (first | go_skip | go_guarded | go_step)
              go_roundw
              case rel => exact ⟨i + 1, by omega, by go_num, all_upto HT.out HAL.out (by simp [← HV.out]), HW2.out⟩
              case measure => simp [intOf]; omega
    · obtain rfl : i = n2 := by omega
      have hci : ¬ (i : Int) < (i : Int) := by omega
      repeat (first | go_skip | go_guarded | go_step)
      go_ret
      exact ⟨by unfold heldL; rw [all_whole (by have := HL2.out; omega) HAL.out]; rfl, HBW.out.trans (HBR.out.mono HBW.out.size)⟩
end Go.Proofs.YtfmghkplafploaaGreat

set_option linter.unusedVariables false
set_option linter.unusedSimpArgs false
namespace Go.Proofs.YtfmghkplafploaaGreat
open Go Go.RowKit

set_option maxRecDepth 100000 in
set_option maxHeartbeats 2000000 in
theorem rSafe_any (p : UInt32) (A : Option Addr) (n c : Nat) (l : List Tm) (A1 : Option Addr) (n1 c1 : Nat) (R : List SlA) (L : List Li) (w : World) (h : RdT w w.heap.size A n l) (h1 : RdL w w.heap.size A1 n1 R L)
    (hn : n ≤ 1000000) (hn1 : n1 ≤ 1000000) (hk : ∀ x ∈ L, x.2.2.length ≤ 1000000) :
    Calls Tryz.prog 28 #[.agg #[nv p, .slice A n c, .slice A1 n1 c1]] w fun e w' => e = .returned (.bool (safeC ((p, l), L))) ∧ Below w.heap.size w w' := by
  have HL1 := Lib.hid h1.lenL
  have HK := Lib.hid hk
  obtain ⟨W, hW, hb, hbw⟩ := box3 w p (.slice A n c) (.slice A1 n1 c1) 45
  have HW := Lib.hid hW
  have HB := Lib.hid hb
  have HBW := Lib.hid hbw
  have HR := Lib.hid (Rd.more (Rd.below h hbw) hbw.size)
  have HR1 := Lib.hid ((h1.below hbw).more hbw.size)
  have k0 := hb.read (Below.refl _ _) 0 rfl
  have k1 := hb.read (Below.refl _ _) 1 rfl
  have k2 := hb.read (Below.refl _ _) 2 rfl
  have hc := rHeld_any p A n c A1 n1 c1 R L p A n c l W HR1.out HR.out hn1 hn hk
  clear hW hb h h1 hbw hk
  go_enter Tryz.func28, Tryz.ntmps28
  repeat (first | go_skip | go_guarded | go_step)
  rw [← HW.out]
  repeat (first | go_skip | go_guarded | go_step)
  refine hc.mono ?_
  rintro e W1 ⟨rfl, hb1⟩
  have HB1 := Lib.hid hb1
  clear hc hb1 k0 k1 k2
  dsimp only
  cases hh : heldL L l with
  | false =>
    have HH := Lib.hid hh
    clear hh
    repeat (first | go_skip | go_guarded | go_step)
    go_ret
    exact ⟨by unfold safeC; rw [HH.out]; rfl, HBW.out.trans (HB1.out.mono HBW.out.size)⟩
  | true =>
    have HH := Lib.hid hh
    clear hh
    repeat (first | go_skip | go_guarded | go_step)
    go_loopw [3] (fun q wr => ∃ i : Nat, i ≤ n1 ∧ q = .int .i64 (i : Int) ∧ (L.take i).all (fun x => !x.1 || heldL L x.2.2) = true ∧ Below W.heap.size W wr) (fun q _ => n1 - (intOf q).toNat)
    case atStart => exact ⟨0, by omega, rfl, by simp, HB1.out⟩
    case round =>
      rename World => wr
      obtain ⟨i, hi, rfl, hal, hbr⟩ := hrel
      have HAL := Lib.hid hal
      have HBR := Lib.hid hbr
      clear hal hbr
      have e2 := HB.out.read HBR.out 2 rfl
      by_cases hlt : i < n1
      · have hci : (i : Int) < (n1 : Int) := by omega
        obtain ⟨b3, o3, g3, p3, l3, Ai, ni, ci, hA1, hb3, hx3, hd0, hd1, hd2, hrow⟩ := (HR1.out.below HBR.out).at_ hlt
        subst hA1
        have hni : ni ≤ 1000000 := by have := HK.out _ (List.mem_of_getElem? hx3); have := rdT_len hrow; dsimp only at *; omega
        have HX3 := Lib.hid hx3
        have hb3w : b3 < wr.heap.size := Nat.lt_of_lt_of_le hb3 HBR.out.size
        have HD := Lib.hid (show ∀ V, Below wr.heap.size wr V → V.cell? ⟨b3, o3 + i * 3, none⟩ = some (.bool g3) ∧ V.cell? ⟨b3, o3 + i * 3 + 1, none⟩ = some (nv p3) ∧ V.cell? ⟨b3, o3 + i * 3 + 2, none⟩ = some (.slice Ai ni ci) from fun V hV =>
          ⟨(hV.cell (p := ⟨b3, o3 + i * 3, none⟩) hb3w).trans hd0, (hV.cell (p := ⟨b3, o3 + i * 3 + 1, none⟩) hb3w).trans hd1, (hV.cell (p := ⟨b3, o3 + i * 3 + 2, none⟩) hb3w).trans hd2⟩)
        have HROW := Lib.hid (Rd.more hrow HBR.out.size)
        have HBX := Lib.hid (show ∀ V, Below wr.heap.size wr V → V.cell? ⟨w.heap.size, 0, none⟩ = some (nv p) ∧ V.cell? ⟨w.heap.size, 1, none⟩ = some (.slice A n c) ∧ V.cell? ⟨w.heap.size, 2, none⟩ = some (.slice (some ⟨b3, o3, none⟩) n1 c1) from fun V hV =>
          ⟨HB.out.read (HBR.out.trans (hV.mono HBR.out.size)) 0 rfl, HB.out.read (HBR.out.trans (hV.mono HBR.out.size)) 1 rfl, HB.out.read (HBR.out.trans (hV.mono HBR.out.size)) 2 rfl⟩)
        clear hx3 hd0 hd1 hd2 hrow hb3 hb3w
        cases g3 with
        | false =>
          have qa := fun q => (HBX.out (wr.drewN q) (belowDrewQ (Below.refl _ _) q)).2.2
          have qb := fun q => (HD.out (wr.drewN q) (belowDrewQ (Below.refl _ _) q)).1
          go_upto_region 6 with (fail)
          go_quiet (fail)
          repeat (first | go_skip | go_guarded | go_step)
          have hb9 := belowDrewQ HBR.out nq
          go_roundw
          case rel => exact ⟨i + 1, by omega, by go_num, all_upto HX3.out HAL.out rfl, hb9⟩
          case measure => simp [intOf]; omega
        | true =>
          cases hh3 : heldL L l3 with
          | false =>
            have HH3 := Lib.hid hh3
            clear hh3
            go_upto_region 6 with (fail)
            refine wp_region_held_drew (S := fun V => Below wr.heap.size wr V) (by kernel_rfl) ?_ (fun hHeld => ?_)
            · exact (Below.refl wr.heap.size wr).drew
            refine wpAnyH_take (i := 0) (oi := ?oid1) (v := ?vd1) ?hod1 (by kernel_rfl) ?hfd1 ?hrd1 ?hQd1 ?hyd1 hHeld ?restd1
            case hod1 => (simp only [List.getElem?_toArray, List.getElem?_cons_succ, List.getElem?_cons_zero]; exact rfl)
            case hfd1 => kernel_rfl
            case hrd1 => kernel_rfl
            case hQd1 => exact fun _ _ _ h => h
            case hyd1 =>
              refine Or.inl ⟨by rfl, ?_⟩
              intro V hSV
              go_simp
              (try with_reducible rfl)
            try simp only [Act.put, List.setIfInBounds_toArray, List.set_cons_zero, List.set_cons_succ]
            refine wpAnyH_take (i := 1) (oi := ?oid2) (v := ?vd2) ?hod2 (by kernel_rfl) ?hfd2 ?hrd2 ?hQd2 ?hyd2 hHeld ?restd2
            case hod2 => (simp only [List.getElem?_toArray, List.getElem?_cons_succ, List.getElem?_cons_zero]; exact rfl)
            case hfd2 => kernel_rfl
            case hrd2 => kernel_rfl
            case hQd2 => exact fun _ _ _ h => h
            case hyd2 =>
              refine Or.inl ⟨by rfl, ?_⟩
              intro V hSV
              obtain ⟨qx0, qx1, qx2⟩ := HBX.out V hSV
              go_simp
              (try with_reducible rfl)
            try simp only [Act.put, List.setIfInBounds_toArray, List.set_cons_zero, List.set_cons_succ]
            refine wpAnyH_take (i := 2) (oi := ?oid3) (v := ?vd3) ?hod3 (by kernel_rfl) ?hfd3 ?hrd3 ?hQd3 ?hyd3 hHeld ?restd3
            case hod3 => (simp only [List.getElem?_toArray, List.getElem?_cons_succ, List.getElem?_cons_zero]; exact rfl)
            case hfd3 => kernel_rfl
            case hrd3 => kernel_rfl
            case hQd3 => exact fun _ _ _ h => h
            case hyd3 =>
              refine Or.inl ⟨by rfl, ?_⟩
              intro V hSV
              go_simp
              (try with_reducible rfl)
            try simp only [Act.put, List.setIfInBounds_toArray, List.set_cons_zero, List.set_cons_succ]
            refine wpAnyH_take (i := 3) (oi := ?oid4) (v := ?vd4) ?hod4 (by kernel_rfl) ?hfd4 ?hrd4 ?hQd4 ?hyd4 hHeld ?restd4
            case hod4 => (simp only [List.getElem?_toArray, List.getElem?_cons_succ, List.getElem?_cons_zero]; exact rfl)
            case hfd4 => kernel_rfl
            case hrd4 => kernel_rfl
            case hQd4 => exact fun _ _ _ h => h
            case hyd4 =>
              refine Or.inl ⟨by rfl, ?_⟩
              intro V hSV
              go_simp
              (try with_reducible rfl)
            try simp only [Act.put, List.setIfInBounds_toArray, List.set_cons_zero, List.set_cons_succ]
            refine wpAnyH_take (i := 4) (oi := ?oid5) (v := ?vd5) ?hod5 (by kernel_rfl) ?hfd5 ?hrd5 ?hQd5 ?hyd5 hHeld ?restd5
            case hod5 => (simp only [List.getElem?_toArray, List.getElem?_cons_succ, List.getElem?_cons_zero]; exact rfl)
            case hfd5 => kernel_rfl
            case hrd5 => kernel_rfl
            case hQd5 => exact fun _ _ _ h => h
            case hyd5 =>
              refine Or.inl ⟨by rfl, ?_⟩
              intro V hSV
              go_simp
              (try with_reducible rfl)
            try simp only [Act.put, List.setIfInBounds_toArray, List.set_cons_zero, List.set_cons_succ]
            refine wpAnyH_take (i := 5) (oi := ?oid6) (v := ?vd6) ?hod6 (by kernel_rfl) ?hfd6 ?hrd6 ?hQd6 ?hyd6 hHeld ?restd6
            case hod6 => (simp only [List.getElem?_toArray, List.getElem?_cons_succ, List.getElem?_cons_zero]; exact rfl)
            case hfd6 => kernel_rfl
            case hrd6 => kernel_rfl
            case hQd6 => exact fun _ _ _ h => h
            case hyd6 =>
              refine Or.inl ⟨by rfl, ?_⟩
              intro V hSV
              have q0 := (HD.out V hSV).1
              go_simp
              (try with_reducible rfl)
            try simp only [Act.put, List.setIfInBounds_toArray, List.set_cons_zero, List.set_cons_succ]
            refine wpAnyH_take (i := 6) (oi := ?oid7) (v := ?vd7) ?hod7 (by kernel_rfl) ?hfd7 ?hrd7 ?hQd7 ?hyd7 hHeld ?restd7
            case hod7 => (simp only [List.getElem?_toArray, List.getElem?_cons_succ, List.getElem?_cons_zero]; exact rfl)
            case hfd7 => kernel_rfl
            case hrd7 => kernel_rfl
            case hQd7 => exact fun _ _ _ h => h
            case hyd7 =>
              refine Or.inl ⟨by rfl, ?_⟩
              intro V hSV
              go_simp
              (try with_reducible rfl)
            try simp only [Act.put, List.setIfInBounds_toArray, List.set_cons_zero, List.set_cons_succ]
            refine wpAnyH_take (i := 7) (oi := ?oid8) (v := ?vd8) ?hod8 (by kernel_rfl) ?hfd8 ?hrd8 ?hQd8 ?hyd8 hHeld ?restd8
            case hod8 => (simp only [List.getElem?_toArray, List.getElem?_cons_succ, List.getElem?_cons_zero]; exact rfl)
            case hfd8 => kernel_rfl
            case hrd8 => kernel_rfl
            case hQd8 => exact fun _ _ _ h => h
            case hyd8 =>
              refine Or.inl ⟨by rfl, ?_⟩
              intro V hSV
              obtain ⟨qx0, qx1, qx2⟩ := HBX.out V hSV
              go_simp
              (try with_reducible rfl)
            try simp only [Act.put, List.setIfInBounds_toArray, List.set_cons_zero, List.set_cons_succ]
            refine wpAnyH_take (i := 8) (oi := ?oid9) (v := ?vd9) ?hod9 (by kernel_rfl) ?hfd9 ?hrd9 ?hQd9 ?hyd9 hHeld ?restd9
            case hod9 => (simp only [List.getElem?_toArray, List.getElem?_cons_succ, List.getElem?_cons_zero]; exact rfl)
            case hfd9 => kernel_rfl
            case hrd9 => kernel_rfl
            case hQd9 => exact fun _ _ _ h => h
            case hyd9 =>
              refine Or.inl ⟨by rfl, ?_⟩
              intro V hSV
              go_simp
              (try with_reducible rfl)
            try simp only [Act.put, List.setIfInBounds_toArray, List.set_cons_zero, List.set_cons_succ]
            refine wpAnyH_take (i := 9) (oi := ?oid10) (v := ?vd10) ?hod10 (by kernel_rfl) ?hfd10 ?hrd10 ?hQd10 ?hyd10 hHeld ?restd10
            case hod10 => (simp only [List.getElem?_toArray, List.getElem?_cons_succ, List.getElem?_cons_zero]; exact rfl)
            case hfd10 => kernel_rfl
            case hrd10 => kernel_rfl
            case hQd10 => exact fun _ _ _ h => h
            case hyd10 =>
              refine Or.inl ⟨by rfl, ?_⟩
              intro V hSV
              obtain ⟨qx0, qx1, qx2⟩ := HBX.out V hSV
              go_simp
              (try with_reducible rfl)
            try simp only [Act.put, List.setIfInBounds_toArray, List.set_cons_zero, List.set_cons_succ]
            refine wpAnyH_take (i := 10) (oi := ?oid11) (v := ?vd11) ?hod11 (by kernel_rfl) ?hfd11 ?hrd11 ?hQd11 ?hyd11 hHeld ?restd11
            case hod11 => (simp only [List.getElem?_toArray, List.getElem?_cons_succ, List.getElem?_cons_zero]; exact rfl)
            case hfd11 => kernel_rfl
            case hrd11 => kernel_rfl
            case hQd11 => exact fun _ _ _ h => h
            case hyd11 =>
              refine Or.inl ⟨by rfl, ?_⟩
              intro V hSV
              go_simp
              (try with_reducible rfl)
            try simp only [Act.put, List.setIfInBounds_toArray, List.set_cons_zero, List.set_cons_succ]
            refine wpAnyH_take (i := 11) (oi := ?oid12) (v := ?vd12) ?hod12 (by kernel_rfl) ?hfd12 ?hrd12 ?hQd12 ?hyd12 hHeld ?restd12
            case hod12 => (simp only [List.getElem?_toArray, List.getElem?_cons_succ, List.getElem?_cons_zero]; exact rfl)
            case hfd12 => kernel_rfl
            case hrd12 => kernel_rfl
            case hQd12 => exact fun _ _ _ h => h
            case hyd12 =>
              refine Or.inl ⟨by rfl, ?_⟩
              intro V hSV
              go_simp
              (try with_reducible rfl)
            try simp only [Act.put, List.setIfInBounds_toArray, List.set_cons_zero, List.set_cons_succ]
            refine wpAnyH_take (i := 12) (oi := ?oid13) (v := ?vd13) ?hod13 (by kernel_rfl) ?hfd13 ?hrd13 ?hQd13 ?hyd13 hHeld ?restd13
            case hod13 => (simp only [List.getElem?_toArray, List.getElem?_cons_succ, List.getElem?_cons_zero]; exact rfl)
            case hfd13 => kernel_rfl
            case hrd13 => kernel_rfl
            case hQd13 => exact fun _ _ _ h => h
            case hyd13 =>
              refine Or.inl ⟨by rfl, ?_⟩
              intro V hSV
              go_simp
              (try with_reducible rfl)
            try simp only [Act.put, List.setIfInBounds_toArray, List.set_cons_zero, List.set_cons_succ]
            refine wpAnyH_take (i := 13) (oi := ?oid14) (v := ?vd14) ?hod14 (by kernel_rfl) ?hfd14 ?hrd14 ?hQd14 ?hyd14 hHeld ?restd14
            case hod14 => (simp only [List.getElem?_toArray, List.getElem?_cons_succ, List.getElem?_cons_zero]; exact rfl)
            case hfd14 => kernel_rfl
            case hrd14 => kernel_rfl
            case hQd14 => exact fun _ _ _ h => h
            case hyd14 =>
              refine Or.inl ⟨by rfl, ?_⟩
              intro V hSV
              have q1 := (HD.out V hSV).2.1
              have q2 := (HD.out V hSV).2.2
              go_simp
              (try with_reducible rfl)
            try simp only [Act.put, List.setIfInBounds_toArray, List.set_cons_zero, List.set_cons_succ]
            refine wpAnyH_ready (rs := [14]) (by kernel_rfl) (by simp) ?_
            refine AllReadyH.cons (o := ?od15) ?hod15 (fun K hK => ?kd15) ?md15
            case hod15 => (simp only [List.getElem?_toArray, List.getElem?_cons_succ, List.getElem?_cons_zero]; exact rfl)
            case kd15 =>
              go_simp
              refine (rHeld_any p A n c (some ⟨b3, o3, none⟩) n1 c1 R L p3 Ai ni ci l3 _ ((HR1.out.below (HBR.out.trans (Below.mono hHeld HBR.out.size))).more (Nat.le_trans HBR.out.size (Below.size hHeld))) (Rd.more (Rd.below HROW.out hHeld) (Below.size hHeld)) hn1 hni HK.out).mono ?_
              rintro e Vd15 ⟨rfl, hbd15⟩
              rw [HH3.out]
              (try dsimp only)
              refine hK.out _ _ ?_ (fun hHeld => ?_)
              · exact Below.trans hHeld (hbd15.mono (Below.size hHeld))
              clear hK K
              try simp only [Act.put, List.setIfInBounds_toArray, List.set_cons_zero, List.set_cons_succ]
              refine wpAnyH_take (i := 15) (oi := ?oid16) (v := .bool true) ?hod16 (by kernel_rfl) ?hfd16 ?hrd16 ?hQd16 ?hyd16 hHeld ?restd16
              case hod16 => (simp only [List.getElem?_toArray, List.getElem?_cons_succ, List.getElem?_cons_zero]; exact rfl)
              case hfd16 => kernel_rfl
              case hrd16 => kernel_rfl
              case hQd16 => exact fun _ _ _ h => h
              case hyd16 =>
                refine Or.inl ⟨by rfl, ?_⟩
                intro V hSV
                go_simp
                (try with_reducible rfl)
              try simp only [Act.put, List.setIfInBounds_toArray, List.set_cons_zero, List.set_cons_succ]
              refine wpAnyH_take (i := 16) (oi := ?oid17) (v := ?vd17) ?hod17 (by kernel_rfl) ?hfd17 ?hrd17 ?hQd17 ?hyd17 hHeld ?restd17
              case hod17 => (simp only [List.getElem?_toArray, List.getElem?_cons_succ, List.getElem?_cons_zero]; exact rfl)
              case hfd17 => kernel_rfl
              case hrd17 => kernel_rfl
              case hQd17 => exact fun _ _ _ h => h
              case hyd17 =>
                refine Or.inl ⟨by rfl, ?_⟩
                intro V hSV
                go_simp
                (try with_reducible rfl)
              try simp only [Act.put, List.setIfInBounds_toArray, List.set_cons_zero, List.set_cons_succ]
              refine wpAnyH_done (by kernel_rfl) ?_ _
              have hb9 := HBW.out.trans ((HBR.out.trans (Below.mono hHeld HBR.out.size)).mono HBW.out.size)
              repeat (first | go_skip | go_guarded | go_step)
              go_ret
              exact ⟨by unfold safeC; dsimp only; rw [all_at HX3.out (by simp [HH3.out])]; simp, hb9⟩
            exact AllReadyH.nil
          | true =>
            have HH3 := Lib.hid hh3
            clear hh3
            go_upto_region 6 with (fail)
            refine wp_region_held_drew (S := fun V => Below wr.heap.size wr V) (by kernel_rfl) ?_ (fun hHeld => ?_)
            · exact (Below.refl wr.heap.size wr).drew
            refine wpAnyH_take (i := 0) (oi := ?oid18) (v := ?vd18) ?hod18 (by kernel_rfl) ?hfd18 ?hrd18 ?hQd18 ?hyd18 hHeld ?restd18
            case hod18 => (simp only [List.getElem?_toArray, List.getElem?_cons_succ, List.getElem?_cons_zero]; exact rfl)
            case hfd18 => kernel_rfl
            case hrd18 => kernel_rfl
            case hQd18 => exact fun _ _ _ h => h
            case hyd18 =>
              refine Or.inl ⟨by rfl, ?_⟩
              intro V hSV
              go_simp
              (try with_reducible rfl)
            try simp only [Act.put, List.setIfInBounds_toArray, List.set_cons_zero, List.set_cons_succ]
            refine wpAnyH_take (i := 1) (oi := ?oid19) (v := ?vd19) ?hod19 (by kernel_rfl) ?hfd19 ?hrd19 ?hQd19 ?hyd19 hHeld ?restd19
            case hod19 => (simp only [List.getElem?_toArray, List.getElem?_cons_succ, List.getElem?_cons_zero]; exact rfl)
            case hfd19 => kernel_rfl
            case hrd19 => kernel_rfl
            case hQd19 => exact fun _ _ _ h => h
            case hyd19 =>
              refine Or.inl ⟨by rfl, ?_⟩
              intro V hSV
              obtain ⟨qx0, qx1, qx2⟩ := HBX.out V hSV
              go_simp
              (try with_reducible rfl)
            try simp only [Act.put, List.setIfInBounds_toArray, List.set_cons_zero, List.set_cons_succ]
            refine wpAnyH_take (i := 2) (oi := ?oid20) (v := ?vd20) ?hod20 (by kernel_rfl) ?hfd20 ?hrd20 ?hQd20 ?hyd20 hHeld ?restd20
            case hod20 => (simp only [List.getElem?_toArray, List.getElem?_cons_succ, List.getElem?_cons_zero]; exact rfl)
            case hfd20 => kernel_rfl
            case hrd20 => kernel_rfl
            case hQd20 => exact fun _ _ _ h => h
            case hyd20 =>
              refine Or.inl ⟨by rfl, ?_⟩
              intro V hSV
              go_simp
              (try with_reducible rfl)
            try simp only [Act.put, List.setIfInBounds_toArray, List.set_cons_zero, List.set_cons_succ]
            refine wpAnyH_take (i := 3) (oi := ?oid21) (v := ?vd21) ?hod21 (by kernel_rfl) ?hfd21 ?hrd21 ?hQd21 ?hyd21 hHeld ?restd21
            case hod21 => (simp only [List.getElem?_toArray, List.getElem?_cons_succ, List.getElem?_cons_zero]; exact rfl)
            case hfd21 => kernel_rfl
            case hrd21 => kernel_rfl
            case hQd21 => exact fun _ _ _ h => h
            case hyd21 =>
              refine Or.inl ⟨by rfl, ?_⟩
              intro V hSV
              go_simp
              (try with_reducible rfl)
            try simp only [Act.put, List.setIfInBounds_toArray, List.set_cons_zero, List.set_cons_succ]
            refine wpAnyH_take (i := 4) (oi := ?oid22) (v := ?vd22) ?hod22 (by kernel_rfl) ?hfd22 ?hrd22 ?hQd22 ?hyd22 hHeld ?restd22
            case hod22 => (simp only [List.getElem?_toArray, List.getElem?_cons_succ, List.getElem?_cons_zero]; exact rfl)
            case hfd22 => kernel_rfl
            case hrd22 => kernel_rfl
            case hQd22 => exact fun _ _ _ h => h
            case hyd22 =>
              refine Or.inl ⟨by rfl, ?_⟩
              intro V hSV
              go_simp
              (try with_reducible rfl)
            try simp only [Act.put, List.setIfInBounds_toArray, List.set_cons_zero, List.set_cons_succ]
            refine wpAnyH_take (i := 5) (oi := ?oid23) (v := ?vd23) ?hod23 (by kernel_rfl) ?hfd23 ?hrd23 ?hQd23 ?hyd23 hHeld ?restd23
            case hod23 => (simp only [List.getElem?_toArray, List.getElem?_cons_succ, List.getElem?_cons_zero]; exact rfl)
            case hfd23 => kernel_rfl
            case hrd23 => kernel_rfl
            case hQd23 => exact fun _ _ _ h => h
            case hyd23 =>
              refine Or.inl ⟨by rfl, ?_⟩
              intro V hSV
              have q0 := (HD.out V hSV).1
              go_simp
              (try with_reducible rfl)
            try simp only [Act.put, List.setIfInBounds_toArray, List.set_cons_zero, List.set_cons_succ]
            refine wpAnyH_take (i := 6) (oi := ?oid24) (v := ?vd24) ?hod24 (by kernel_rfl) ?hfd24 ?hrd24 ?hQd24 ?hyd24 hHeld ?restd24
            case hod24 => (simp only [List.getElem?_toArray, List.getElem?_cons_succ, List.getElem?_cons_zero]; exact rfl)
            case hfd24 => kernel_rfl
            case hrd24 => kernel_rfl
            case hQd24 => exact fun _ _ _ h => h
            case hyd24 =>
              refine Or.inl ⟨by rfl, ?_⟩
              intro V hSV
              go_simp
              (try with_reducible rfl)
            try simp only [Act.put, List.setIfInBounds_toArray, List.set_cons_zero, List.set_cons_succ]
            refine wpAnyH_take (i := 7) (oi := ?oid25) (v := ?vd25) ?hod25 (by kernel_rfl) ?hfd25 ?hrd25 ?hQd25 ?hyd25 hHeld ?restd25
            case hod25 => (simp only [List.getElem?_toArray, List.getElem?_cons_succ, List.getElem?_cons_zero]; exact rfl)
            case hfd25 => kernel_rfl
            case hrd25 => kernel_rfl
            case hQd25 => exact fun _ _ _ h => h
            case hyd25 =>
              refine Or.inl ⟨by rfl, ?_⟩
              intro V hSV
              obtain ⟨qx0, qx1, qx2⟩ := HBX.out V hSV
              go_simp
              (try with_reducible rfl)
            try simp only [Act.put, List.setIfInBounds_toArray, List.set_cons_zero, List.set_cons_succ]
            refine wpAnyH_take (i := 8) (oi := ?oid26) (v := ?vd26) ?hod26 (by kernel_rfl) ?hfd26 ?hrd26 ?hQd26 ?hyd26 hHeld ?restd26
            case hod26 => (simp only [List.getElem?_toArray, List.getElem?_cons_succ, List.getElem?_cons_zero]; exact rfl)
            case hfd26 => kernel_rfl
            case hrd26 => kernel_rfl
            case hQd26 => exact fun _ _ _ h => h
            case hyd26 =>
              refine Or.inl ⟨by rfl, ?_⟩
              intro V hSV
              go_simp
              (try with_reducible rfl)
            try simp only [Act.put, List.setIfInBounds_toArray, List.set_cons_zero, List.set_cons_succ]
            refine wpAnyH_take (i := 9) (oi := ?oid27) (v := ?vd27) ?hod27 (by kernel_rfl) ?hfd27 ?hrd27 ?hQd27 ?hyd27 hHeld ?restd27
            case hod27 => (simp only [List.getElem?_toArray, List.getElem?_cons_succ, List.getElem?_cons_zero]; exact rfl)
            case hfd27 => kernel_rfl
            case hrd27 => kernel_rfl
            case hQd27 => exact fun _ _ _ h => h
            case hyd27 =>
              refine Or.inl ⟨by rfl, ?_⟩
              intro V hSV
              obtain ⟨qx0, qx1, qx2⟩ := HBX.out V hSV
              go_simp
              (try with_reducible rfl)
            try simp only [Act.put, List.setIfInBounds_toArray, List.set_cons_zero, List.set_cons_succ]
            refine wpAnyH_take (i := 10) (oi := ?oid28) (v := ?vd28) ?hod28 (by kernel_rfl) ?hfd28 ?hrd28 ?hQd28 ?hyd28 hHeld ?restd28
            case hod28 => (simp only [List.getElem?_toArray, List.getElem?_cons_succ, List.getElem?_cons_zero]; exact rfl)
            case hfd28 => kernel_rfl
            case hrd28 => kernel_rfl
            case hQd28 => exact fun _ _ _ h => h
            case hyd28 =>
              refine Or.inl ⟨by rfl, ?_⟩
              intro V hSV
              go_simp
              (try with_reducible rfl)
            try simp only [Act.put, List.setIfInBounds_toArray, List.set_cons_zero, List.set_cons_succ]
            refine wpAnyH_take (i := 11) (oi := ?oid29) (v := ?vd29) ?hod29 (by kernel_rfl) ?hfd29 ?hrd29 ?hQd29 ?hyd29 hHeld ?restd29
            case hod29 => (simp only [List.getElem?_toArray, List.getElem?_cons_succ, List.getElem?_cons_zero]; exact rfl)
            case hfd29 => kernel_rfl
            case hrd29 => kernel_rfl
            case hQd29 => exact fun _ _ _ h => h
            case hyd29 =>
              refine Or.inl ⟨by rfl, ?_⟩
              intro V hSV
              go_simp
              (try with_reducible rfl)
            try simp only [Act.put, List.setIfInBounds_toArray, List.set_cons_zero, List.set_cons_succ]
            refine wpAnyH_take (i := 12) (oi := ?oid30) (v := ?vd30) ?hod30 (by kernel_rfl) ?hfd30 ?hrd30 ?hQd30 ?hyd30 hHeld ?restd30
            case hod30 => (simp only [List.getElem?_toArray, List.getElem?_cons_succ, List.getElem?_cons_zero]; exact rfl)
            case hfd30 => kernel_rfl
            case hrd30 => kernel_rfl
            case hQd30 => exact fun _ _ _ h => h
            case hyd30 =>
              refine Or.inl ⟨by rfl, ?_⟩
              intro V hSV
              go_simp
              (try with_reducible rfl)
            try simp only [Act.put, List.setIfInBounds_toArray, List.set_cons_zero, List.set_cons_succ]
            refine wpAnyH_take (i := 13) (oi := ?oid31) (v := ?vd31) ?hod31 (by kernel_rfl) ?hfd31 ?hrd31 ?hQd31 ?hyd31 hHeld ?restd31
            case hod31 => (simp only [List.getElem?_toArray, List.getElem?_cons_succ, List.getElem?_cons_zero]; exact rfl)
            case hfd31 => kernel_rfl
            case hrd31 => kernel_rfl
            case hQd31 => exact fun _ _ _ h => h
            case hyd31 =>
              refine Or.inl ⟨by rfl, ?_⟩
              intro V hSV
              have q1 := (HD.out V hSV).2.1
              have q2 := (HD.out V hSV).2.2
              go_simp
              (try with_reducible rfl)
            try simp only [Act.put, List.setIfInBounds_toArray, List.set_cons_zero, List.set_cons_succ]
            refine wpAnyH_ready (rs := [14]) (by kernel_rfl) (by simp) ?_
            refine AllReadyH.cons (o := ?od32) ?hod32 (fun K hK => ?kd32) ?md32
            case hod32 => (simp only [List.getElem?_toArray, List.getElem?_cons_succ, List.getElem?_cons_zero]; exact rfl)
            case kd32 =>
              go_simp
              refine (rHeld_any p A n c (some ⟨b3, o3, none⟩) n1 c1 R L p3 Ai ni ci l3 _ ((HR1.out.below (HBR.out.trans (Below.mono hHeld HBR.out.size))).more (Nat.le_trans HBR.out.size (Below.size hHeld))) (Rd.more (Rd.below HROW.out hHeld) (Below.size hHeld)) hn1 hni HK.out).mono ?_
              rintro e Vd32 ⟨rfl, hbd32⟩
              rw [HH3.out]
              (try dsimp only)
              refine hK.out _ _ ?_ (fun hHeld => ?_)
              · exact Below.trans hHeld (hbd32.mono (Below.size hHeld))
              clear hK K
              try simp only [Act.put, List.setIfInBounds_toArray, List.set_cons_zero, List.set_cons_succ]
              refine wpAnyH_take (i := 15) (oi := ?oid33) (v := .bool false) ?hod33 (by kernel_rfl) ?hfd33 ?hrd33 ?hQd33 ?hyd33 hHeld ?restd33
              case hod33 => (simp only [List.getElem?_toArray, List.getElem?_cons_succ, List.getElem?_cons_zero]; exact rfl)
              case hfd33 => kernel_rfl
              case hrd33 => kernel_rfl
              case hQd33 => exact fun _ _ _ h => h
              case hyd33 =>
                refine Or.inl ⟨by rfl, ?_⟩
                intro V hSV
                go_simp
                (try with_reducible rfl)
              try simp only [Act.put, List.setIfInBounds_toArray, List.set_cons_zero, List.set_cons_succ]
              refine wpAnyH_take (i := 16) (oi := ?oid34) (v := ?vd34) ?hod34 (by kernel_rfl) ?hfd34 ?hrd34 ?hQd34 ?hyd34 hHeld ?restd34
              case hod34 => (simp only [List.getElem?_toArray, List.getElem?_cons_succ, List.getElem?_cons_zero]; exact rfl)
              case hfd34 => kernel_rfl
              case hrd34 => kernel_rfl
              case hQd34 => exact fun _ _ _ h => h
              case hyd34 =>
                refine Or.inl ⟨by rfl, ?_⟩
                intro V hSV
                go_simp
                (try with_reducible rfl)
              try simp only [Act.put, List.setIfInBounds_toArray, List.set_cons_zero, List.set_cons_succ]
              refine wpAnyH_done (by kernel_rfl) ?_ _
              have hb9 := HBR.out.trans (Below.mono hHeld HBR.out.size)
              repeat (first | go_skip | go_guarded | go_step)
              go_roundw
              case rel => exact ⟨i + 1, by omega, by go_num, all_upto HX3.out HAL.out (by simp [HH3.out]), hb9⟩
              case measure => simp [intOf]; omega
            exact AllReadyH.nil
      · obtain rfl : i = n1 := by omega
        have hci : ¬ (i : Int) < (i : Int) := by omega
        repeat (first | go_skip | go_guarded | go_step)
        go_ret
        exact ⟨by unfold safeC; dsimp only; rw [HH.out, all_whole (by have := HL1.out; omega) HAL.out]; rfl, HBW.out.trans (HBR.out.mono HBW.out.size)⟩
end Go.Proofs.YtfmghkplafploaaGreat

