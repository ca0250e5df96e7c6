/- Texts, packed: StJ -/
import Derived.Test.YtfmghkplafploaaGreatPzG
set_option linter.unusedVariables false
set_option linter.unusedSimpArgs false
namespace Go.Proofs.YtfmghkplafploaaGreat
open Go Go.RowKit

def BadE (E : List Ed) (e : Ed) : Prop := e.2.2 = true ∧ Way E e.2.1 e.1
set_option maxRecDepth 100000 in
set_option maxHeartbeats 8000000 in
theorem round_any (A : Option Addr) (n c : Nat) (Q : List ClA) (C : List Cl) (w : World) (h : RdCs w w.heap.size A n Q C) (hS : Slim C) (hn : n ≤ 100000) :
    Calls Tryz.prog 13 #[.slice A n c] w fun e w' => ∃ bb : Bool, e = .returned (.bool bb) ∧ (bb = true ↔ Rounds (edL C)) ∧ Below w.heap.size w w' := by
  have HC := Lib.hid h
  have HSL := Lib.hid hS
  clear h hS
  go_enter Tryz.func13, Tryz.ntmps13
  repeat (first | go_skip | go_guarded | go_step)
  go_loopw [3] (fun q wr => ∃ (i : Nat), i ≤ n ∧ q = .int .i64 (i : Int) ∧ (∀ e ∈ edL (C.take i), ¬ BadE (edL C) e) ∧ Below w.heap.size w wr) (fun q _ => n - (intOf q).toNat)
  case atStart => exact ⟨0, by omega, rfl, by simp [edL], Below.refl _ _⟩
  case round =>
    rename World => wr
    obtain ⟨i, hi, rfl, hno, hbr⟩ := hrel
    have HNO := Lib.hid hno
    have HBR := Lib.hid hbr
    clear hno hbr
    by_cases hlt : i < n
    · have hci : (i : Int) < (n : Int) := by omega
      obtain ⟨bb, o, p, l, L, A0, n0, c0, A1, n1, c1, R, hA, hb, hx, hq, hd0, hd1, hd2, hrt, hrl⟩ := HC.out.at_ hlt
      have HD := Lib.hid (show ∀ V, Below w.heap.size w V → V.cell? ⟨bb, o + i * 3, none⟩ = some (nv p) ∧ V.cell? ⟨bb, o + i * 3 + 2, none⟩ = some (.slice A1 n1 c1) from fun V hV => ⟨(hV.cell (p := ⟨bb, o + i * 3, none⟩) hb).trans hd0, (hV.cell (p := ⟨bb, o + i * 3 + 2, none⟩) hb).trans hd2⟩)
      have hn1 : n1 ≤ 1000000 := by have := (HSL.out _ (List.mem_of_getElem? hx)).2.1; have := hrl.lenL; dsimp only at *; omega
      have HX := Lib.hid hx
      have HRL := Lib.hid hrl
      have HES := Lib.hid (edL_step hx)
      subst hA
      clear hx hq hrt hrl hd0 hd1 hd2 hb
      repeat (first | go_skip | go_guarded | go_step)
      go_loopw [4] (fun q w4 => ∃ (k : Nat), k ≤ n1 ∧ q = .int .i64 (k : Int) ∧ (∀ e ∈ edL (C.take i) ++ (edgC ((p, l), L)).take k, ¬ BadE (edL C) e) ∧ Below w.heap.size w w4) (fun q _ => n1 - (intOf q).toNat)
      case atStart => exact ⟨0, by omega, rfl, by rw [List.take_zero, List.append_nil]; exact HNO.out, HBR.out⟩
      case round =>
        clear HNO HBR
        rename World => w4
        obtain ⟨k, hk, rfl, hno, hb4⟩ := hrel
        have HNO := Lib.hid hno
        have HB4 := Lib.hid hb4
        obtain ⟨e0, e2⟩ := HD.out w4 hb4
        clear hno hb4
        by_cases hltk : k < n1
        · have hki : (k : Int) < (n1 : Int) := by omega
          obtain ⟨b3, o3, g3, p3, l3, Ai, nj, ci, hA1, hb3, hx3, hr3, he0, he1, he2, hrow3⟩ := HRL.out.at2 hltk
          have HT := Lib.hid (show ∀ V, Below w4.heap.size w4 V → V.cell? ⟨bb, o + i * 3, none⟩ = some (nv p) ∧ V.cell? ⟨bb, o + i * 3 + 2, none⟩ = some (.slice A1 n1 c1) ∧ V.cell? ⟨b3, o3 + k * 3, none⟩ = some (.bool g3) ∧ V.cell? ⟨b3, o3 + k * 3 + 1, none⟩ = some (nv p3) from fun V hV => by
            have hV2 := HB4.out.trans (hV.mono HB4.out.size)
            exact ⟨(HD.out V hV2).1, (HD.out V hV2).2, (hV2.cell (p := ⟨b3, o3 + k * 3, none⟩) hb3).trans he0, (hV2.cell (p := ⟨b3, o3 + k * 3 + 1, none⟩) hb3).trans he1⟩)
          have HX3 := Lib.hid (edC_at (x := ((p, l), L)) hx3)
          have HE := Lib.hid (show (p, p3, g3) ∈ edL C from edL_mem HX.out hx3)
          have HCALL := Lib.hid (show ∀ V, Below w4.heap.size w4 V → Calls Tryz.prog 30 #[.slice (some ⟨bb, o, none⟩) n c, nv p3, nv p] V fun e w' => ∃ b2 : Bool, e = .returned (.bool b2) ∧ (b2 = true ↔ Way (edL C) p3 p) ∧ Below V.heap.size V w' from fun V hV => by
            have hV2 := HB4.out.trans (hV.mono HB4.out.size)
            exact leads_any (some ⟨bb, o, none⟩) n c Q C p3 p V ((HC.out.below hV2).more hV2.size) HSL.out hn)
          subst hA1
          clear hx3 hr3 he0 he1 he2 hrow3 hb3
          cases g3 with
          | false =>
            go_upto_region 7 with (fail)
            clear e0 e2
            refine wp_region_held_drew (S := fun V => Below w4.heap.size w4 V) (by kernel_rfl) ?_ (fun hHeld => ?_)
            · exact (Below.refl w4.heap.size w4).drew
            refine wpAnyH_take (i := 0) (oi := ?oid1) (v := ?vd1) ?hod1 (by kernel_rfl) ?hfd1 ?hrd1 ?hQd1 ?hyd1 hHeld ?restd1
            case hod1 => (simp only [List.getElem?_toArray, List.getElem?_cons_succ, List.getElem?_cons_zero]; exact rfl)
            case hfd1 => kernel_rfl
            case hrd1 => kernel_rfl
            case hQd1 => exact fun _ _ _ h => h
            case hyd1 =>
              refine Or.inl ⟨by rfl, ?_⟩
              intro V hSV
              go_simp
              (try with_reducible rfl)
            try simp only [Act.put, List.setIfInBounds_toArray, List.set_cons_zero, List.set_cons_succ]
            refine wpAnyH_take (i := 1) (oi := ?oid2) (v := ?vd2) ?hod2 (by kernel_rfl) ?hfd2 ?hrd2 ?hQd2 ?hyd2 hHeld ?restd2
            case hod2 => (simp only [List.getElem?_toArray, List.getElem?_cons_succ, List.getElem?_cons_zero]; exact rfl)
            case hfd2 => kernel_rfl
            case hrd2 => kernel_rfl
            case hQd2 => exact fun _ _ _ h => h
            case hyd2 =>
              refine Or.inl ⟨by rfl, ?_⟩
              intro V hSV
              go_simp
              (try with_reducible rfl)
            try simp only [Act.put, List.setIfInBounds_toArray, List.set_cons_zero, List.set_cons_succ]
            refine wpAnyH_take (i := 2) (oi := ?oid3) (v := ?vd3) ?hod3 (by kernel_rfl) ?hfd3 ?hrd3 ?hQd3 ?hyd3 hHeld ?restd3
            case hod3 => (simp only [List.getElem?_toArray, List.getElem?_cons_succ, List.getElem?_cons_zero]; exact rfl)
            case hfd3 => kernel_rfl
            case hrd3 => kernel_rfl
            case hQd3 => exact fun _ _ _ h => h
            case hyd3 =>
              refine Or.inl ⟨by rfl, ?_⟩
              intro V hSV
              go_simp
              (try with_reducible rfl)
            try simp only [Act.put, List.setIfInBounds_toArray, List.set_cons_zero, List.set_cons_succ]
            refine wpAnyH_take (i := 3) (oi := ?oid4) (v := ?vd4) ?hod4 (by kernel_rfl) ?hfd4 ?hrd4 ?hQd4 ?hyd4 hHeld ?restd4
            case hod4 => (simp only [List.getElem?_toArray, List.getElem?_cons_succ, List.getElem?_cons_zero]; exact rfl)
            case hfd4 => kernel_rfl
            case hrd4 => kernel_rfl
            case hQd4 => exact fun _ _ _ h => h
            case hyd4 =>
              refine Or.inl ⟨by rfl, ?_⟩
              intro V hSV
              go_simp
              (try with_reducible rfl)
            try simp only [Act.put, List.setIfInBounds_toArray, List.set_cons_zero, List.set_cons_succ]
            refine wpAnyH_take (i := 4) (oi := ?oid5) (v := ?vd5) ?hod5 (by kernel_rfl) ?hfd5 ?hrd5 ?hQd5 ?hyd5 hHeld ?restd5
            case hod5 => (simp only [List.getElem?_toArray, List.getElem?_cons_succ, List.getElem?_cons_zero]; exact rfl)
            case hfd5 => kernel_rfl
            case hrd5 => kernel_rfl
            case hQd5 => exact fun _ _ _ h => h
            case hyd5 =>
              refine Or.inl ⟨by rfl, ?_⟩
              intro V hSV
              obtain ⟨e0, e1, e2, e3⟩ := HT.out V hSV
              go_simp
              (try with_reducible rfl)
            try simp only [Act.put, List.setIfInBounds_toArray, List.set_cons_zero, List.set_cons_succ]
            refine wpAnyH_take (i := 5) (oi := ?oid6) (v := ?vd6) ?hod6 (by kernel_rfl) ?hfd6 ?hrd6 ?hQd6 ?hyd6 hHeld ?restd6
            case hod6 => (simp only [List.getElem?_toArray, List.getElem?_cons_succ, List.getElem?_cons_zero]; exact rfl)
            case hfd6 => kernel_rfl
            case hrd6 => kernel_rfl
            case hQd6 => exact fun _ _ _ h => h
            case hyd6 =>
              refine Or.inl ⟨by rfl, ?_⟩
              intro V hSV
              go_simp
              (try with_reducible rfl)
            try simp only [Act.put, List.setIfInBounds_toArray, List.set_cons_zero, List.set_cons_succ]
            refine wpAnyH_take (i := 6) (oi := ?oid7) (v := ?vd7) ?hod7 (by kernel_rfl) ?hfd7 ?hrd7 ?hQd7 ?hyd7 hHeld ?restd7
            case hod7 => (simp only [List.getElem?_toArray, List.getElem?_cons_succ, List.getElem?_cons_zero]; exact rfl)
            case hfd7 => kernel_rfl
            case hrd7 => kernel_rfl
            case hQd7 => exact fun _ _ _ h => h
            case hyd7 =>
              refine Or.inl ⟨by rfl, ?_⟩
              intro V hSV
              go_simp
              (try with_reducible rfl)
            try simp only [Act.put, List.setIfInBounds_toArray, List.set_cons_zero, List.set_cons_succ]
            refine wpAnyH_take (i := 7) (oi := ?oid8) (v := ?vd8) ?hod8 (by kernel_rfl) ?hfd8 ?hrd8 ?hQd8 ?hyd8 hHeld ?restd8
            case hod8 => (simp only [List.getElem?_toArray, List.getElem?_cons_succ, List.getElem?_cons_zero]; exact rfl)
            case hfd8 => kernel_rfl
            case hrd8 => kernel_rfl
            case hQd8 => exact fun _ _ _ h => h
            case hyd8 =>
              refine Or.inl ⟨by rfl, ?_⟩
              intro V hSV
              go_simp
              (try with_reducible rfl)
            try simp only [Act.put, List.setIfInBounds_toArray, List.set_cons_zero, List.set_cons_succ]
            refine wpAnyH_take (i := 8) (oi := ?oid9) (v := ?vd9) ?hod9 (by kernel_rfl) ?hfd9 ?hrd9 ?hQd9 ?hyd9 hHeld ?restd9
            case hod9 => (simp only [List.getElem?_toArray, List.getElem?_cons_succ, List.getElem?_cons_zero]; exact rfl)
            case hfd9 => kernel_rfl
            case hrd9 => kernel_rfl
            case hQd9 => exact fun _ _ _ h => h
            case hyd9 =>
              refine Or.inl ⟨by rfl, ?_⟩
              intro V hSV
              obtain ⟨e0, e1, e2, e3⟩ := HT.out V hSV
              go_simp
              (try with_reducible rfl)
            try simp only [Act.put, List.setIfInBounds_toArray, List.set_cons_zero, List.set_cons_succ]
            refine wpAnyH_take (i := 9) (oi := ?oid10) (v := ?vd10) ?hod10 (by kernel_rfl) ?hfd10 ?hrd10 ?hQd10 ?hyd10 hHeld ?restd10
            case hod10 => (simp only [List.getElem?_toArray, List.getElem?_cons_succ, List.getElem?_cons_zero]; exact rfl)
            case hfd10 => kernel_rfl
            case hrd10 => kernel_rfl
            case hQd10 => exact fun _ _ _ h => h
            case hyd10 =>
              refine Or.inl ⟨by rfl, ?_⟩
              intro V hSV
              go_simp
              (try with_reducible rfl)
            try simp only [Act.put, List.setIfInBounds_toArray, List.set_cons_zero, List.set_cons_succ]
            refine wpAnyH_take (i := 10) (oi := ?oid11) (v := undef) ?hod11 (by kernel_rfl) ?hfd11 ?hrd11 ?hQd11 ?hyd11 hHeld ?restd11
            case hod11 => (simp only [List.getElem?_toArray, List.getElem?_cons_succ, List.getElem?_cons_zero]; exact rfl)
            case hfd11 => kernel_rfl
            case hrd11 => kernel_rfl
            case hQd11 => exact fun _ _ _ h => h
            case hyd11 =>
              exact Or.inr ⟨by rfl, rfl⟩
            try simp only [Act.put, List.setIfInBounds_toArray, List.set_cons_zero, List.set_cons_succ]
            refine wpAnyH_take (i := 11) (oi := ?oid12) (v := undef) ?hod12 (by kernel_rfl) ?hfd12 ?hrd12 ?hQd12 ?hyd12 hHeld ?restd12
            case hod12 => (simp only [List.getElem?_toArray, List.getElem?_cons_succ, List.getElem?_cons_zero]; exact rfl)
            case hfd12 => kernel_rfl
            case hrd12 => kernel_rfl
            case hQd12 => exact fun _ _ _ h => h
            case hyd12 =>
              exact Or.inr ⟨by rfl, rfl⟩
            try simp only [Act.put, List.setIfInBounds_toArray, List.set_cons_zero, List.set_cons_succ]
            refine wpAnyH_take (i := 12) (oi := ?oid13) (v := undef) ?hod13 (by kernel_rfl) ?hfd13 ?hrd13 ?hQd13 ?hyd13 hHeld ?restd13
            case hod13 => (simp only [List.getElem?_toArray, List.getElem?_cons_succ, List.getElem?_cons_zero]; exact rfl)
            case hfd13 => kernel_rfl
            case hrd13 => kernel_rfl
            case hQd13 => exact fun _ _ _ h => h
            case hyd13 =>
              exact Or.inr ⟨by rfl, rfl⟩
            try simp only [Act.put, List.setIfInBounds_toArray, List.set_cons_zero, List.set_cons_succ]
            refine wpAnyH_take (i := 13) (oi := ?oid14) (v := undef) ?hod14 (by kernel_rfl) ?hfd14 ?hrd14 ?hQd14 ?hyd14 hHeld ?restd14
            case hod14 => (simp only [List.getElem?_toArray, List.getElem?_cons_succ, List.getElem?_cons_zero]; exact rfl)
            case hfd14 => kernel_rfl
            case hrd14 => kernel_rfl
            case hQd14 => exact fun _ _ _ h => h
            case hyd14 =>
              exact Or.inr ⟨by rfl, rfl⟩
            try simp only [Act.put, List.setIfInBounds_toArray, List.set_cons_zero, List.set_cons_succ]
            refine wpAnyH_take (i := 14) (oi := ?oid15) (v := undef) ?hod15 (by kernel_rfl) ?hfd15 ?hrd15 ?hQd15 ?hyd15 hHeld ?restd15
            case hod15 => (simp only [List.getElem?_toArray, List.getElem?_cons_succ, List.getElem?_cons_zero]; exact rfl)
            case hfd15 => kernel_rfl
            case hrd15 => kernel_rfl
            case hQd15 => exact fun _ _ _ h => h
            case hyd15 =>
              exact Or.inr ⟨by rfl, rfl⟩
            try simp only [Act.put, List.setIfInBounds_toArray, List.set_cons_zero, List.set_cons_succ]
            refine wpAnyH_take (i := 15) (oi := ?oid16) (v := undef) ?hod16 (by kernel_rfl) ?hfd16 ?hrd16 ?hQd16 ?hyd16 hHeld ?restd16
            case hod16 => (simp only [List.getElem?_toArray, List.getElem?_cons_succ, List.getElem?_cons_zero]; exact rfl)
            case hfd16 => kernel_rfl
            case hrd16 => kernel_rfl
            case hQd16 => exact fun _ _ _ h => h
            case hyd16 =>
              exact Or.inr ⟨by rfl, rfl⟩
            try simp only [Act.put, List.setIfInBounds_toArray, List.set_cons_zero, List.set_cons_succ]
            refine wpAnyH_take (i := 16) (oi := ?oid17) (v := undef) ?hod17 (by kernel_rfl) ?hfd17 ?hrd17 ?hQd17 ?hyd17 hHeld ?restd17
            case hod17 => (simp only [List.getElem?_toArray, List.getElem?_cons_succ, List.getElem?_cons_zero]; exact rfl)
            case hfd17 => kernel_rfl
            case hrd17 => kernel_rfl
            case hQd17 => exact fun _ _ _ h => h
            case hyd17 =>
              exact Or.inr ⟨by rfl, rfl⟩
            try simp only [Act.put, List.setIfInBounds_toArray, List.set_cons_zero, List.set_cons_succ]
            refine wpAnyH_take (i := 17) (oi := ?oid18) (v := undef) ?hod18 (by kernel_rfl) ?hfd18 ?hrd18 ?hQd18 ?hyd18 hHeld ?restd18
            case hod18 => (simp only [List.getElem?_toArray, List.getElem?_cons_succ, List.getElem?_cons_zero]; exact rfl)
            case hfd18 => kernel_rfl
            case hrd18 => kernel_rfl
            case hQd18 => exact fun _ _ _ h => h
            case hyd18 =>
              exact Or.inr ⟨by rfl, rfl⟩
            try simp only [Act.put, List.setIfInBounds_toArray, List.set_cons_zero, List.set_cons_succ]
            refine wpAnyH_take (i := 18) (oi := ?oid19) (v := undef) ?hod19 (by kernel_rfl) ?hfd19 ?hrd19 ?hQd19 ?hyd19 hHeld ?restd19
            case hod19 => (simp only [List.getElem?_toArray, List.getElem?_cons_succ, List.getElem?_cons_zero]; exact rfl)
            case hfd19 => kernel_rfl
            case hrd19 => kernel_rfl
            case hQd19 => exact fun _ _ _ h => h
            case hyd19 =>
              exact Or.inr ⟨by rfl, rfl⟩
            try simp only [Act.put, List.setIfInBounds_toArray, List.set_cons_zero, List.set_cons_succ]
            refine wpAnyH_take (i := 19) (oi := ?oid20) (v := undef) ?hod20 (by kernel_rfl) ?hfd20 ?hrd20 ?hQd20 ?hyd20 hHeld ?restd20
            case hod20 => (simp only [List.getElem?_toArray, List.getElem?_cons_succ, List.getElem?_cons_zero]; exact rfl)
            case hfd20 => kernel_rfl
            case hrd20 => kernel_rfl
            case hQd20 => exact fun _ _ _ h => h
            case hyd20 =>
              exact Or.inr ⟨by rfl, rfl⟩
            try simp only [Act.put, List.setIfInBounds_toArray, List.set_cons_zero, List.set_cons_succ]
            refine wpAnyH_take (i := 20) (oi := ?oid21) (v := undef) ?hod21 (by kernel_rfl) ?hfd21 ?hrd21 ?hQd21 ?hyd21 hHeld ?restd21
            case hod21 => (simp only [List.getElem?_toArray, List.getElem?_cons_succ, List.getElem?_cons_zero]; exact rfl)
            case hfd21 => kernel_rfl
            case hrd21 => kernel_rfl
            case hQd21 => exact fun _ _ _ h => h
            case hyd21 =>
              exact Or.inr ⟨by rfl, rfl⟩
            try simp only [Act.put, List.setIfInBounds_toArray, List.set_cons_zero, List.set_cons_succ]
            refine wpAnyH_take (i := 21) (oi := ?oid22) (v := undef) ?hod22 (by kernel_rfl) ?hfd22 ?hrd22 ?hQd22 ?hyd22 hHeld ?restd22
            case hod22 => (simp only [List.getElem?_toArray, List.getElem?_cons_succ, List.getElem?_cons_zero]; exact rfl)
            case hfd22 => kernel_rfl
            case hrd22 => kernel_rfl
            case hQd22 => exact fun _ _ _ h => h
            case hyd22 =>
              exact Or.inr ⟨by rfl, rfl⟩
            try simp only [Act.put, List.setIfInBounds_toArray, List.set_cons_zero, List.set_cons_succ]
            refine wpAnyH_take (i := 22) (oi := ?oid23) (v := undef) ?hod23 (by kernel_rfl) ?hfd23 ?hrd23 ?hQd23 ?hyd23 hHeld ?restd23
            case hod23 => (simp only [List.getElem?_toArray, List.getElem?_cons_succ, List.getElem?_cons_zero]; exact rfl)
            case hfd23 => kernel_rfl
            case hrd23 => kernel_rfl
            case hQd23 => exact fun _ _ _ h => h
            case hyd23 =>
              exact Or.inr ⟨by rfl, rfl⟩
            try simp only [Act.put, List.setIfInBounds_toArray, List.set_cons_zero, List.set_cons_succ]
            refine wpAnyH_take (i := 23) (oi := ?oid24) (v := undef) ?hod24 (by kernel_rfl) ?hfd24 ?hrd24 ?hQd24 ?hyd24 hHeld ?restd24
            case hod24 => (simp only [List.getElem?_toArray, List.getElem?_cons_succ, List.getElem?_cons_zero]; exact rfl)
            case hfd24 => kernel_rfl
            case hrd24 => kernel_rfl
            case hQd24 => exact fun _ _ _ h => h
            case hyd24 =>
              exact Or.inr ⟨by rfl, rfl⟩
            try simp only [Act.put, List.setIfInBounds_toArray, List.set_cons_zero, List.set_cons_succ]
            refine wpAnyH_take (i := 24) (oi := ?oid25) (v := undef) ?hod25 (by kernel_rfl) ?hfd25 ?hrd25 ?hQd25 ?hyd25 hHeld ?restd25
            case hod25 => (simp only [List.getElem?_toArray, List.getElem?_cons_succ, List.getElem?_cons_zero]; exact rfl)
            case hfd25 => kernel_rfl
            case hrd25 => kernel_rfl
            case hQd25 => exact fun _ _ _ h => h
            case hyd25 =>
              exact Or.inr ⟨by rfl, rfl⟩
            try simp only [Act.put, List.setIfInBounds_toArray, List.set_cons_zero, List.set_cons_succ]
            refine wpAnyH_take (i := 25) (oi := ?oid26) (v := undef) ?hod26 (by kernel_rfl) ?hfd26 ?hrd26 ?hQd26 ?hyd26 hHeld ?restd26
            case hod26 => (simp only [List.getElem?_toArray, List.getElem?_cons_succ, List.getElem?_cons_zero]; exact rfl)
            case hfd26 => kernel_rfl
            case hrd26 => kernel_rfl
            case hQd26 => exact fun _ _ _ h => h
            case hyd26 =>
              exact Or.inr ⟨by rfl, rfl⟩
            try simp only [Act.put, List.setIfInBounds_toArray, List.set_cons_zero, List.set_cons_succ]
            refine wpAnyH_take (i := 26) (oi := ?oid27) (v := undef) ?hod27 (by kernel_rfl) ?hfd27 ?hrd27 ?hQd27 ?hyd27 hHeld ?restd27
            case hod27 => (simp only [List.getElem?_toArray, List.getElem?_cons_succ, List.getElem?_cons_zero]; exact rfl)
            case hfd27 => kernel_rfl
            case hrd27 => kernel_rfl
            case hQd27 => exact fun _ _ _ h => h
            case hyd27 =>
              exact Or.inr ⟨by rfl, rfl⟩
            try simp only [Act.put, List.setIfInBounds_toArray, List.set_cons_zero, List.set_cons_succ]
            refine wpAnyH_take (i := 27) (oi := ?oid28) (v := undef) ?hod28 (by kernel_rfl) ?hfd28 ?hrd28 ?hQd28 ?hyd28 hHeld ?restd28
            case hod28 => (simp only [List.getElem?_toArray, List.getElem?_cons_succ, List.getElem?_cons_zero]; exact rfl)
            case hfd28 => kernel_rfl
            case hrd28 => kernel_rfl
            case hQd28 => exact fun _ _ _ h => h
            case hyd28 =>
              exact Or.inr ⟨by rfl, rfl⟩
            try simp only [Act.put, List.setIfInBounds_toArray, List.set_cons_zero, List.set_cons_succ]
            refine wpAnyH_take (i := 28) (oi := ?oid29) (v := ?vd29) ?hod29 (by kernel_rfl) ?hfd29 ?hrd29 ?hQd29 ?hyd29 hHeld ?restd29
            case hod29 => (simp only [List.getElem?_toArray, List.getElem?_cons_succ, List.getElem?_cons_zero]; exact rfl)
            case hfd29 => kernel_rfl
            case hrd29 => kernel_rfl
            case hQd29 => exact fun _ _ _ h => h
            case hyd29 =>
              refine Or.inl ⟨by rfl, ?_⟩
              intro V hSV
              go_simp
              (try with_reducible rfl)
            try simp only [Act.put, List.setIfInBounds_toArray, List.set_cons_zero, List.set_cons_succ]
            refine wpAnyH_done (by kernel_rfl) ?_ _
            have hb9 := belowDrews (Below.refl w4.heap.size w4) 1
            have HB9 := Lib.hid (HB4.out.trans (hb9.mono HB4.out.size))
            clear hb9
            repeat (first | go_skip | go_guarded | go_step)
            go_roundw
            case rel => exact ⟨k + 1, by omega, by go_num, fun e he => by
              rw [HX3.out, ← List.append_assoc] at he
              rcases List.mem_append.1 he with he | he
              · exact HNO.out e he
              · rw [List.mem_singleton] at he
                subst he
                rintro ⟨q, _⟩
                (cases q), HB9.out⟩
            case measure => simp [intOf]; omega
          | true =>
            go_upto_region 7 with (fail)
            clear e0 e2
            refine wp_region_held_drew (S := fun V => Below w4.heap.size w4 V) (by kernel_rfl) ?_ (fun hHeld => ?_)
            · exact (Below.refl w4.heap.size w4).drew
            refine wpAnyH_take (i := 0) (oi := ?oid30) (v := ?vd30) ?hod30 (by kernel_rfl) ?hfd30 ?hrd30 ?hQd30 ?hyd30 hHeld ?restd30
            case hod30 => (simp only [List.getElem?_toArray, List.getElem?_cons_succ, List.getElem?_cons_zero]; exact rfl)
            case hfd30 => kernel_rfl
            case hrd30 => kernel_rfl
            case hQd30 => exact fun _ _ _ h => h
            case hyd30 =>
              refine Or.inl ⟨by rfl, ?_⟩
              intro V hSV
              go_simp
              (try with_reducible rfl)
            try simp only [Act.put, List.setIfInBounds_toArray, List.set_cons_zero, List.set_cons_succ]
            refine wpAnyH_take (i := 1) (oi := ?oid31) (v := ?vd31) ?hod31 (by kernel_rfl) ?hfd31 ?hrd31 ?hQd31 ?hyd31 hHeld ?restd31
            case hod31 => (simp only [List.getElem?_toArray, List.getElem?_cons_succ, List.getElem?_cons_zero]; exact rfl)
            case hfd31 => kernel_rfl
            case hrd31 => kernel_rfl
            case hQd31 => exact fun _ _ _ h => h
            case hyd31 =>
              refine Or.inl ⟨by rfl, ?_⟩
              intro V hSV
              go_simp
              (try with_reducible rfl)
            try simp only [Act.put, List.setIfInBounds_toArray, List.set_cons_zero, List.set_cons_succ]
            refine wpAnyH_take (i := 2) (oi := ?oid32) (v := ?vd32) ?hod32 (by kernel_rfl) ?hfd32 ?hrd32 ?hQd32 ?hyd32 hHeld ?restd32
            case hod32 => (simp only [List.getElem?_toArray, List.getElem?_cons_succ, List.getElem?_cons_zero]; exact rfl)
            case hfd32 => kernel_rfl
            case hrd32 => kernel_rfl
            case hQd32 => exact fun _ _ _ h => h
            case hyd32 =>
              refine Or.inl ⟨by rfl, ?_⟩
              intro V hSV
              go_simp
              (try with_reducible rfl)
            try simp only [Act.put, List.setIfInBounds_toArray, List.set_cons_zero, List.set_cons_succ]
            refine wpAnyH_take (i := 3) (oi := ?oid33) (v := ?vd33) ?hod33 (by kernel_rfl) ?hfd33 ?hrd33 ?hQd33 ?hyd33 hHeld ?restd33
            case hod33 => (simp only [List.getElem?_toArray, List.getElem?_cons_succ, List.getElem?_cons_zero]; exact rfl)
            case hfd33 => kernel_rfl
            case hrd33 => kernel_rfl
            case hQd33 => exact fun _ _ _ h => h
            case hyd33 =>
              refine Or.inl ⟨by rfl, ?_⟩
              intro V hSV
              go_simp
              (try with_reducible rfl)
            try simp only [Act.put, List.setIfInBounds_toArray, List.set_cons_zero, List.set_cons_succ]
            refine wpAnyH_take (i := 4) (oi := ?oid34) (v := ?vd34) ?hod34 (by kernel_rfl) ?hfd34 ?hrd34 ?hQd34 ?hyd34 hHeld ?restd34
            case hod34 => (simp only [List.getElem?_toArray, List.getElem?_cons_succ, List.getElem?_cons_zero]; exact rfl)
            case hfd34 => kernel_rfl
            case hrd34 => kernel_rfl
            case hQd34 => exact fun _ _ _ h => h
            case hyd34 =>
              refine Or.inl ⟨by rfl, ?_⟩
              intro V hSV
              obtain ⟨e0, e1, e2, e3⟩ := HT.out V hSV
              go_simp
              (try with_reducible rfl)
            try simp only [Act.put, List.setIfInBounds_toArray, List.set_cons_zero, List.set_cons_succ]
            refine wpAnyH_take (i := 5) (oi := ?oid35) (v := ?vd35) ?hod35 (by kernel_rfl) ?hfd35 ?hrd35 ?hQd35 ?hyd35 hHeld ?restd35
            case hod35 => (simp only [List.getElem?_toArray, List.getElem?_cons_succ, List.getElem?_cons_zero]; exact rfl)
            case hfd35 => kernel_rfl
            case hrd35 => kernel_rfl
            case hQd35 => exact fun _ _ _ h => h
            case hyd35 =>
              refine Or.inl ⟨by rfl, ?_⟩
              intro V hSV
              go_simp
              (try with_reducible rfl)
            try simp only [Act.put, List.setIfInBounds_toArray, List.set_cons_zero, List.set_cons_succ]
            refine wpAnyH_take (i := 6) (oi := ?oid36) (v := ?vd36) ?hod36 (by kernel_rfl) ?hfd36 ?hrd36 ?hQd36 ?hyd36 hHeld ?restd36
            case hod36 => (simp only [List.getElem?_toArray, List.getElem?_cons_succ, List.getElem?_cons_zero]; exact rfl)
            case hfd36 => kernel_rfl
            case hrd36 => kernel_rfl
            case hQd36 => exact fun _ _ _ h => h
            case hyd36 =>
              refine Or.inl ⟨by rfl, ?_⟩
              intro V hSV
              go_simp
              (try with_reducible rfl)
            try simp only [Act.put, List.setIfInBounds_toArray, List.set_cons_zero, List.set_cons_succ]
            refine wpAnyH_take (i := 7) (oi := ?oid37) (v := ?vd37) ?hod37 (by kernel_rfl) ?hfd37 ?hrd37 ?hQd37 ?hyd37 hHeld ?restd37
            case hod37 => (simp only [List.getElem?_toArray, List.getElem?_cons_succ, List.getElem?_cons_zero]; exact rfl)
            case hfd37 => kernel_rfl
            case hrd37 => kernel_rfl
            case hQd37 => exact fun _ _ _ h => h
            case hyd37 =>
              refine Or.inl ⟨by rfl, ?_⟩
              intro V hSV
              go_simp
              (try with_reducible rfl)
            try simp only [Act.put, List.setIfInBounds_toArray, List.set_cons_zero, List.set_cons_succ]
            refine wpAnyH_take (i := 8) (oi := ?oid38) (v := ?vd38) ?hod38 (by kernel_rfl) ?hfd38 ?hrd38 ?hQd38 ?hyd38 hHeld ?restd38
            case hod38 => (simp only [List.getElem?_toArray, List.getElem?_cons_succ, List.getElem?_cons_zero]; exact rfl)
            case hfd38 => kernel_rfl
            case hrd38 => kernel_rfl
            case hQd38 => exact fun _ _ _ h => h
            case hyd38 =>
              refine Or.inl ⟨by rfl, ?_⟩
              intro V hSV
              obtain ⟨e0, e1, e2, e3⟩ := HT.out V hSV
              go_simp
              (try with_reducible rfl)
            try simp only [Act.put, List.setIfInBounds_toArray, List.set_cons_zero, List.set_cons_succ]
            refine wpAnyH_take (i := 9) (oi := ?oid39) (v := ?vd39) ?hod39 (by kernel_rfl) ?hfd39 ?hrd39 ?hQd39 ?hyd39 hHeld ?restd39
            case hod39 => (simp only [List.getElem?_toArray, List.getElem?_cons_succ, List.getElem?_cons_zero]; exact rfl)
            case hfd39 => kernel_rfl
            case hrd39 => kernel_rfl
            case hQd39 => exact fun _ _ _ h => h
            case hyd39 =>
              refine Or.inl ⟨by rfl, ?_⟩
              intro V hSV
              go_simp
              (try with_reducible rfl)
            try simp only [Act.put, List.setIfInBounds_toArray, List.set_cons_zero, List.set_cons_succ]
            refine wpAnyH_take (i := 10) (oi := ?oid40) (v := ?vd40) ?hod40 (by kernel_rfl) ?hfd40 ?hrd40 ?hQd40 ?hyd40 hHeld ?restd40
            case hod40 => (simp only [List.getElem?_toArray, List.getElem?_cons_succ, List.getElem?_cons_zero]; exact rfl)
            case hfd40 => kernel_rfl
            case hrd40 => kernel_rfl
            case hQd40 => exact fun _ _ _ h => h
            case hyd40 =>
              refine Or.inl ⟨by rfl, ?_⟩
              intro V hSV
              go_simp
              (try with_reducible rfl)
            try simp only [Act.put, List.setIfInBounds_toArray, List.set_cons_zero, List.set_cons_succ]
            refine wpAnyH_take (i := 11) (oi := ?oid41) (v := ?vd41) ?hod41 (by kernel_rfl) ?hfd41 ?hrd41 ?hQd41 ?hyd41 hHeld ?restd41
            case hod41 => (simp only [List.getElem?_toArray, List.getElem?_cons_succ, List.getElem?_cons_zero]; exact rfl)
            case hfd41 => kernel_rfl
            case hrd41 => kernel_rfl
            case hQd41 => exact fun _ _ _ h => h
            case hyd41 =>
              refine Or.inl ⟨by rfl, ?_⟩
              intro V hSV
              go_simp
              (try with_reducible rfl)
            try simp only [Act.put, List.setIfInBounds_toArray, List.set_cons_zero, List.set_cons_succ]
            refine wpAnyH_take (i := 12) (oi := ?oid42) (v := ?vd42) ?hod42 (by kernel_rfl) ?hfd42 ?hrd42 ?hQd42 ?hyd42 hHeld ?restd42
            case hod42 => (simp only [List.getElem?_toArray, List.getElem?_cons_succ, List.getElem?_cons_zero]; exact rfl)
            case hfd42 => kernel_rfl
            case hrd42 => kernel_rfl
            case hQd42 => exact fun _ _ _ h => h
            case hyd42 =>
              refine Or.inl ⟨by rfl, ?_⟩
              intro V hSV
              go_simp
              (try with_reducible rfl)
            try simp only [Act.put, List.setIfInBounds_toArray, List.set_cons_zero, List.set_cons_succ]
            refine wpAnyH_take (i := 13) (oi := ?oid43) (v := ?vd43) ?hod43 (by kernel_rfl) ?hfd43 ?hrd43 ?hQd43 ?hyd43 hHeld ?restd43
            case hod43 => (simp only [List.getElem?_toArray, List.getElem?_cons_succ, List.getElem?_cons_zero]; exact rfl)
            case hfd43 => kernel_rfl
            case hrd43 => kernel_rfl
            case hQd43 => exact fun _ _ _ h => h
            case hyd43 =>
              refine Or.inl ⟨by rfl, ?_⟩
              intro V hSV
              go_simp
              (try with_reducible rfl)
            try simp only [Act.put, List.setIfInBounds_toArray, List.set_cons_zero, List.set_cons_succ]
            refine wpAnyH_take (i := 14) (oi := ?oid44) (v := ?vd44) ?hod44 (by kernel_rfl) ?hfd44 ?hrd44 ?hQd44 ?hyd44 hHeld ?restd44
            case hod44 => (simp only [List.getElem?_toArray, List.getElem?_cons_succ, List.getElem?_cons_zero]; exact rfl)
            case hfd44 => kernel_rfl
            case hrd44 => kernel_rfl
            case hQd44 => exact fun _ _ _ h => h
            case hyd44 =>
              refine Or.inl ⟨by rfl, ?_⟩
              intro V hSV
              go_simp
              (try with_reducible rfl)
            try simp only [Act.put, List.setIfInBounds_toArray, List.set_cons_zero, List.set_cons_succ]
            refine wpAnyH_take (i := 15) (oi := ?oid45) (v := ?vd45) ?hod45 (by kernel_rfl) ?hfd45 ?hrd45 ?hQd45 ?hyd45 hHeld ?restd45
            case hod45 => (simp only [List.getElem?_toArray, List.getElem?_cons_succ, List.getElem?_cons_zero]; exact rfl)
            case hfd45 => kernel_rfl
            case hrd45 => kernel_rfl
            case hQd45 => exact fun _ _ _ h => h
            case hyd45 =>
              refine Or.inl ⟨by rfl, ?_⟩
              intro V hSV
              obtain ⟨e0, e1, e2, e3⟩ := HT.out V hSV
              go_simp
              (try with_reducible rfl)
            try simp only [Act.put, List.setIfInBounds_toArray, List.set_cons_zero, List.set_cons_succ]
            refine wpAnyH_take (i := 16) (oi := ?oid46) (v := ?vd46) ?hod46 (by kernel_rfl) ?hfd46 ?hrd46 ?hQd46 ?hyd46 hHeld ?restd46
            case hod46 => (simp only [List.getElem?_toArray, List.getElem?_cons_succ, List.getElem?_cons_zero]; exact rfl)
            case hfd46 => kernel_rfl
            case hrd46 => kernel_rfl
            case hQd46 => exact fun _ _ _ h => h
            case hyd46 =>
              refine Or.inl ⟨by rfl, ?_⟩
              intro V hSV
              go_simp
              (try with_reducible rfl)
            try simp only [Act.put, List.setIfInBounds_toArray, List.set_cons_zero, List.set_cons_succ]
            refine wpAnyH_take (i := 17) (oi := ?oid47) (v := ?vd47) ?hod47 (by kernel_rfl) ?hfd47 ?hrd47 ?hQd47 ?hyd47 hHeld ?restd47
            case hod47 => (simp only [List.getElem?_toArray, List.getElem?_cons_succ, List.getElem?_cons_zero]; exact rfl)
            case hfd47 => kernel_rfl
            case hrd47 => kernel_rfl
            case hQd47 => exact fun _ _ _ h => h
            case hyd47 =>
              refine Or.inl ⟨by rfl, ?_⟩
              intro V hSV
              go_simp
              (try with_reducible rfl)
            try simp only [Act.put, List.setIfInBounds_toArray, List.set_cons_zero, List.set_cons_succ]
            refine wpAnyH_take (i := 18) (oi := ?oid48) (v := ?vd48) ?hod48 (by kernel_rfl) ?hfd48 ?hrd48 ?hQd48 ?hyd48 hHeld ?restd48
            case hod48 => (simp only [List.getElem?_toArray, List.getElem?_cons_succ, List.getElem?_cons_zero]; exact rfl)
            case hfd48 => kernel_rfl
            case hrd48 => kernel_rfl
            case hQd48 => exact fun _ _ _ h => h
            case hyd48 =>
              refine Or.inl ⟨by rfl, ?_⟩
              intro V hSV
              go_simp
              (try with_reducible rfl)
            try simp only [Act.put, List.setIfInBounds_toArray, List.set_cons_zero, List.set_cons_succ]
            refine wpAnyH_take (i := 19) (oi := ?oid49) (v := ?vd49) ?hod49 (by kernel_rfl) ?hfd49 ?hrd49 ?hQd49 ?hyd49 hHeld ?restd49
            case hod49 => (simp only [List.getElem?_toArray, List.getElem?_cons_succ, List.getElem?_cons_zero]; exact rfl)
            case hfd49 => kernel_rfl
            case hrd49 => kernel_rfl
            case hQd49 => exact fun _ _ _ h => h
            case hyd49 =>
              refine Or.inl ⟨by rfl, ?_⟩
              intro V hSV
              go_simp
              (try with_reducible rfl)
            try simp only [Act.put, List.setIfInBounds_toArray, List.set_cons_zero, List.set_cons_succ]
            refine wpAnyH_take (i := 20) (oi := ?oid50) (v := ?vd50) ?hod50 (by kernel_rfl) ?hfd50 ?hrd50 ?hQd50 ?hyd50 hHeld ?restd50
            case hod50 => (simp only [List.getElem?_toArray, List.getElem?_cons_succ, List.getElem?_cons_zero]; exact rfl)
            case hfd50 => kernel_rfl
            case hrd50 => kernel_rfl
            case hQd50 => exact fun _ _ _ h => h
            case hyd50 =>
              refine Or.inl ⟨by rfl, ?_⟩
              intro V hSV
              obtain ⟨e0, e1, e2, e3⟩ := HT.out V hSV
              go_simp
              (try with_reducible rfl)
            try simp only [Act.put, List.setIfInBounds_toArray, List.set_cons_zero, List.set_cons_succ]
            refine wpAnyH_take (i := 21) (oi := ?oid51) (v := ?vd51) ?hod51 (by kernel_rfl) ?hfd51 ?hrd51 ?hQd51 ?hyd51 hHeld ?restd51
            case hod51 => (simp only [List.getElem?_toArray, List.getElem?_cons_succ, List.getElem?_cons_zero]; exact rfl)
            case hfd51 => kernel_rfl
            case hrd51 => kernel_rfl
            case hQd51 => exact fun _ _ _ h => h
            case hyd51 =>
              refine Or.inl ⟨by rfl, ?_⟩
              intro V hSV
              go_simp
              (try with_reducible rfl)
            try simp only [Act.put, List.setIfInBounds_toArray, List.set_cons_zero, List.set_cons_succ]
            refine wpAnyH_take (i := 22) (oi := ?oid52) (v := ?vd52) ?hod52 (by kernel_rfl) ?hfd52 ?hrd52 ?hQd52 ?hyd52 hHeld ?restd52
            case hod52 => (simp only [List.getElem?_toArray, List.getElem?_cons_succ, List.getElem?_cons_zero]; exact rfl)
            case hfd52 => kernel_rfl
            case hrd52 => kernel_rfl
            case hQd52 => exact fun _ _ _ h => h
            case hyd52 =>
              refine Or.inl ⟨by rfl, ?_⟩
              intro V hSV
              go_simp
              (try with_reducible rfl)
            try simp only [Act.put, List.setIfInBounds_toArray, List.set_cons_zero, List.set_cons_succ]
            refine wpAnyH_take (i := 23) (oi := ?oid53) (v := ?vd53) ?hod53 (by kernel_rfl) ?hfd53 ?hrd53 ?hQd53 ?hyd53 hHeld ?restd53
            case hod53 => (simp only [List.getElem?_toArray, List.getElem?_cons_succ, List.getElem?_cons_zero]; exact rfl)
            case hfd53 => kernel_rfl
            case hrd53 => kernel_rfl
            case hQd53 => exact fun _ _ _ h => h
            case hyd53 =>
              refine Or.inl ⟨by rfl, ?_⟩
              intro V hSV
              go_simp
              (try with_reducible rfl)
            try simp only [Act.put, List.setIfInBounds_toArray, List.set_cons_zero, List.set_cons_succ]
            refine wpAnyH_take (i := 24) (oi := ?oid54) (v := ?vd54) ?hod54 (by kernel_rfl) ?hfd54 ?hrd54 ?hQd54 ?hyd54 hHeld ?restd54
            case hod54 => (simp only [List.getElem?_toArray, List.getElem?_cons_succ, List.getElem?_cons_zero]; exact rfl)
            case hfd54 => kernel_rfl
            case hrd54 => kernel_rfl
            case hQd54 => exact fun _ _ _ h => h
            case hyd54 =>
              refine Or.inl ⟨by rfl, ?_⟩
              intro V hSV
              go_simp
              (try with_reducible rfl)
            try simp only [Act.put, List.setIfInBounds_toArray, List.set_cons_zero, List.set_cons_succ]
            refine wpAnyH_take (i := 25) (oi := ?oid55) (v := ?vd55) ?hod55 (by kernel_rfl) ?hfd55 ?hrd55 ?hQd55 ?hyd55 hHeld ?restd55
            case hod55 => (simp only [List.getElem?_toArray, List.getElem?_cons_succ, List.getElem?_cons_zero]; exact rfl)
            case hfd55 => kernel_rfl
            case hrd55 => kernel_rfl
            case hQd55 => exact fun _ _ _ h => h
            case hyd55 =>
              refine Or.inl ⟨by rfl, ?_⟩
              intro V hSV
              go_simp
              (try with_reducible rfl)
            try simp only [Act.put, List.setIfInBounds_toArray, List.set_cons_zero, List.set_cons_succ]
            refine wpAnyH_take (i := 26) (oi := ?oid56) (v := ?vd56) ?hod56 (by kernel_rfl) ?hfd56 ?hrd56 ?hQd56 ?hyd56 hHeld ?restd56
            case hod56 => (simp only [List.getElem?_toArray, List.getElem?_cons_succ, List.getElem?_cons_zero]; exact rfl)
            case hfd56 => kernel_rfl
            case hrd56 => kernel_rfl
            case hQd56 => exact fun _ _ _ h => h
            case hyd56 =>
              refine Or.inl ⟨by rfl, ?_⟩
              intro V hSV
              obtain ⟨e0, e1, e2, e3⟩ := HT.out V hSV
              go_simp
              (try with_reducible rfl)
            try simp only [Act.put, List.setIfInBounds_toArray, List.set_cons_zero, List.set_cons_succ]
            refine wpAnyH_ready (rs := [27]) (by kernel_rfl) (by simp) ?_
            refine AllReadyH.cons (o := ?od57) ?hod57 (fun K hK => ?kd57) ?md57
            case hod57 => (simp only [List.getElem?_toArray, List.getElem?_cons_succ, List.getElem?_cons_zero]; exact rfl)
            case kd57 =>
              go_simp
              refine (HCALL.out _ hHeld).mono ?_
              rintro e V7 ⟨b2, rfl, hiff, hv7⟩
              have HV7 := Lib.hid (Below.trans hHeld (hv7.mono hHeld.size))
              have HIFF := Lib.hid hiff
              clear hiff
              (try dsimp only)
              refine hK.out _ _ ?_ (fun hHeld => ?_)
              · exact HV7.out
              clear hK K
              try simp only [Act.put, List.setIfInBounds_toArray, List.set_cons_zero, List.set_cons_succ]
              refine wpAnyH_take (i := 28) (oi := ?oid58) (v := ?vd58) ?hod58 (by kernel_rfl) ?hfd58 ?hrd58 ?hQd58 ?hyd58 hHeld ?restd58
              case hod58 => (simp only [List.getElem?_toArray, List.getElem?_cons_succ, List.getElem?_cons_zero]; exact rfl)
              case hfd58 => kernel_rfl
              case hrd58 => kernel_rfl
              case hQd58 => exact fun _ _ _ h => h
              case hyd58 =>
                refine Or.inl ⟨by rfl, ?_⟩
                intro V hSV
                go_simp
                (try with_reducible rfl)
              try simp only [Act.put, List.setIfInBounds_toArray, List.set_cons_zero, List.set_cons_succ]
              refine wpAnyH_done (by kernel_rfl) ?_ _
              have HB9 := Lib.hid (HB4.out.trans (HV7.out.mono HB4.out.size))
              cases b2 with
              | true =>
                repeat (first | go_skip | go_guarded | go_step)
                go_ret
                exact ⟨true, rfl, ⟨fun _ => ⟨_, HE.out, rfl, HIFF.out.1 rfl⟩, fun _ => rfl⟩, HB9.out⟩
              | false =>
                repeat (first | go_skip | go_guarded | go_step)
                go_roundw
                case rel => exact ⟨k + 1, by omega, by go_num, fun e he => by
                  rw [HX3.out, ← List.append_assoc] at he
                  rcases List.mem_append.1 he with he | he
                  · exact HNO.out e he
                  · rw [List.mem_singleton] at he
                    subst he
                    rintro ⟨_, q⟩
                    have := HIFF.out.2 q
                    (cases this), HB9.out⟩
                case measure => simp [intOf]; omega
            exact AllReadyH.nil
        · obtain rfl : n1 = k := by omega
          have hki : ¬ (n1 : Int) < (n1 : Int) := by omega
          repeat (first | go_skip | go_guarded | go_step)
          go_roundw
          case rel => exact ⟨i + 1, by omega, by go_num, by
            rw [HES.out]
            have h := HNO.out
            rwa [List.take_of_length_le (l := edgC ((p, l), L)) (by unfold edgC; rw [List.length_map, HRL.out.lenL]; exact Nat.le_refl _)] at h, HB4.out⟩
          case measure => simp [intOf]; omega
    · obtain rfl : n = i := by omega
      have hci : ¬ (n : Int) < (n : Int) := by omega
      repeat (first | go_skip | go_guarded | go_step)
      go_ret
      have h := HNO.out
      rw [List.take_of_length_le (by rw [HC.out.lenC]; exact Nat.le_refl _)] at h
      exact ⟨false, rfl, ⟨fun e => by (cases e), fun ⟨e, he, h1, h2⟩ => (h e he ⟨h1, h2⟩).elim⟩, HBR.out⟩
end Go.Proofs.YtfmghkplafploaaGreat

