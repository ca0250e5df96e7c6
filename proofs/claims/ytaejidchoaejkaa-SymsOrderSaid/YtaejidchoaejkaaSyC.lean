/- Layer 4 (syms): the same names? few; how the document names a number. -/
import Derived.Test.YtaejidchoaejkaaSyA
import Derived.Orders
import Derived.RegionTactic
set_option linter.unusedVariables false
set_option linter.unusedSimpArgs false
namespace Go.Proofs.Ytaejidchoaejkaa
open Go Go.RowKit

/-- All orders of a drawn region end in one act and in worlds of which S is so; there the walk goes on, once. -/
theorem wpAny_meet {P : Program} {md : Region.Mode} {ops : Array Oper} {Q : Exit → Act → World → Prop} {fuel : Nat} {listed : Array Bool} {a : Act} {w : World} {b : Act} (S : World → Prop) (hc : ∀ V, S V → Q .normal b V)
    (h : (∀ V, S V → Q .normal b V) → wpAny P md ops Q fuel listed a w) : wpAny P md ops Q fuel listed a w := h hc
theorem anyd_loadStr {ops : Array Oper} {E : Prop} {o : Oper} {a : Act} {K : Act → World → Prop} {Q : Exit → Act → World → Prop} {w : World} (hwant : Region.wanted o (yielded ops a.tmps) = true) (x : Operand)
    (ho : o.op = .load 9 x) (b i : Nat) (v : Value) (hx : a.eval x = .pointer (some ⟨b, i, none⟩)) (hc : w.cell? ⟨b, i, none⟩ = some v)
    (h : K (a.put o.dst v) w) : if Region.wanted o (yielded ops a.tmps) = true then Oper.wp Try.prog o a w K Q else E := by
  rw [if_pos hwant]
  unfold Oper.wp execOp
  simp only [ho, hx]
  go_simp
  exact h
theorem rdS_at {w : World} {B n : Nat} {A : Option Addr} {l : List ByteArray} (h : Rd w B 1 A n (l.map sv)) {i : Nat} (hi : i < n) :
    ∃ b o s, A = some ⟨b, o, none⟩ ∧ b < B ∧ l[i]? = some s ∧ w.cell? ⟨b, o + i, none⟩ = some (sv s) := by
  have hl : l.length = n := by simpa using h.len1
  obtain ⟨b, o, u, hA, hb, hu, hc⟩ := h.at1 hi
  have hx : l[i]? = some (l[i]'(by omega)) := List.getElem?_eq_getElem _
  rw [List.getElem?_map, hx] at hu
  simp only [Option.map_some, Option.some.injEq] at hu
  subst hu
  exact ⟨b, o, _, hA, hb, hx, hc⟩
theorem take_same {a b : List ByteArray} {i : Nat} {x y : ByteArray} (h1 : a[i]? = some x) (h2 : b[i]? = some y) (h : a.take i = b.take i) (he : x = y) : a.take (i + 1) = b.take (i + 1) := by
  rw [List.take_add_one, List.take_add_one, h1, h2, h, he]

set_option maxRecDepth 100000 in
set_option maxHeartbeats 1000000 in
theorem rSame_any (A0 A1 : Option Addr) (n0 c0 n1 c1 : Nat) (B0 B1 : Nat) (l0 l1 : List ByteArray) (w : World) (h0 : Rd w B0 1 A0 n0 (l0.map sv)) (h1 : Rd w B1 1 A1 n1 (l1.map sv)) (hn0 : n0 ≤ 1000000) :
    Calls Try.prog 21 #[.slice A0 n0 c0, .slice A1 n1 c1] w fun e w' => e = .returned (.bool (decide (l0 = l1))) ∧ ∃ q, w' = w.drewN q := by
  have HL0 := Lib.hid (show l0.length = n0 by simpa using h0.len1)
  have HL1 := Lib.hid (show l1.length = n1 by simpa using h1.len1)
  have H0 := Lib.hid h0
  have H1 := Lib.hid h1
  clear h0 h1
  by_cases hn : n0 = n1
  · subst hn
    have hd : ((n0 : Int) != (n0 : Int)) = false := by simp
    go_enter Try.func21, Try.ntmps21
    repeat go_step
    go_loopw [5] (fun p wr => ∃ i : Nat, i ≤ n0 ∧ p = .int .i64 (i : Int) ∧ l0.take i = l1.take i ∧ ∃ q, wr = w.drewN q) (fun p _ => n0 - (intOf p).toNat)
    case atStart => exact ⟨0, by omega, rfl, rfl, 0, rfl⟩
    case round =>
      obtain ⟨i, hi, rfl, htk, q, rfl⟩ := hrel
      by_cases hlt : i < n0
      · have hci : (i : Int) < (n0 : Int) := by omega
        obtain ⟨b, o, s, hA, hb, hx, hc⟩ := rdS_at H0.out hlt
        obtain ⟨b', o', s', hA', hb', hx', hc'⟩ := rdS_at H1.out hlt
        subst hA hA'
        have HX := Lib.hid hx
        have HX' := Lib.hid hx'
        have HTK := Lib.hid htk
        obtain ⟨W, hW, hcw, hcw'⟩ : ∃ W, W = w.drewN q ∧ W.drew.cell? ⟨b, o + i, none⟩ = some (sv s) ∧ W.drew.cell? ⟨b', o' + i, none⟩ = some (sv s') := ⟨_, rfl, hc, hc'⟩
        have HWq := Lib.hid hW
        rw [← hW]
        have HC := Lib.hid hcw
        have HC' := Lib.hid hcw'
        clear hx hx' htk hc hc' hW hcw hcw'
        by_cases he : s = s'
        · subst he
          repeat go_step
          refine wp_region_any (by kernel_rfl) ?_
          try (change wpAny _ _ _ _ _ _ _ (World.drew _))
          refine wpAny_meet (b := ?ad1) (fun V => V = World.drew W) ?cd1 ?rd1
          case rd1 =>
            intro hEnd
            have hf0 : World.drew W = World.drew W := rfl
            refine wpAny_take (i := 0) (oi := ?oid2) (v := ?vd2) ?hod2 (by kernel_rfl) ?hfd2 ?hrd2 ?hQd2 ?hyd2 ?restd2
            case hod2 => (simp only [List.getElem?_toArray, List.getElem?_cons_succ, List.getElem?_cons_zero]; exact rfl)
            case hfd2 => kernel_rfl
            case hrd2 => kernel_rfl
            case hQd2 => exact fun _ _ _ h => h
            case hyd2 =>
              refine Or.inl ⟨by rfl, ?_⟩
              intro w
              go_simp
              (try with_reducible rfl)
            try simp only [Act.put, List.setIfInBounds_toArray, List.set_cons_zero, List.set_cons_succ]
            refine wpAny_take (i := 1) (oi := ?oid3) (v := ?vd3) ?hod3 (by kernel_rfl) ?hfd3 ?hrd3 ?hQd3 ?hyd3 ?restd3
            case hod3 => (simp only [List.getElem?_toArray, List.getElem?_cons_succ, List.getElem?_cons_zero]; exact rfl)
            case hfd3 => kernel_rfl
            case hrd3 => kernel_rfl
            case hQd3 => exact fun _ _ _ h => h
            case hyd3 =>
              refine Or.inl ⟨by rfl, ?_⟩
              intro w
              go_simp
              (try with_reducible rfl)
            try simp only [Act.put, List.setIfInBounds_toArray, List.set_cons_zero, List.set_cons_succ]
            refine wpAny_take (i := 2) (oi := ?oid4) (v := ?vd4) ?hod4 (by kernel_rfl) ?hfd4 ?hrd4 ?hQd4 ?hyd4 ?restd4
            case hod4 => (simp only [List.getElem?_toArray, List.getElem?_cons_succ, List.getElem?_cons_zero]; exact rfl)
            case hfd4 => kernel_rfl
            case hrd4 => kernel_rfl
            case hQd4 => exact fun _ _ _ h => h
            case hyd4 =>
              refine Or.inl ⟨by rfl, ?_⟩
              intro w
              go_simp
              (try with_reducible rfl)
            try simp only [Act.put, List.setIfInBounds_toArray, List.set_cons_zero, List.set_cons_succ]
            refine wpAny_take (i := 4) (oi := ?oid5) (v := ?vd5) ?hod5 (by kernel_rfl) ?hfd5 ?hrd5 ?hQd5 ?hyd5 ?restd5
            case hod5 => (simp only [List.getElem?_toArray, List.getElem?_cons_succ, List.getElem?_cons_zero]; exact rfl)
            case hfd5 => kernel_rfl
            case hrd5 => kernel_rfl
            case hQd5 => exact fun _ _ _ h => h
            case hyd5 =>
              refine Or.inl ⟨by rfl, ?_⟩
              intro w
              go_simp
              (try with_reducible rfl)
            try simp only [Act.put, List.setIfInBounds_toArray, List.set_cons_zero, List.set_cons_succ]
            refine wpAny_take (i := 5) (oi := ?oid6) (v := ?vd6) ?hod6 (by kernel_rfl) ?hfd6 ?hrd6 ?hQd6 ?hyd6 ?restd6
            case hod6 => (simp only [List.getElem?_toArray, List.getElem?_cons_succ, List.getElem?_cons_zero]; exact rfl)
            case hfd6 => kernel_rfl
            case hrd6 => kernel_rfl
            case hQd6 => exact fun _ _ _ h => h
            case hyd6 =>
              refine Or.inl ⟨by rfl, ?_⟩
              intro w
              go_simp
              (try with_reducible rfl)
            try simp only [Act.put, List.setIfInBounds_toArray, List.set_cons_zero, List.set_cons_succ]
            refine wpAny_take (i := 6) (oi := ?oid7) (v := ?vd7) ?hod7 (by kernel_rfl) ?hfd7 ?hrd7 ?hQd7 ?hyd7 ?restd7
            case hod7 => (simp only [List.getElem?_toArray, List.getElem?_cons_succ, List.getElem?_cons_zero]; exact rfl)
            case hfd7 => kernel_rfl
            case hrd7 => kernel_rfl
            case hQd7 => exact fun _ _ _ h => h
            case hyd7 =>
              refine Or.inl ⟨by rfl, ?_⟩
              intro w
              go_simp
              (try with_reducible rfl)
            try simp only [Act.put, List.setIfInBounds_toArray, List.set_cons_zero, List.set_cons_succ]
            refine wpAny_ready (rs := [3, 7]) (by kernel_rfl) (by simp) ?_
            refine AllReady.cons (o := ?od8) ?hod8 (fun K hK => ?kd8) ?md8
            case hod8 => (simp only [List.getElem?_toArray, List.getElem?_cons_succ, List.getElem?_cons_zero]; exact rfl)
            case kd8 =>
              refine anyd_loadStr (by rfl) (.tmp 19) rfl b (o + i) _ (by rfl) HC.out ?_
              refine hK _ _ ?_
              clear hK K
              try simp only [Act.put, List.setIfInBounds_toArray, List.set_cons_zero, List.set_cons_succ]
              refine wpAny_ready (rs := [7]) (by kernel_rfl) (by simp) ?_
              refine AllReady.cons (o := ?od9) ?hod9 (fun K hK => ?kd9) ?md9
              case hod9 => (simp only [List.getElem?_toArray, List.getElem?_cons_succ, List.getElem?_cons_zero]; exact rfl)
              case kd9 =>
                refine anyd_loadStr (by rfl) (.tmp 23) rfl b' (o' + i) _ (by rfl) HC'.out ?_
                refine hK _ _ ?_
                clear hK K
                try simp only [Act.put, List.setIfInBounds_toArray, List.set_cons_zero, List.set_cons_succ]
                refine wpAny_take (i := 8) (oi := ?oid10) (v := ?vd10) ?hod10 (by kernel_rfl) ?hfd10 ?hrd10 ?hQd10 ?hyd10 ?restd10
                case hod10 => (simp only [List.getElem?_toArray, List.getElem?_cons_succ, List.getElem?_cons_zero]; exact rfl)
                case hfd10 => kernel_rfl
                case hrd10 => kernel_rfl
                case hQd10 => exact fun _ _ _ h => h
                case hyd10 =>
                  refine Or.inl ⟨by rfl, ?_⟩
                  intro w
                  go_simp
                  (try with_reducible rfl)
                try simp only [Act.put, List.setIfInBounds_toArray, List.set_cons_zero, List.set_cons_succ]
                exact wpAny_done (by kernel_rfl) (hEnd _ hf0) _
              exact AllReady.nil
            refine AllReady.cons (o := ?od11) ?hod11 (fun K hK => ?kd11) ?md11
            case hod11 => (simp only [List.getElem?_toArray, List.getElem?_cons_succ, List.getElem?_cons_zero]; exact rfl)
            case kd11 =>
              refine anyd_loadStr (by rfl) (.tmp 23) rfl b' (o' + i) _ (by rfl) HC'.out ?_
              refine hK _ _ ?_
              clear hK K
              try simp only [Act.put, List.setIfInBounds_toArray, List.set_cons_zero, List.set_cons_succ]
              refine wpAny_ready (rs := [3]) (by kernel_rfl) (by simp) ?_
              refine AllReady.cons (o := ?od12) ?hod12 (fun K hK => ?kd12) ?md12
              case hod12 => (simp only [List.getElem?_toArray, List.getElem?_cons_succ, List.getElem?_cons_zero]; exact rfl)
              case kd12 =>
                refine anyd_loadStr (by rfl) (.tmp 19) rfl b (o + i) _ (by rfl) HC.out ?_
                refine hK _ _ ?_
                clear hK K
                try simp only [Act.put, List.setIfInBounds_toArray, List.set_cons_zero, List.set_cons_succ]
                refine wpAny_take (i := 8) (oi := ?oid13) (v := ?vd13) ?hod13 (by kernel_rfl) ?hfd13 ?hrd13 ?hQd13 ?hyd13 ?restd13
                case hod13 => (simp only [List.getElem?_toArray, List.getElem?_cons_succ, List.getElem?_cons_zero]; exact rfl)
                case hfd13 => kernel_rfl
                case hrd13 => kernel_rfl
                case hQd13 => exact fun _ _ _ h => h
                case hyd13 =>
                  refine Or.inl ⟨by rfl, ?_⟩
                  intro w
                  go_simp
                  (try with_reducible rfl)
                try simp only [Act.put, List.setIfInBounds_toArray, List.set_cons_zero, List.set_cons_succ]
                exact wpAny_done (by kernel_rfl) (hEnd _ hf0) _
              exact AllReady.nil
            exact AllReady.nil
          case cd1 =>
            rintro V rfl
            repeat go_step
            go_roundw
            case rel => exact ⟨i + 1, by omega, by go_num, take_same HX.out HX'.out HTK.out rfl, q + 1, by rw [HWq.out]; rfl⟩
            case measure => simp [intOf]; omega
        · have hq := neS he
          have HE := Lib.hid he
          clear he
          repeat go_step
          refine wp_region_any (by kernel_rfl) ?_
          try (change wpAny _ _ _ _ _ _ _ (World.drew _))
          refine wpAny_meet (b := ?ad14) (fun V => V = World.drew W) ?cd14 ?rd14
          case rd14 =>
            intro hEnd
            have hf0 : World.drew W = World.drew W := rfl
            refine wpAny_take (i := 0) (oi := ?oid15) (v := ?vd15) ?hod15 (by kernel_rfl) ?hfd15 ?hrd15 ?hQd15 ?hyd15 ?restd15
            case hod15 => (simp only [List.getElem?_toArray, List.getElem?_cons_succ, List.getElem?_cons_zero]; exact rfl)
            case hfd15 => kernel_rfl
            case hrd15 => kernel_rfl
            case hQd15 => exact fun _ _ _ h => h
            case hyd15 =>
              refine Or.inl ⟨by rfl, ?_⟩
              intro w
              go_simp
              (try with_reducible rfl)
            try simp only [Act.put, List.setIfInBounds_toArray, List.set_cons_zero, List.set_cons_succ]
            refine wpAny_take (i := 1) (oi := ?oid16) (v := ?vd16) ?hod16 (by kernel_rfl) ?hfd16 ?hrd16 ?hQd16 ?hyd16 ?restd16
            case hod16 => (simp only [List.getElem?_toArray, List.getElem?_cons_succ, List.getElem?_cons_zero]; exact rfl)
            case hfd16 => kernel_rfl
            case hrd16 => kernel_rfl
            case hQd16 => exact fun _ _ _ h => h
            case hyd16 =>
              refine Or.inl ⟨by rfl, ?_⟩
              intro w
              go_simp
              (try with_reducible rfl)
            try simp only [Act.put, List.setIfInBounds_toArray, List.set_cons_zero, List.set_cons_succ]
            refine wpAny_take (i := 2) (oi := ?oid17) (v := ?vd17) ?hod17 (by kernel_rfl) ?hfd17 ?hrd17 ?hQd17 ?hyd17 ?restd17
            case hod17 => (simp only [List.getElem?_toArray, List.getElem?_cons_succ, List.getElem?_cons_zero]; exact rfl)
            case hfd17 => kernel_rfl
            case hrd17 => kernel_rfl
            case hQd17 => exact fun _ _ _ h => h
            case hyd17 =>
              refine Or.inl ⟨by rfl, ?_⟩
              intro w
              go_simp
              (try with_reducible rfl)
            try simp only [Act.put, List.setIfInBounds_toArray, List.set_cons_zero, List.set_cons_succ]
            refine wpAny_take (i := 4) (oi := ?oid18) (v := ?vd18) ?hod18 (by kernel_rfl) ?hfd18 ?hrd18 ?hQd18 ?hyd18 ?restd18
            case hod18 => (simp only [List.getElem?_toArray, List.getElem?_cons_succ, List.getElem?_cons_zero]; exact rfl)
            case hfd18 => kernel_rfl
            case hrd18 => kernel_rfl
            case hQd18 => exact fun _ _ _ h => h
            case hyd18 =>
              refine Or.inl ⟨by rfl, ?_⟩
              intro w
              go_simp
              (try with_reducible rfl)
            try simp only [Act.put, List.setIfInBounds_toArray, List.set_cons_zero, List.set_cons_succ]
            refine wpAny_take (i := 5) (oi := ?oid19) (v := ?vd19) ?hod19 (by kernel_rfl) ?hfd19 ?hrd19 ?hQd19 ?hyd19 ?restd19
            case hod19 => (simp only [List.getElem?_toArray, List.getElem?_cons_succ, List.getElem?_cons_zero]; exact rfl)
            case hfd19 => kernel_rfl
            case hrd19 => kernel_rfl
            case hQd19 => exact fun _ _ _ h => h
            case hyd19 =>
              refine Or.inl ⟨by rfl, ?_⟩
              intro w
              go_simp
              (try with_reducible rfl)
            try simp only [Act.put, List.setIfInBounds_toArray, List.set_cons_zero, List.set_cons_succ]
            refine wpAny_take (i := 6) (oi := ?oid20) (v := ?vd20) ?hod20 (by kernel_rfl) ?hfd20 ?hrd20 ?hQd20 ?hyd20 ?restd20
            case hod20 => (simp only [List.getElem?_toArray, List.getElem?_cons_succ, List.getElem?_cons_zero]; exact rfl)
            case hfd20 => kernel_rfl
            case hrd20 => kernel_rfl
            case hQd20 => exact fun _ _ _ h => h
            case hyd20 =>
              refine Or.inl ⟨by rfl, ?_⟩
              intro w
              go_simp
              (try with_reducible rfl)
            try simp only [Act.put, List.setIfInBounds_toArray, List.set_cons_zero, List.set_cons_succ]
            refine wpAny_ready (rs := [3, 7]) (by kernel_rfl) (by simp) ?_
            refine AllReady.cons (o := ?od21) ?hod21 (fun K hK => ?kd21) ?md21
            case hod21 => (simp only [List.getElem?_toArray, List.getElem?_cons_succ, List.getElem?_cons_zero]; exact rfl)
            case kd21 =>
              refine anyd_loadStr (by rfl) (.tmp 19) rfl b (o + i) _ (by rfl) HC.out ?_
              refine hK _ _ ?_
              clear hK K
              try simp only [Act.put, List.setIfInBounds_toArray, List.set_cons_zero, List.set_cons_succ]
              refine wpAny_ready (rs := [7]) (by kernel_rfl) (by simp) ?_
              refine AllReady.cons (o := ?od22) ?hod22 (fun K hK => ?kd22) ?md22
              case hod22 => (simp only [List.getElem?_toArray, List.getElem?_cons_succ, List.getElem?_cons_zero]; exact rfl)
              case kd22 =>
                refine anyd_loadStr (by rfl) (.tmp 23) rfl b' (o' + i) _ (by rfl) HC'.out ?_
                refine hK _ _ ?_
                clear hK K
                try simp only [Act.put, List.setIfInBounds_toArray, List.set_cons_zero, List.set_cons_succ]
                refine wpAny_take (i := 8) (oi := ?oid23) (v := ?vd23) ?hod23 (by kernel_rfl) ?hfd23 ?hrd23 ?hQd23 ?hyd23 ?restd23
                case hod23 => (simp only [List.getElem?_toArray, List.getElem?_cons_succ, List.getElem?_cons_zero]; exact rfl)
                case hfd23 => kernel_rfl
                case hrd23 => kernel_rfl
                case hQd23 => exact fun _ _ _ h => h
                case hyd23 =>
                  refine Or.inl ⟨by rfl, ?_⟩
                  intro w
                  go_simp
                  (try with_reducible rfl)
                try simp only [Act.put, List.setIfInBounds_toArray, List.set_cons_zero, List.set_cons_succ]
                exact wpAny_done (by kernel_rfl) (hEnd _ hf0) _
              exact AllReady.nil
            refine AllReady.cons (o := ?od24) ?hod24 (fun K hK => ?kd24) ?md24
            case hod24 => (simp only [List.getElem?_toArray, List.getElem?_cons_succ, List.getElem?_cons_zero]; exact rfl)
            case kd24 =>
              refine anyd_loadStr (by rfl) (.tmp 23) rfl b' (o' + i) _ (by rfl) HC'.out ?_
              refine hK _ _ ?_
              clear hK K
              try simp only [Act.put, List.setIfInBounds_toArray, List.set_cons_zero, List.set_cons_succ]
              refine wpAny_ready (rs := [3]) (by kernel_rfl) (by simp) ?_
              refine AllReady.cons (o := ?od25) ?hod25 (fun K hK => ?kd25) ?md25
              case hod25 => (simp only [List.getElem?_toArray, List.getElem?_cons_succ, List.getElem?_cons_zero]; exact rfl)
              case kd25 =>
                refine anyd_loadStr (by rfl) (.tmp 19) rfl b (o + i) _ (by rfl) HC.out ?_
                refine hK _ _ ?_
                clear hK K
                try simp only [Act.put, List.setIfInBounds_toArray, List.set_cons_zero, List.set_cons_succ]
                refine wpAny_take (i := 8) (oi := ?oid26) (v := ?vd26) ?hod26 (by kernel_rfl) ?hfd26 ?hrd26 ?hQd26 ?hyd26 ?restd26
                case hod26 => (simp only [List.getElem?_toArray, List.getElem?_cons_succ, List.getElem?_cons_zero]; exact rfl)
                case hfd26 => kernel_rfl
                case hrd26 => kernel_rfl
                case hQd26 => exact fun _ _ _ h => h
                case hyd26 =>
                  refine Or.inl ⟨by rfl, ?_⟩
                  intro w
                  go_simp
                  (try with_reducible rfl)
                try simp only [Act.put, List.setIfInBounds_toArray, List.set_cons_zero, List.set_cons_succ]
                exact wpAny_done (by kernel_rfl) (hEnd _ hf0) _
              exact AllReady.nil
            exact AllReady.nil
          case cd14 =>
            rintro V rfl
            repeat go_step
            go_ret
            exact ⟨by rw [decide_eq_false (show ¬ l0 = l1 from fun e => HE.out (by have h1 := HX.out; rw [e, HX'.out] at h1; cases h1; rfl))]; rfl, q + 1, by rw [HWq.out]; rfl⟩
      · obtain rfl : n0 = i := by omega
        rw [List.take_of_length_le (by have := HL0.out; omega), List.take_of_length_le (by have := HL1.out; omega)] at htk
        have HD := Lib.hid (decide_eq_true htk)
        clear htk
        go_wp2
        go_ret
        exact ⟨by rw [HD.out]; rfl, q, rfl⟩
  · have hd : ((n0 : Int) != (n1 : Int)) = true := by simp; omega
    have HD := Lib.hid (decide_eq_false (show ¬ l0 = l1 from fun e => hn (by rw [← HL0.out, ← HL1.out, e])))
    go_enter Try.func21, Try.ntmps21
    go_wp2
    go_ret
    exact ⟨by rw [HD.out]; rfl, 0, rfl⟩

set_option maxRecDepth 100000 in
set_option maxHeartbeats 1000000 in
theorem few_big (A : Option Addr) (n c : Nat) (w : World) (h : 300 < n) :
    Calls Try.prog 8 #[.slice A n c] w fun e w' => e = .returned (.bool false) ∧ w = w' := by
  have hd : decide ((300 : Int) < (n : Int)) = true := by simp; omega
  go_enter Try.func8, Try.ntmps8
  go_wp2
  go_ret
  exact ⟨rfl, rfl⟩
def fewB (l : List ByteArray) : Bool := l.all fun s => s.size ≤ 200
set_option maxRecDepth 100000 in
set_option maxHeartbeats 1000000 in
theorem few_any (A : Option Addr) (n c B : Nat) (l : List ByteArray) (w : World) (h : Rd w B 1 A n (l.map sv)) (hn : n ≤ 300) :
    Calls Try.prog 8 #[.slice A n c] w fun e w' => e = .returned (.bool (fewB l)) ∧ w = w' := by
  have HL := Lib.hid (show l.length = n by simpa using h.len1)
  have HR := Lib.hid h
  clear h
  have hd : decide ((300 : Int) < (n : Int)) = false := by simp; omega
  go_enter Try.func8, Try.ntmps8
  repeat go_step
  go_loop [3] (fun p => ∃ i : Nat, i ≤ n ∧ p = .int .i64 (i : Int) ∧ fewB (l.take i) = true) (fun p => n - (intOf p).toNat)
  case atStart => exact ⟨0, by omega, rfl, rfl⟩
  case round =>
    obtain ⟨i, hi, rfl, htk⟩ := hrel
    by_cases hlt : i < n
    · have hci : (i : Int) < (n : Int) := by omega
      obtain ⟨b, o, s, hA, hb, hx, hc⟩ := rdS_at HR.out hlt
      subst hA
      have HX := Lib.hid hx
      have HTK := Lib.hid htk
      clear hx htk
      by_cases hs : s.size ≤ 200
      · have hq : decide ((200 : Int) < (s.size : Int)) = false := by simp; omega
        have HT := Lib.hid (show fewB (l.take (i + 1)) = true by
          have h1 := HTK.out
          unfold fewB at h1 ⊢
          rw [List.take_add_one, HX.out]
          simp only [Option.toList_some, List.all_append, List.all_cons, List.all_nil, Bool.and_true, h1, Bool.true_and]
          exact decide_eq_true hs)
        go_wp2
        go_round
        case rel => exact ⟨i + 1, by omega, by go_num, HT.out⟩
        case measure => simp [intOf]; omega
      · have hq : decide ((200 : Int) < (s.size : Int)) = true := by simp; omega
        have HT := Lib.hid (show fewB l = false by
          unfold fewB
          rw [List.all_eq_false]
          exact ⟨s, List.mem_of_getElem? HX.out, by simpa using hs⟩)
        go_wp2
        go_ret
        exact ⟨by rw [HT.out]; rfl, rfl⟩
    · obtain rfl : n = i := by omega
      rw [List.take_of_length_le (by have := HL.out; omega)] at htk
      have HT := Lib.hid htk
      clear htk
      go_wp2
      go_ret
      exact ⟨by rw [HT.out]; rfl, rfl⟩
end Go.Proofs.Ytaejidchoaejkaa
