/- Layer 6 (wire): WireFacts from what is asked of the program. -/
import Derived.Test.YtcoafgnbmgndeaaWrQ
import Derived.Test.YtcoafgnbmgndeaaWrAo
import Derived.Test.YtcoafgnbmgndeaaArg
set_option linter.unusedVariables false
set_option linter.unusedSimpArgs false
namespace Go.Proofs.Ytcoafgnbmgndeaa.wireFacts
open Go Go.RowKit

theorem i64_bdW {a : Int} (w : (Lit.int .i64 a).wf = true) : -9223372036854775808 ≤ a ∧ a ≤ 9223372036854775807 := by
  have h1 : IntKind.i64.min = -9223372036854775808 := rfl
  have h2 : IntKind.i64.max = 9223372036854775807 := rfl
  simp only [Lit.wf, Bool.and_eq_true, decide_eq_true_eq] at w
  omega
theorem str_add (a b : List UInt8) : (({ data := a.toArray } : ByteArray) ++ ({ data := b.toArray } : ByteArray)) = { data := (a ++ b).toArray } := by
  apply ByteArray.ext
  rw [ByteArray.data_append]
  simp
theorem anyd_conv8 {ops : Array Oper} {E : Prop} {o : Oper} {a : Act} {w : World} {K : Act → World → Prop} {Q : Exit → Act → World → Prop} (hwant : Region.wanted o (yielded ops a.tmps) = true) (x : Operand)
    (ho : o.op = .convert 22 9 x) (B : Nat) (A : Option Addr) (n c : Nat) (bs : List UInt8) (hx : a.eval x = .slice A n c) (hr : Rd w B 1 A n (bs.map bv))
    (h : K (a.put o.dst (strV bs)) w) : if Region.wanted o (yielded ops a.tmps) = true then Oper.wp Try.prog o a w K Q else E := by
  rw [if_pos hwant]
  have e := run_conv_str (P := Try.prog) w 22 9 5 Try.underlying22 Try.underlying5 Try.underlying9 B A n c bs hr
  unfold Oper.wp execOp
  simp only [ho, hx, Sem.run_bind, e, Result.andThen_ok]
  exact h

set_option maxRecDepth 100000 in
set_option maxHeartbeats 8000000 in
theorem walk (ok : WireOk) (A : Option Addr) (n c : Nat) (bs : List UInt8) (p : UInt32) (A1 : Option Addr) (n1 c1 : Nat) (l : List UInt32) (A2 : Option Addr) (n2 c2 : Nat) (bs2 : List UInt8) (t : Int) (w : World) (hr : Rd w w.heap.size 1 A n (bs.map bv)) (hc : n ≤ c) (hf : RdU w w.heap.size A1 n1 l) (hf1 : n1 ≤ c1) (hr2 : Rd w w.heap.size 1 A2 n2 (bs2.map bv)) (hc2 : n2 ≤ c2) (ht1 : -9223372036854775808 ≤ t) (ht2 : t ≤ 9223372036854775807) :
    Calls Try.prog 3 #[.slice A n c, .agg #[nv p, .slice A1 n1 c1], .slice A2 n2 c2, .int .i64 t] w fun e w' => e = .returned (.bool true) ∧ Below w.heap.size w w' := by
  obtain ⟨U, hU, hH, hbU⟩ : ∃ U, U = w.alloc (.cells #[nv p, .slice A1 n1 c1] 26) ∧ Bk U w.heap.size 26 [nv p, .slice A1 n1 c1] ∧ Below w.heap.size w U :=
    ⟨_, rfl, Bk.new w _ _, (Below.refl _ _).alloc (Nat.le_refl _) _⟩
  have HU := Lib.hid hU
  have HH := Lib.hid hH
  have HB := Lib.hid hbU
  have HR := Lib.hid ((hr.below hbU).more hbU.size)
  have HR2 := Lib.hid ((hr2.below hbU).more hbU.size)
  have HF := Lib.hid ((hf.below hbU).more hbU.size)
  have HL := Lib.hid (rdU_len hf)
  have k0 := HH.out.readT (Below.refl _ _) 0 rfl
  have k1 := HH.out.readT (Below.refl _ _) 1 rfl
  clear hU hH hbU hr hr2 hf
  go_enter Try.func3, Try.ntmps3
  go_upto_region 1 with (fail)
  rw [← HU.out]
  clear HU
  generalize hhw : w.heap.size = gx at HH k0 k1 ⊢
  repeat (first | go_skip | go_guarded | go_step)
  refine (vastW_any A n c U).mono ?_
  rintro e w1 ⟨rfl, rfl⟩
  by_cases hn : 4096 < n
  · rw [decide_eq_true hn]
    dsimp only
    repeat (first | go_skip | go_guarded | go_step)
    refine (wWorks_any ok _).mono ?_
    rintro e w1 ⟨rfl, hb1⟩
    dsimp only
    repeat (first | go_skip | go_guarded | go_step)
    go_ret
    exact ⟨rfl, hhw ▸ HB.out.trans (hb1.mono HB.out.size)⟩
  rw [decide_eq_false hn]
  dsimp only
  repeat (first | go_skip | go_guarded | go_step)
  refine (vastW_any A2 n2 c2 U).mono ?_
  rintro e w1 ⟨rfl, rfl⟩
  by_cases hn2 : 4096 < n2
  · rw [decide_eq_true hn2]
    dsimp only
    repeat (first | go_skip | go_guarded | go_step)
    refine (wWorks_any ok _).mono ?_
    rintro e w1 ⟨rfl, hb1⟩
    dsimp only
    repeat (first | go_skip | go_guarded | go_step)
    go_ret
    exact ⟨rfl, hhw ▸ HB.out.trans (hb1.mono HB.out.size)⟩
  rw [decide_eq_false hn2]
  dsimp only
  by_cases hn1 : 100 < n1
  · have hd : decide ((100 : Int) < (n1 : Int)) = true := by simp; omega
    repeat (first | go_skip | go_guarded | go_step)
    refine (wWorks_any ok _).mono ?_
    rintro e w1 ⟨rfl, hb1⟩
    dsimp only
    repeat (first | go_skip | go_guarded | go_step)
    go_ret
    exact ⟨rfl, hhw ▸ HB.out.trans (hb1.mono HB.out.size)⟩
  have hd : decide ((100 : Int) < (n1 : Int)) = false := by simp; omega
  repeat (first | go_skip | go_guarded | go_step)
  clear hd k0 k1
  have hbv : Below U.heap.size U U := Below.refl _ _
  refine (roomyW_any A n c bs U HR.out (by omega)).mono ?_
  rintro e W1 ⟨rfl, hB1, hbW1⟩
  obtain ⟨q1, hq1⟩ : ∃ q, q = U.heap.size := ⟨_, rfl⟩
  rw [← hq1] at hB1
  have hUW1 : Below U.heap.size U W1 := hbW1
  have hro : Rd W1 W1.heap.size 1 (some ⟨q1, 0, none⟩) n (bs.map bv) := by
    have hl : bs.length = n := by simpa using HR.out.len1
    have := hB1.rd n (by rw [roomW_len]; omega)
    have e : (roomW bs).take n = bs.map bv := by
      unfold roomW
      rw [List.take_append_of_le_length (by simp; omega), List.take_of_length_le (by simp; omega)]
    rwa [e] at this
  try rw [← hq1]
  have k0 := HH.out.readT hUW1 0 rfl
  have k1 := HH.out.readT hUW1 1 rfl
  have HRO := Lib.hid hro
  have HB1 := Lib.hid hB1
  have HUW1 := Lib.hid hUW1
  clear hro hB1 hbW1 hq1 hUW1
  dsimp only
  repeat (first | go_skip | go_guarded | go_step)
  refine (ok.putFact (some ⟨q1, 0, none⟩) n (n + 600) bs p A1 n1 c1 l W1 HRO.out (by omega) (by omega) ((HF.out.below HUW1.out).more HUW1.out.size) hf1 (by omega)).mono ?_
  rintro e W2 ⟨A', m', c', z, bs', rfl, ho2, hb2, hz⟩
  have hU2 : Below U.heap.size U W2 := HUW1.out.trans (hb2.mono HUW1.out.size)
  have HB2 := Lib.hid (HB1.out.later hb2)
  have HO2 := Lib.hid ho2
  have HU2 := Lib.hid hU2
  have HH2 := Lib.hid (HH.out.later hU2)
  have HR0 := Lib.hid ((HR.out.below hU2).more hU2.size)
  have HRF := Lib.hid ((HF.out.below hU2).more hU2.size)
  clear ho2 hb2 k0 k1 hU2 HB1 HRO
  dsimp only
  rcases hz with ⟨hmay, rfl, rfl⟩ | ⟨hmay, rfl, rfl⟩
  · have HMAY := Lib.hid hmay
    have hlb : bs.length + (factB ((p, l) : Fa)).length ≤ 100000 := by
      have h1 := (factB_len hmay).2
      have h2 : bs.length = n := by simpa using HR.out.len1
      omega
    have HLB := Lib.hid hlb
    clear hmay hlb
    go_upto_region 5 with (fail)
    refine wp_region_held_drew (S := fun V => Below W2.heap.size W2 V) (by kernel_rfl) ?_ (fun hHeld => ?_)
    · exact (Below.refl W2.heap.size W2).drew
    refine wpAnyH_take (i := 0) (oi := ?oid1) (v := ?vd1) ?hod1 (by kernel_rfl) ?hfd1 ?hrd1 ?hQd1 ?hyd1 hHeld ?restd1
    case hod1 => (simp only [List.getElem?_toArray, List.getElem?_cons_succ, List.getElem?_cons_zero]; exact rfl)
    case hfd1 => kernel_rfl
    case hrd1 => kernel_rfl
    case hQd1 => exact fun _ _ _ h => h
    case hyd1 =>
      refine Or.inl ⟨by rfl, ?_⟩
      intro V hSV
      go_simp
      (try with_reducible rfl)
    try simp only [Act.put, List.setIfInBounds_toArray, List.set_cons_zero, List.set_cons_succ]
    refine wpAnyH_take (i := 1) (oi := ?oid2) (v := ?vd2) ?hod2 (by kernel_rfl) ?hfd2 ?hrd2 ?hQd2 ?hyd2 hHeld ?restd2
    case hod2 => (simp only [List.getElem?_toArray, List.getElem?_cons_succ, List.getElem?_cons_zero]; exact rfl)
    case hfd2 => kernel_rfl
    case hrd2 => kernel_rfl
    case hQd2 => exact fun _ _ _ h => h
    case hyd2 =>
      refine Or.inl ⟨by rfl, ?_⟩
      intro V hSV
      go_simp
      (try with_reducible rfl)
    try simp only [Act.put, List.setIfInBounds_toArray, List.set_cons_zero, List.set_cons_succ]
    refine wpAnyH_ready (rs := [2]) (by kernel_rfl) (by simp) ?_
    refine AllReadyH.cons (o := ?od3) ?hod3 (fun K hK => ?kd3) ?md3
    case hod3 => (simp only [List.getElem?_toArray, List.getElem?_cons_succ, List.getElem?_cons_zero]; exact rfl)
    case kd3 =>
      go_simp
      refine (keptW_any q1 A n c _ bs _ (HB2.out.later (show Below W2.heap.size W2 _ from hHeld)) (HR0.out.below (show Below W2.heap.size W2 _ from hHeld)) (by omega)).mono ?_
      rintro e w3 ⟨rfl, rfl⟩
      (try dsimp only)
      refine hK.out _ _ ?_ (fun hHeld => ?_)
      · exact (show Below W2.heap.size W2 _ from hHeld)
      clear hK K
      try simp only [Act.put, List.setIfInBounds_toArray, List.set_cons_zero, List.set_cons_succ]
      refine wpAnyH_take (i := 3) (oi := ?oid4) (v := ?vd4) ?hod4 (by kernel_rfl) ?hfd4 ?hrd4 ?hQd4 ?hyd4 hHeld ?restd4
      case hod4 => (simp only [List.getElem?_toArray, List.getElem?_cons_succ, List.getElem?_cons_zero]; exact rfl)
      case hfd4 => kernel_rfl
      case hrd4 => kernel_rfl
      case hQd4 => exact fun _ _ _ h => h
      case hyd4 =>
        refine Or.inl ⟨by rfl, ?_⟩
        intro V hSV
        go_simp
        (try with_reducible rfl)
      try simp only [Act.put, List.setIfInBounds_toArray, List.set_cons_zero, List.set_cons_succ]
      refine wpAnyH_take (i := 4) (oi := ?oid5) (v := ?vd5) ?hod5 (by kernel_rfl) ?hfd5 ?hrd5 ?hQd5 ?hyd5 hHeld ?restd5
      case hod5 => (simp only [List.getElem?_toArray, List.getElem?_cons_succ, List.getElem?_cons_zero]; exact rfl)
      case hfd5 => kernel_rfl
      case hrd5 => kernel_rfl
      case hQd5 => exact fun _ _ _ h => h
      case hyd5 =>
        refine Or.inl ⟨by rfl, ?_⟩
        intro V hSV
        go_simp
        (try with_reducible rfl)
      try simp only [Act.put, List.setIfInBounds_toArray, List.set_cons_zero, List.set_cons_succ]
      refine wpAnyH_take (i := 5) (oi := ?oid6) (v := ?vd6) ?hod6 (by kernel_rfl) ?hfd6 ?hrd6 ?hQd6 ?hyd6 hHeld ?restd6
      case hod6 => (simp only [List.getElem?_toArray, List.getElem?_cons_succ, List.getElem?_cons_zero]; exact rfl)
      case hfd6 => kernel_rfl
      case hrd6 => kernel_rfl
      case hQd6 => exact fun _ _ _ h => h
      case hyd6 =>
        refine Or.inl ⟨by rfl, ?_⟩
        intro V hSV
        go_simp
        (try with_reducible rfl)
      try simp only [Act.put, List.setIfInBounds_toArray, List.set_cons_zero, List.set_cons_succ]
      refine wpAnyH_take (i := 6) (oi := ?oid7) (v := ?vd7) ?hod7 (by kernel_rfl) ?hfd7 ?hrd7 ?hQd7 ?hyd7 hHeld ?restd7
      case hod7 => (simp only [List.getElem?_toArray, List.getElem?_cons_succ, List.getElem?_cons_zero]; exact rfl)
      case hfd7 => kernel_rfl
      case hrd7 => kernel_rfl
      case hQd7 => exact fun _ _ _ h => h
      case hyd7 =>
        refine Or.inl ⟨by rfl, ?_⟩
        intro V hSV
        go_simp
        (try with_reducible rfl)
      try simp only [Act.put, List.setIfInBounds_toArray, List.set_cons_zero, List.set_cons_succ]
      refine wpAnyH_take (i := 7) (oi := ?oid8) (v := ?vd8) ?hod8 (by kernel_rfl) ?hfd8 ?hrd8 ?hQd8 ?hyd8 hHeld ?restd8
      case hod8 => (simp only [List.getElem?_toArray, List.getElem?_cons_succ, List.getElem?_cons_zero]; exact rfl)
      case hfd8 => kernel_rfl
      case hrd8 => kernel_rfl
      case hQd8 => exact fun _ _ _ h => h
      case hyd8 =>
        refine Or.inl ⟨by rfl, ?_⟩
        intro V hSV
        have q0 := HH2.out.readT hSV 0 rfl
        have q1 := HH2.out.readT hSV 1 rfl
        go_simp
        (try with_reducible rfl)
      try simp only [Act.put, List.setIfInBounds_toArray, List.set_cons_zero, List.set_cons_succ]
      refine wpAnyH_ready (rs := [8]) (by kernel_rfl) (by simp) ?_
      refine AllReadyH.cons (o := ?od9) ?hod9 (fun K hK => ?kd9) ?md9
      case hod9 => (simp only [List.getElem?_toArray, List.getElem?_cons_succ, List.getElem?_cons_zero]; exact rfl)
      case kd9 =>
        go_simp
        refine (rMayFact_any p A1 n1 c1 l _ HL.out).mono ?_
        rintro e w4d9 ⟨rfl, hb4d9⟩
        rw [HMAY.out]
        (try dsimp only)
        refine hK.out _ _ ?_ (fun hHeld => ?_)
        · exact Below.trans (show Below W2.heap.size W2 _ from hHeld) (hb4d9.mono (Below.size (show Below W2.heap.size W2 _ from hHeld)))
        clear hK K
        try simp only [Act.put, List.setIfInBounds_toArray, List.set_cons_zero, List.set_cons_succ]
        refine wpAnyH_take (i := 9) (oi := ?oid10) (v := ?vd10) ?hod10 (by kernel_rfl) ?hfd10 ?hrd10 ?hQd10 ?hyd10 hHeld ?restd10
        case hod10 => (simp only [List.getElem?_toArray, List.getElem?_cons_succ, List.getElem?_cons_zero]; exact rfl)
        case hfd10 => kernel_rfl
        case hrd10 => kernel_rfl
        case hQd10 => exact fun _ _ _ h => h
        case hyd10 =>
          refine Or.inl ⟨by rfl, ?_⟩
          intro V hSV
          go_simp
          (try with_reducible rfl)
        try simp only [Act.put, List.setIfInBounds_toArray, List.set_cons_zero, List.set_cons_succ]
        refine wpAnyH_take (i := 10) (oi := ?oid11) (v := ?vd11) ?hod11 (by kernel_rfl) ?hfd11 ?hrd11 ?hQd11 ?hyd11 hHeld ?restd11
        case hod11 => (simp only [List.getElem?_toArray, List.getElem?_cons_succ, List.getElem?_cons_zero]; exact rfl)
        case hfd11 => kernel_rfl
        case hrd11 => kernel_rfl
        case hQd11 => exact fun _ _ _ h => h
        case hyd11 =>
          refine Or.inl ⟨by rfl, ?_⟩
          intro V hSV
          go_simp
          (try with_reducible rfl)
        try simp only [Act.put, List.setIfInBounds_toArray, List.set_cons_zero, List.set_cons_succ]
        refine wpAnyH_take (i := 11) (oi := ?oid12) (v := ?vd12) ?hod12 (by kernel_rfl) ?hfd12 ?hrd12 ?hQd12 ?hyd12 hHeld ?restd12
        case hod12 => (simp only [List.getElem?_toArray, List.getElem?_cons_succ, List.getElem?_cons_zero]; exact rfl)
        case hfd12 => kernel_rfl
        case hrd12 => kernel_rfl
        case hQd12 => exact fun _ _ _ h => h
        case hyd12 =>
          refine Or.inl ⟨by rfl, ?_⟩
          intro V hSV
          go_simp
          (try with_reducible rfl)
        try simp only [Act.put, List.setIfInBounds_toArray, List.set_cons_zero, List.set_cons_succ]
        refine wpAnyH_take (i := 12) (oi := ?oid13) (v := ?vd13) ?hod13 (by kernel_rfl) ?hfd13 ?hrd13 ?hQd13 ?hyd13 hHeld ?restd13
        case hod13 => (simp only [List.getElem?_toArray, List.getElem?_cons_succ, List.getElem?_cons_zero]; exact rfl)
        case hfd13 => kernel_rfl
        case hrd13 => kernel_rfl
        case hQd13 => exact fun _ _ _ h => h
        case hyd13 =>
          refine Or.inl ⟨by rfl, ?_⟩
          intro V hSV
          go_simp
          (try with_reducible rfl)
        try simp only [Act.put, List.setIfInBounds_toArray, List.set_cons_zero, List.set_cons_succ]
        refine wpAnyH_take (i := 13) (oi := ?oid14) (v := ?vd14) ?hod14 (by kernel_rfl) ?hfd14 ?hrd14 ?hQd14 ?hyd14 hHeld ?restd14
        case hod14 => (simp only [List.getElem?_toArray, List.getElem?_cons_succ, List.getElem?_cons_zero]; exact rfl)
        case hfd14 => kernel_rfl
        case hrd14 => kernel_rfl
        case hQd14 => exact fun _ _ _ h => h
        case hyd14 =>
          refine Or.inl ⟨by rfl, ?_⟩
          intro V hSV
          go_simp
          (try with_reducible rfl)
        try simp only [Act.put, List.setIfInBounds_toArray, List.set_cons_zero, List.set_cons_succ]
        refine wpAnyH_take (i := 14) (oi := ?oid15) (v := ?vd15) ?hod15 (by kernel_rfl) ?hfd15 ?hrd15 ?hQd15 ?hyd15 hHeld ?restd15
        case hod15 => (simp only [List.getElem?_toArray, List.getElem?_cons_succ, List.getElem?_cons_zero]; exact rfl)
        case hfd15 => kernel_rfl
        case hrd15 => kernel_rfl
        case hQd15 => exact fun _ _ _ h => h
        case hyd15 =>
          refine Or.inl ⟨by rfl, ?_⟩
          intro V hSV
          go_simp
          (try with_reducible rfl)
        try simp only [Act.put, List.setIfInBounds_toArray, List.set_cons_zero, List.set_cons_succ]
        refine wpAnyH_take (i := 15) (oi := ?oid16) (v := undef) ?hod16 (by kernel_rfl) ?hfd16 ?hrd16 ?hQd16 ?hyd16 hHeld ?restd16
        case hod16 => (simp only [List.getElem?_toArray, List.getElem?_cons_succ, List.getElem?_cons_zero]; exact rfl)
        case hfd16 => kernel_rfl
        case hrd16 => kernel_rfl
        case hQd16 => exact fun _ _ _ h => h
        case hyd16 =>
          exact Or.inr ⟨by rfl, rfl⟩
        try simp only [Act.put, List.setIfInBounds_toArray, List.set_cons_zero, List.set_cons_succ]
        refine wpAnyH_take (i := 16) (oi := ?oid17) (v := undef) ?hod17 (by kernel_rfl) ?hfd17 ?hrd17 ?hQd17 ?hyd17 hHeld ?restd17
        case hod17 => (simp only [List.getElem?_toArray, List.getElem?_cons_succ, List.getElem?_cons_zero]; exact rfl)
        case hfd17 => kernel_rfl
        case hrd17 => kernel_rfl
        case hQd17 => exact fun _ _ _ h => h
        case hyd17 =>
          exact Or.inr ⟨by rfl, rfl⟩
        try simp only [Act.put, List.setIfInBounds_toArray, List.set_cons_zero, List.set_cons_succ]
        refine wpAnyH_take (i := 17) (oi := ?oid18) (v := undef) ?hod18 (by kernel_rfl) ?hfd18 ?hrd18 ?hQd18 ?hyd18 hHeld ?restd18
        case hod18 => (simp only [List.getElem?_toArray, List.getElem?_cons_succ, List.getElem?_cons_zero]; exact rfl)
        case hfd18 => kernel_rfl
        case hrd18 => kernel_rfl
        case hQd18 => exact fun _ _ _ h => h
        case hyd18 =>
          exact Or.inr ⟨by rfl, rfl⟩
        try simp only [Act.put, List.setIfInBounds_toArray, List.set_cons_zero, List.set_cons_succ]
        refine wpAnyH_take (i := 18) (oi := ?oid19) (v := undef) ?hod19 (by kernel_rfl) ?hfd19 ?hrd19 ?hQd19 ?hyd19 hHeld ?restd19
        case hod19 => (simp only [List.getElem?_toArray, List.getElem?_cons_succ, List.getElem?_cons_zero]; exact rfl)
        case hfd19 => kernel_rfl
        case hrd19 => kernel_rfl
        case hQd19 => exact fun _ _ _ h => h
        case hyd19 =>
          exact Or.inr ⟨by rfl, rfl⟩
        try simp only [Act.put, List.setIfInBounds_toArray, List.set_cons_zero, List.set_cons_succ]
        refine wpAnyH_take (i := 19) (oi := ?oid20) (v := undef) ?hod20 (by kernel_rfl) ?hfd20 ?hrd20 ?hQd20 ?hyd20 hHeld ?restd20
        case hod20 => (simp only [List.getElem?_toArray, List.getElem?_cons_succ, List.getElem?_cons_zero]; exact rfl)
        case hfd20 => kernel_rfl
        case hrd20 => kernel_rfl
        case hQd20 => exact fun _ _ _ h => h
        case hyd20 =>
          exact Or.inr ⟨by rfl, rfl⟩
        try simp only [Act.put, List.setIfInBounds_toArray, List.set_cons_zero, List.set_cons_succ]
        refine wpAnyH_take (i := 20) (oi := ?oid21) (v := undef) ?hod21 (by kernel_rfl) ?hfd21 ?hrd21 ?hQd21 ?hyd21 hHeld ?restd21
        case hod21 => (simp only [List.getElem?_toArray, List.getElem?_cons_succ, List.getElem?_cons_zero]; exact rfl)
        case hfd21 => kernel_rfl
        case hrd21 => kernel_rfl
        case hQd21 => exact fun _ _ _ h => h
        case hyd21 =>
          exact Or.inr ⟨by rfl, rfl⟩
        try simp only [Act.put, List.setIfInBounds_toArray, List.set_cons_zero, List.set_cons_succ]
        refine wpAnyH_take (i := 21) (oi := ?oid22) (v := undef) ?hod22 (by kernel_rfl) ?hfd22 ?hrd22 ?hQd22 ?hyd22 hHeld ?restd22
        case hod22 => (simp only [List.getElem?_toArray, List.getElem?_cons_succ, List.getElem?_cons_zero]; exact rfl)
        case hfd22 => kernel_rfl
        case hrd22 => kernel_rfl
        case hQd22 => exact fun _ _ _ h => h
        case hyd22 =>
          exact Or.inr ⟨by rfl, rfl⟩
        try simp only [Act.put, List.setIfInBounds_toArray, List.set_cons_zero, List.set_cons_succ]
        refine wpAnyH_take (i := 22) (oi := ?oid23) (v := ?vd23) ?hod23 (by kernel_rfl) ?hfd23 ?hrd23 ?hQd23 ?hyd23 hHeld ?restd23
        case hod23 => (simp only [List.getElem?_toArray, List.getElem?_cons_succ, List.getElem?_cons_zero]; exact rfl)
        case hfd23 => kernel_rfl
        case hrd23 => kernel_rfl
        case hQd23 => exact fun _ _ _ h => h
        case hyd23 =>
          refine Or.inl ⟨by rfl, ?_⟩
          intro V hSV
          go_simp
          (try with_reducible rfl)
        try simp only [Act.put, List.setIfInBounds_toArray, List.set_cons_zero, List.set_cons_succ]
        refine wpAnyH_take (i := 23) (oi := ?oid24) (v := ?vd24) ?hod24 (by kernel_rfl) ?hfd24 ?hrd24 ?hQd24 ?hyd24 hHeld ?restd24
        case hod24 => (simp only [List.getElem?_toArray, List.getElem?_cons_succ, List.getElem?_cons_zero]; exact rfl)
        case hfd24 => kernel_rfl
        case hrd24 => kernel_rfl
        case hQd24 => exact fun _ _ _ h => h
        case hyd24 =>
          refine Or.inl ⟨by rfl, ?_⟩
          intro V hSV
          go_simp
          (try with_reducible rfl)
        try simp only [Act.put, List.setIfInBounds_toArray, List.set_cons_zero, List.set_cons_succ]
        refine wpAnyH_take (i := 24) (oi := ?oid25) (v := ?vd25) ?hod25 (by kernel_rfl) ?hfd25 ?hrd25 ?hQd25 ?hyd25 hHeld ?restd25
        case hod25 => (simp only [List.getElem?_toArray, List.getElem?_cons_succ, List.getElem?_cons_zero]; exact rfl)
        case hfd25 => kernel_rfl
        case hrd25 => kernel_rfl
        case hQd25 => exact fun _ _ _ h => h
        case hyd25 =>
          refine Or.inl ⟨by rfl, ?_⟩
          intro V hSV
          go_simp
          (try with_reducible rfl)
        try simp only [Act.put, List.setIfInBounds_toArray, List.set_cons_zero, List.set_cons_succ]
        refine wpAnyH_take (i := 25) (oi := ?oid26) (v := ?vd26) ?hod26 (by kernel_rfl) ?hfd26 ?hrd26 ?hQd26 ?hyd26 hHeld ?restd26
        case hod26 => (simp only [List.getElem?_toArray, List.getElem?_cons_succ, List.getElem?_cons_zero]; exact rfl)
        case hfd26 => kernel_rfl
        case hrd26 => kernel_rfl
        case hQd26 => exact fun _ _ _ h => h
        case hyd26 =>
          refine Or.inl ⟨by rfl, ?_⟩
          intro V hSV
          go_simp
          (try with_reducible rfl)
        try simp only [Act.put, List.setIfInBounds_toArray, List.set_cons_zero, List.set_cons_succ]
        refine wpAnyH_take (i := 26) (oi := ?oid27) (v := ?vd27) ?hod27 (by kernel_rfl) ?hfd27 ?hrd27 ?hQd27 ?hyd27 hHeld ?restd27
        case hod27 => (simp only [List.getElem?_toArray, List.getElem?_cons_succ, List.getElem?_cons_zero]; exact rfl)
        case hfd27 => kernel_rfl
        case hrd27 => kernel_rfl
        case hQd27 => exact fun _ _ _ h => h
        case hyd27 =>
          refine Or.inl ⟨by rfl, ?_⟩
          intro V hSV
          go_simp
          (try with_reducible rfl)
        try simp only [Act.put, List.setIfInBounds_toArray, List.set_cons_zero, List.set_cons_succ]
        refine wpAnyH_take (i := 27) (oi := ?oid28) (v := ?vd28) ?hod28 (by kernel_rfl) ?hfd28 ?hrd28 ?hQd28 ?hyd28 hHeld ?restd28
        case hod28 => (simp only [List.getElem?_toArray, List.getElem?_cons_succ, List.getElem?_cons_zero]; exact rfl)
        case hfd28 => kernel_rfl
        case hrd28 => kernel_rfl
        case hQd28 => exact fun _ _ _ h => h
        case hyd28 =>
          refine Or.inl ⟨by rfl, ?_⟩
          intro V hSV
          go_simp
          (try with_reducible rfl)
        try simp only [Act.put, List.setIfInBounds_toArray, List.set_cons_zero, List.set_cons_succ]
        refine wpAnyH_take (i := 28) (oi := ?oid29) (v := ?vd29) ?hod29 (by kernel_rfl) ?hfd29 ?hrd29 ?hQd29 ?hyd29 hHeld ?restd29
        case hod29 => (simp only [List.getElem?_toArray, List.getElem?_cons_succ, List.getElem?_cons_zero]; exact rfl)
        case hfd29 => kernel_rfl
        case hrd29 => kernel_rfl
        case hQd29 => exact fun _ _ _ h => h
        case hyd29 =>
          refine Or.inl ⟨by rfl, ?_⟩
          intro V hSV
          go_simp
          (try with_reducible rfl)
        try simp only [Act.put, List.setIfInBounds_toArray, List.set_cons_zero, List.set_cons_succ]
        refine wpAnyH_take (i := 29) (oi := ?oid30) (v := ?vd30) ?hod30 (by kernel_rfl) ?hfd30 ?hrd30 ?hQd30 ?hyd30 hHeld ?restd30
        case hod30 => (simp only [List.getElem?_toArray, List.getElem?_cons_succ, List.getElem?_cons_zero]; exact rfl)
        case hfd30 => kernel_rfl
        case hrd30 => kernel_rfl
        case hQd30 => exact fun _ _ _ h => h
        case hyd30 =>
          refine Or.inl ⟨by rfl, ?_⟩
          intro V hSV
          have q := run_conv_str (P := Try.prog) V 22 9 5 Try.underlying22 Try.underlying5 Try.underlying9 _ _ m' c' (bs ++ factB ((p, l) : Fa)) (Rd.below (Ow.rd HO2.out) hSV)
          go_simp
          (try with_reducible rfl)
        try simp only [Act.put, List.setIfInBounds_toArray, List.set_cons_zero, List.set_cons_succ]
        refine wpAnyH_take (i := 30) (oi := ?oid31) (v := ?vd31) ?hod31 (by kernel_rfl) ?hfd31 ?hrd31 ?hQd31 ?hyd31 hHeld ?restd31
        case hod31 => (simp only [List.getElem?_toArray, List.getElem?_cons_succ, List.getElem?_cons_zero]; exact rfl)
        case hfd31 => kernel_rfl
        case hrd31 => kernel_rfl
        case hQd31 => exact fun _ _ _ h => h
        case hyd31 =>
          refine Or.inl ⟨by rfl, ?_⟩
          intro V hSV
          go_simp
          (try with_reducible rfl)
        try simp only [Act.put, List.setIfInBounds_toArray, List.set_cons_zero, List.set_cons_succ]
        refine wpAnyH_take (i := 31) (oi := ?oid32) (v := ?vd32) ?hod32 (by kernel_rfl) ?hfd32 ?hrd32 ?hQd32 ?hyd32 hHeld ?restd32
        case hod32 => (simp only [List.getElem?_toArray, List.getElem?_cons_succ, List.getElem?_cons_zero]; exact rfl)
        case hfd32 => kernel_rfl
        case hrd32 => kernel_rfl
        case hQd32 => exact fun _ _ _ h => h
        case hyd32 =>
          refine Or.inl ⟨by rfl, ?_⟩
          intro V hSV
          have q := run_conv_str (P := Try.prog) V 22 9 5 Try.underlying22 Try.underlying5 Try.underlying9 _ _ n c bs (HR0.out.below hSV)
          go_simp
          (try with_reducible rfl)
        try simp only [Act.put, List.setIfInBounds_toArray, List.set_cons_zero, List.set_cons_succ]
        refine wpAnyH_take (i := 32) (oi := ?oid33) (v := ?vd33) ?hod33 (by kernel_rfl) ?hfd33 ?hrd33 ?hQd33 ?hyd33 hHeld ?restd33
        case hod33 => (simp only [List.getElem?_toArray, List.getElem?_cons_succ, List.getElem?_cons_zero]; exact rfl)
        case hfd33 => kernel_rfl
        case hrd33 => kernel_rfl
        case hQd33 => exact fun _ _ _ h => h
        case hyd33 =>
          refine Or.inl ⟨by rfl, ?_⟩
          intro V hSV
          have q0 := HH2.out.readT hSV 0 rfl
          have q1 := HH2.out.readT hSV 1 rfl
          go_simp
          (try with_reducible rfl)
        try simp only [Act.put, List.setIfInBounds_toArray, List.set_cons_zero, List.set_cons_succ]
        refine wpAnyH_ready (rs := [33]) (by kernel_rfl) (by simp) ?_
        refine AllReadyH.cons (o := ?od34) ?hod34 (fun K hK => ?kd34) ?md34
        case hod34 => (simp only [List.getElem?_toArray, List.getElem?_cons_succ, List.getElem?_cons_zero]; exact rfl)
        case kd34 =>
          go_simp
          refine (rFactB_any p A1 n1 c1 l _ ((HRF.out.below (show Below W2.heap.size W2 _ from hHeld)).more (Below.size (show Below W2.heap.size W2 _ from hHeld))) (by omega)).mono ?_
          rintro e w5 ⟨A5, m5, c5, rfl, ho5, hb5⟩
          (try dsimp only)
          refine hK.out _ _ ?_ (fun hHeld => ?_)
          · exact Below.trans (show Below W2.heap.size W2 _ from hHeld) (hb5.mono (Below.size (show Below W2.heap.size W2 _ from hHeld)))
          clear hK K
          try simp only [Act.put, List.setIfInBounds_toArray, List.set_cons_zero, List.set_cons_succ]
          refine wpAnyH_ready (rs := [34]) (by kernel_rfl) (by simp) ?_
          refine AllReadyH.cons (o := ?od35) ?hod35 (fun K hK => ?kd35) ?md35
          case hod35 => (simp only [List.getElem?_toArray, List.getElem?_cons_succ, List.getElem?_cons_zero]; exact rfl)
          case kd35 =>
            refine anyd_conv8 (by rfl) (.tmp 72) (by rfl) _ _ _ _ _ (by rfl) (Ow.rd ho5) ?_
            refine hK.out _ _ ?_ (fun hHeld => ?_)
            · exact (show Below W2.heap.size W2 _ from hHeld)
            clear hK K
            try simp only [Act.put, List.setIfInBounds_toArray, List.set_cons_zero, List.set_cons_succ]
            refine wpAnyH_take (i := 35) (oi := ?oid36) (v := .string ⟨(bs ++ factB ((p, l) : Fa)).toArray⟩) ?hod36 (by kernel_rfl) ?hfd36 ?hrd36 ?hQd36 ?hyd36 hHeld ?restd36
            case hod36 => (simp only [List.getElem?_toArray, List.getElem?_cons_succ, List.getElem?_cons_zero]; exact rfl)
            case hfd36 => kernel_rfl
            case hrd36 => kernel_rfl
            case hQd36 => exact fun _ _ _ h => h
            case hyd36 =>
              refine Or.inl ⟨by rfl, ?_⟩
              intro V hSV
              go_simp
              (rw [if_neg (by have := HLB.out; omega)]; rw [str_add])
            try simp only [Act.put, List.setIfInBounds_toArray, List.set_cons_zero, List.set_cons_succ]
            refine wpAnyH_take (i := 36) (oi := ?oid37) (v := .bool false) ?hod37 (by kernel_rfl) ?hfd37 ?hrd37 ?hQd37 ?hyd37 hHeld ?restd37
            case hod37 => (simp only [List.getElem?_toArray, List.getElem?_cons_succ, List.getElem?_cons_zero]; exact rfl)
            case hfd37 => kernel_rfl
            case hrd37 => kernel_rfl
            case hQd37 => exact fun _ _ _ h => h
            case hyd37 =>
              refine Or.inl ⟨by rfl, ?_⟩
              intro V hSV
              go_simp
              (try first | with_reducible rfl | simp | rfl)
            try simp only [Act.put, List.setIfInBounds_toArray, List.set_cons_zero, List.set_cons_succ]
            refine wpAnyH_take (i := 37) (oi := ?oid38) (v := ?vd38) ?hod38 (by kernel_rfl) ?hfd38 ?hrd38 ?hQd38 ?hyd38 hHeld ?restd38
            case hod38 => (simp only [List.getElem?_toArray, List.getElem?_cons_succ, List.getElem?_cons_zero]; exact rfl)
            case hfd38 => kernel_rfl
            case hrd38 => kernel_rfl
            case hQd38 => exact fun _ _ _ h => h
            case hyd38 =>
              refine Or.inl ⟨by rfl, ?_⟩
              intro V hSV
              go_simp
              (try with_reducible rfl)
            try simp only [Act.put, List.setIfInBounds_toArray, List.set_cons_zero, List.set_cons_succ]
            refine wpAnyH_take (i := 38) (oi := ?oid39) (v := ?vd39) ?hod39 (by kernel_rfl) ?hfd39 ?hrd39 ?hQd39 ?hyd39 hHeld ?restd39
            case hod39 => (simp only [List.getElem?_toArray, List.getElem?_cons_succ, List.getElem?_cons_zero]; exact rfl)
            case hfd39 => kernel_rfl
            case hrd39 => kernel_rfl
            case hQd39 => exact fun _ _ _ h => h
            case hyd39 =>
              refine Or.inl ⟨by rfl, ?_⟩
              intro V hSV
              go_simp
              (try with_reducible rfl)
            try simp only [Act.put, List.setIfInBounds_toArray, List.set_cons_zero, List.set_cons_succ]
            refine wpAnyH_done (by kernel_rfl) ?_ _
            have hvv : Below W2.heap.size W2 _ := hHeld
            clear hHeld
            have HV := Lib.hid (HU2.out.trans (Below.mono hvv HU2.out.size))
            clear hvv
            repeat (first | go_skip | go_guarded | go_step)
            refine (ok.takeFact A2 n2 c2 t bs2 _ ((HR2.out.below HV.out).more HV.out.size) hc2 (by omega) ht1 ht2).mono ?_
            rintro e W4 ⟨p4, A4, n4, d4, l4, y4, z4, rfl, hx4, hd4, hm4, hb4, ha4⟩
            have HV4 := Lib.hid (HV.out.trans (hb4.mono HV.out.size))
            have HX4 := Lib.hid hx4
            have HA4 := Lib.hid ha4
            clear hx4  hb4 ha4
            dsimp only
            go_upto_region 8 with (fail)
            obtain ⟨Z, hZ, hZa, hZw⟩ : ∃ Z, Z = W4.alloc (.cells #[nv p4, .slice A4 n4 d4] 26) ∧ Bk Z W4.heap.size 26 [nv p4, .slice A4 n4 d4] ∧ Below W4.heap.size W4 Z := ⟨_, rfl, Bk.new W4 _ _, (Below.refl _ _).alloc (Nat.le_refl _) _⟩
            rw [← hZ]
            clear hZ
            have HV5 := Lib.hid (HV4.out.trans (hZw.mono HV4.out.size))
            have HX4 := Lib.hid ((HX4.out.below hZw).more hZw.size)
            have HZ := Lib.hid hZa
            generalize W4.heap.size = gz at hZa HZ ⊢
            clear hZa hZw
            repeat (first | go_skip | go_guarded | go_step)
            refine (rTakeFact_any A2 n2 c2 t bs2 _ ((HR2.out.below HV5.out).more HV5.out.size) hc2 (by omega)).mono ?_
            rintro e W5 ⟨p5, A5, n5, d5, l5, y5, z5, rfl, ho5, hm5, hb5, ha5⟩
            have HV6 := Lib.hid (HV5.out.trans (hb5.mono HV5.out.size))
            have HX5 := Lib.hid (OwU.rd ho5)
            have HX4 := Lib.hid ((HX4.out.below hb5).more hb5.size)
            have HZ := Lib.hid (HZ.out.later hb5)
            have he := HA4.out.trans ha5.symm
            simp only [Prod.mk.injEq] at he
            obtain ⟨⟨rfl, rfl⟩, rfl, rfl⟩ := he
            clear ho5 hb5 ha5 HA4
            dsimp only
            go_upto_region 9 with (fail)
            obtain ⟨Y, hY, hYa, hYw⟩ : ∃ Y, Y = W5.alloc (.cells #[nv p4, .slice A5 n5 d5] 26) ∧ Bk Y W5.heap.size 26 [nv p4, .slice A5 n5 d5] ∧ Below W5.heap.size W5 Y := ⟨_, rfl, Bk.new W5 _ _, (Below.refl _ _).alloc (Nat.le_refl _) _⟩
            rw [← hY]
            clear hY
            have HV7 := Lib.hid (HV6.out.trans (hYw.mono HV6.out.size))
            have HX4 := Lib.hid ((HX4.out.below hYw).more hYw.size)
            have HX5 := Lib.hid ((HX5.out.below hYw).more hYw.size)
            have HZ := HZ.out.later hYw
            generalize W5.heap.size = gy at hYa ⊢
            have i0 := HZ.readT (Below.refl _ _) 0 rfl
            have j0 := hYa.readT (Below.refl _ _) 0 rfl
            have i1 := HZ.readT (Below.refl _ _) 1 rfl
            have j1 := hYa.readT (Below.refl _ _) 1 rfl
            clear hYa hYw HZ
            repeat (first | go_skip | go_guarded | go_step)
            refine (rSameFact_any p4 p4 A4 A5 n4 d4 n5 d5 l4 l4 Y HX4.out HX5.out (by omega)).mono ?_
            rintro e W6 ⟨rfl, hb6⟩
            have HV8 := Lib.hid (HV7.out.trans (hb6.mono HV7.out.size))
            clear hb6 i0 j0 i1 j1
            rw [decide_eq_true rfl]
            dsimp only
            repeat (first | go_skip | go_guarded | go_step)
            refine (wWorks_any ok _).mono ?_
            rintro e W7 ⟨rfl, hb7⟩
            have HV9 := Lib.hid (HV8.out.trans (hb7.mono HV8.out.size))
            clear hb7
            dsimp only
            repeat (first | go_skip | go_guarded | go_step)
            go_ret
            exact ⟨rfl, hhw ▸ HB.out.trans (HV9.out.mono HB.out.size)⟩
          exact AllReadyH.nil
        exact AllReadyH.nil
      exact AllReadyH.nil
    exact AllReadyH.nil
  · have HMAY := Lib.hid hmay
    clear hmay
    obtain rfl : m' = 0 := (Ow.len HO2.out).symm
    go_upto_region 5 with (fail)
    refine wp_region_held_drew (S := fun V => Below W2.heap.size W2 V) (by kernel_rfl) ?_ (fun hHeld => ?_)
    · exact (Below.refl W2.heap.size W2).drew
    refine wpAnyH_take (i := 0) (oi := ?oid40) (v := ?vd40) ?hod40 (by kernel_rfl) ?hfd40 ?hrd40 ?hQd40 ?hyd40 hHeld ?restd40
    case hod40 => (simp only [List.getElem?_toArray, List.getElem?_cons_succ, List.getElem?_cons_zero]; exact rfl)
    case hfd40 => kernel_rfl
    case hrd40 => kernel_rfl
    case hQd40 => exact fun _ _ _ h => h
    case hyd40 =>
      refine Or.inl ⟨by rfl, ?_⟩
      intro V hSV
      go_simp
      (try with_reducible rfl)
    try simp only [Act.put, List.setIfInBounds_toArray, List.set_cons_zero, List.set_cons_succ]
    refine wpAnyH_take (i := 1) (oi := ?oid41) (v := ?vd41) ?hod41 (by kernel_rfl) ?hfd41 ?hrd41 ?hQd41 ?hyd41 hHeld ?restd41
    case hod41 => (simp only [List.getElem?_toArray, List.getElem?_cons_succ, List.getElem?_cons_zero]; exact rfl)
    case hfd41 => kernel_rfl
    case hrd41 => kernel_rfl
    case hQd41 => exact fun _ _ _ h => h
    case hyd41 =>
      refine Or.inl ⟨by rfl, ?_⟩
      intro V hSV
      go_simp
      (try with_reducible rfl)
    try simp only [Act.put, List.setIfInBounds_toArray, List.set_cons_zero, List.set_cons_succ]
    refine wpAnyH_ready (rs := [2]) (by kernel_rfl) (by simp) ?_
    refine AllReadyH.cons (o := ?od42) ?hod42 (fun K hK => ?kd42) ?md42
    case hod42 => (simp only [List.getElem?_toArray, List.getElem?_cons_succ, List.getElem?_cons_zero]; exact rfl)
    case kd42 =>
      go_simp
      refine (keptW_any q1 A n c _ bs _ (HB2.out.later (show Below W2.heap.size W2 _ from hHeld)) (HR0.out.below (show Below W2.heap.size W2 _ from hHeld)) (by omega)).mono ?_
      rintro e w3 ⟨rfl, rfl⟩
      (try dsimp only)
      refine hK.out _ _ ?_ (fun hHeld => ?_)
      · exact (show Below W2.heap.size W2 _ from hHeld)
      clear hK K
      try simp only [Act.put, List.setIfInBounds_toArray, List.set_cons_zero, List.set_cons_succ]
      refine wpAnyH_take (i := 3) (oi := ?oid43) (v := ?vd43) ?hod43 (by kernel_rfl) ?hfd43 ?hrd43 ?hQd43 ?hyd43 hHeld ?restd43
      case hod43 => (simp only [List.getElem?_toArray, List.getElem?_cons_succ, List.getElem?_cons_zero]; exact rfl)
      case hfd43 => kernel_rfl
      case hrd43 => kernel_rfl
      case hQd43 => exact fun _ _ _ h => h
      case hyd43 =>
        refine Or.inl ⟨by rfl, ?_⟩
        intro V hSV
        go_simp
        (try with_reducible rfl)
      try simp only [Act.put, List.setIfInBounds_toArray, List.set_cons_zero, List.set_cons_succ]
      refine wpAnyH_take (i := 4) (oi := ?oid44) (v := ?vd44) ?hod44 (by kernel_rfl) ?hfd44 ?hrd44 ?hQd44 ?hyd44 hHeld ?restd44
      case hod44 => (simp only [List.getElem?_toArray, List.getElem?_cons_succ, List.getElem?_cons_zero]; exact rfl)
      case hfd44 => kernel_rfl
      case hrd44 => kernel_rfl
      case hQd44 => exact fun _ _ _ h => h
      case hyd44 =>
        refine Or.inl ⟨by rfl, ?_⟩
        intro V hSV
        go_simp
        (try with_reducible rfl)
      try simp only [Act.put, List.setIfInBounds_toArray, List.set_cons_zero, List.set_cons_succ]
      refine wpAnyH_take (i := 5) (oi := ?oid45) (v := ?vd45) ?hod45 (by kernel_rfl) ?hfd45 ?hrd45 ?hQd45 ?hyd45 hHeld ?restd45
      case hod45 => (simp only [List.getElem?_toArray, List.getElem?_cons_succ, List.getElem?_cons_zero]; exact rfl)
      case hfd45 => kernel_rfl
      case hrd45 => kernel_rfl
      case hQd45 => exact fun _ _ _ h => h
      case hyd45 =>
        refine Or.inl ⟨by rfl, ?_⟩
        intro V hSV
        go_simp
        (try with_reducible rfl)
      try simp only [Act.put, List.setIfInBounds_toArray, List.set_cons_zero, List.set_cons_succ]
      refine wpAnyH_take (i := 6) (oi := ?oid46) (v := ?vd46) ?hod46 (by kernel_rfl) ?hfd46 ?hrd46 ?hQd46 ?hyd46 hHeld ?restd46
      case hod46 => (simp only [List.getElem?_toArray, List.getElem?_cons_succ, List.getElem?_cons_zero]; exact rfl)
      case hfd46 => kernel_rfl
      case hrd46 => kernel_rfl
      case hQd46 => exact fun _ _ _ h => h
      case hyd46 =>
        refine Or.inl ⟨by rfl, ?_⟩
        intro V hSV
        go_simp
        (try with_reducible rfl)
      try simp only [Act.put, List.setIfInBounds_toArray, List.set_cons_zero, List.set_cons_succ]
      refine wpAnyH_take (i := 7) (oi := ?oid47) (v := ?vd47) ?hod47 (by kernel_rfl) ?hfd47 ?hrd47 ?hQd47 ?hyd47 hHeld ?restd47
      case hod47 => (simp only [List.getElem?_toArray, List.getElem?_cons_succ, List.getElem?_cons_zero]; exact rfl)
      case hfd47 => kernel_rfl
      case hrd47 => kernel_rfl
      case hQd47 => exact fun _ _ _ h => h
      case hyd47 =>
        refine Or.inl ⟨by rfl, ?_⟩
        intro V hSV
        have q0 := HH2.out.readT hSV 0 rfl
        have q1 := HH2.out.readT hSV 1 rfl
        go_simp
        (try with_reducible rfl)
      try simp only [Act.put, List.setIfInBounds_toArray, List.set_cons_zero, List.set_cons_succ]
      refine wpAnyH_ready (rs := [8]) (by kernel_rfl) (by simp) ?_
      refine AllReadyH.cons (o := ?od48) ?hod48 (fun K hK => ?kd48) ?md48
      case hod48 => (simp only [List.getElem?_toArray, List.getElem?_cons_succ, List.getElem?_cons_zero]; exact rfl)
      case kd48 =>
        go_simp
        refine (rMayFact_any p A1 n1 c1 l _ HL.out).mono ?_
        rintro e w4d48 ⟨rfl, hb4d48⟩
        rw [HMAY.out]
        (try dsimp only)
        refine hK.out _ _ ?_ (fun hHeld => ?_)
        · exact Below.trans (show Below W2.heap.size W2 _ from hHeld) (hb4d48.mono (Below.size (show Below W2.heap.size W2 _ from hHeld)))
        clear hK K
        try simp only [Act.put, List.setIfInBounds_toArray, List.set_cons_zero, List.set_cons_succ]
        refine wpAnyH_take (i := 9) (oi := ?oid49) (v := ?vd49) ?hod49 (by kernel_rfl) ?hfd49 ?hrd49 ?hQd49 ?hyd49 hHeld ?restd49
        case hod49 => (simp only [List.getElem?_toArray, List.getElem?_cons_succ, List.getElem?_cons_zero]; exact rfl)
        case hfd49 => kernel_rfl
        case hrd49 => kernel_rfl
        case hQd49 => exact fun _ _ _ h => h
        case hyd49 =>
          refine Or.inl ⟨by rfl, ?_⟩
          intro V hSV
          go_simp
          (try with_reducible rfl)
        try simp only [Act.put, List.setIfInBounds_toArray, List.set_cons_zero, List.set_cons_succ]
        refine wpAnyH_take (i := 10) (oi := ?oid50) (v := ?vd50) ?hod50 (by kernel_rfl) ?hfd50 ?hrd50 ?hQd50 ?hyd50 hHeld ?restd50
        case hod50 => (simp only [List.getElem?_toArray, List.getElem?_cons_succ, List.getElem?_cons_zero]; exact rfl)
        case hfd50 => kernel_rfl
        case hrd50 => kernel_rfl
        case hQd50 => exact fun _ _ _ h => h
        case hyd50 =>
          refine Or.inl ⟨by rfl, ?_⟩
          intro V hSV
          go_simp
          (try with_reducible rfl)
        try simp only [Act.put, List.setIfInBounds_toArray, List.set_cons_zero, List.set_cons_succ]
        refine wpAnyH_take (i := 11) (oi := ?oid51) (v := ?vd51) ?hod51 (by kernel_rfl) ?hfd51 ?hrd51 ?hQd51 ?hyd51 hHeld ?restd51
        case hod51 => (simp only [List.getElem?_toArray, List.getElem?_cons_succ, List.getElem?_cons_zero]; exact rfl)
        case hfd51 => kernel_rfl
        case hrd51 => kernel_rfl
        case hQd51 => exact fun _ _ _ h => h
        case hyd51 =>
          refine Or.inl ⟨by rfl, ?_⟩
          intro V hSV
          go_simp
          (try with_reducible rfl)
        try simp only [Act.put, List.setIfInBounds_toArray, List.set_cons_zero, List.set_cons_succ]
        refine wpAnyH_take (i := 12) (oi := ?oid52) (v := ?vd52) ?hod52 (by kernel_rfl) ?hfd52 ?hrd52 ?hQd52 ?hyd52 hHeld ?restd52
        case hod52 => (simp only [List.getElem?_toArray, List.getElem?_cons_succ, List.getElem?_cons_zero]; exact rfl)
        case hfd52 => kernel_rfl
        case hrd52 => kernel_rfl
        case hQd52 => exact fun _ _ _ h => h
        case hyd52 =>
          refine Or.inl ⟨by rfl, ?_⟩
          intro V hSV
          go_simp
          (try with_reducible rfl)
        try simp only [Act.put, List.setIfInBounds_toArray, List.set_cons_zero, List.set_cons_succ]
        refine wpAnyH_take (i := 13) (oi := ?oid53) (v := ?vd53) ?hod53 (by kernel_rfl) ?hfd53 ?hrd53 ?hQd53 ?hyd53 hHeld ?restd53
        case hod53 => (simp only [List.getElem?_toArray, List.getElem?_cons_succ, List.getElem?_cons_zero]; exact rfl)
        case hfd53 => kernel_rfl
        case hrd53 => kernel_rfl
        case hQd53 => exact fun _ _ _ h => h
        case hyd53 =>
          refine Or.inl ⟨by rfl, ?_⟩
          intro V hSV
          go_simp
          (try with_reducible rfl)
        try simp only [Act.put, List.setIfInBounds_toArray, List.set_cons_zero, List.set_cons_succ]
        refine wpAnyH_take (i := 14) (oi := ?oid54) (v := ?vd54) ?hod54 (by kernel_rfl) ?hfd54 ?hrd54 ?hQd54 ?hyd54 hHeld ?restd54
        case hod54 => (simp only [List.getElem?_toArray, List.getElem?_cons_succ, List.getElem?_cons_zero]; exact rfl)
        case hfd54 => kernel_rfl
        case hrd54 => kernel_rfl
        case hQd54 => exact fun _ _ _ h => h
        case hyd54 =>
          refine Or.inl ⟨by rfl, ?_⟩
          intro V hSV
          go_simp
          (try with_reducible rfl)
        try simp only [Act.put, List.setIfInBounds_toArray, List.set_cons_zero, List.set_cons_succ]
        refine wpAnyH_take (i := 15) (oi := ?oid55) (v := ?vd55) ?hod55 (by kernel_rfl) ?hfd55 ?hrd55 ?hQd55 ?hyd55 hHeld ?restd55
        case hod55 => (simp only [List.getElem?_toArray, List.getElem?_cons_succ, List.getElem?_cons_zero]; exact rfl)
        case hfd55 => kernel_rfl
        case hrd55 => kernel_rfl
        case hQd55 => exact fun _ _ _ h => h
        case hyd55 =>
          refine Or.inl ⟨by rfl, ?_⟩
          intro V hSV
          go_simp
          (try with_reducible rfl)
        try simp only [Act.put, List.setIfInBounds_toArray, List.set_cons_zero, List.set_cons_succ]
        refine wpAnyH_take (i := 16) (oi := ?oid56) (v := ?vd56) ?hod56 (by kernel_rfl) ?hfd56 ?hrd56 ?hQd56 ?hyd56 hHeld ?restd56
        case hod56 => (simp only [List.getElem?_toArray, List.getElem?_cons_succ, List.getElem?_cons_zero]; exact rfl)
        case hfd56 => kernel_rfl
        case hrd56 => kernel_rfl
        case hQd56 => exact fun _ _ _ h => h
        case hyd56 =>
          refine Or.inl ⟨by rfl, ?_⟩
          intro V hSV
          go_simp
          (try with_reducible rfl)
        try simp only [Act.put, List.setIfInBounds_toArray, List.set_cons_zero, List.set_cons_succ]
        refine wpAnyH_take (i := 17) (oi := ?oid57) (v := ?vd57) ?hod57 (by kernel_rfl) ?hfd57 ?hrd57 ?hQd57 ?hyd57 hHeld ?restd57
        case hod57 => (simp only [List.getElem?_toArray, List.getElem?_cons_succ, List.getElem?_cons_zero]; exact rfl)
        case hfd57 => kernel_rfl
        case hrd57 => kernel_rfl
        case hQd57 => exact fun _ _ _ h => h
        case hyd57 =>
          refine Or.inl ⟨by rfl, ?_⟩
          intro V hSV
          go_simp
          (try with_reducible rfl)
        try simp only [Act.put, List.setIfInBounds_toArray, List.set_cons_zero, List.set_cons_succ]
        refine wpAnyH_take (i := 18) (oi := ?oid58) (v := ?vd58) ?hod58 (by kernel_rfl) ?hfd58 ?hrd58 ?hQd58 ?hyd58 hHeld ?restd58
        case hod58 => (simp only [List.getElem?_toArray, List.getElem?_cons_succ, List.getElem?_cons_zero]; exact rfl)
        case hfd58 => kernel_rfl
        case hrd58 => kernel_rfl
        case hQd58 => exact fun _ _ _ h => h
        case hyd58 =>
          refine Or.inl ⟨by rfl, ?_⟩
          intro V hSV
          go_simp
          (try with_reducible rfl)
        try simp only [Act.put, List.setIfInBounds_toArray, List.set_cons_zero, List.set_cons_succ]
        refine wpAnyH_take (i := 19) (oi := ?oid59) (v := ?vd59) ?hod59 (by kernel_rfl) ?hfd59 ?hrd59 ?hQd59 ?hyd59 hHeld ?restd59
        case hod59 => (simp only [List.getElem?_toArray, List.getElem?_cons_succ, List.getElem?_cons_zero]; exact rfl)
        case hfd59 => kernel_rfl
        case hrd59 => kernel_rfl
        case hQd59 => exact fun _ _ _ h => h
        case hyd59 =>
          refine Or.inl ⟨by rfl, ?_⟩
          intro V hSV
          go_simp
          (try with_reducible rfl)
        try simp only [Act.put, List.setIfInBounds_toArray, List.set_cons_zero, List.set_cons_succ]
        refine wpAnyH_take (i := 20) (oi := ?oid60) (v := ?vd60) ?hod60 (by kernel_rfl) ?hfd60 ?hrd60 ?hQd60 ?hyd60 hHeld ?restd60
        case hod60 => (simp only [List.getElem?_toArray, List.getElem?_cons_succ, List.getElem?_cons_zero]; exact rfl)
        case hfd60 => kernel_rfl
        case hrd60 => kernel_rfl
        case hQd60 => exact fun _ _ _ h => h
        case hyd60 =>
          refine Or.inl ⟨by rfl, ?_⟩
          intro V hSV
          go_simp
          (try with_reducible rfl)
        try simp only [Act.put, List.setIfInBounds_toArray, List.set_cons_zero, List.set_cons_succ]
        refine wpAnyH_take (i := 21) (oi := ?oid61) (v := ?vd61) ?hod61 (by kernel_rfl) ?hfd61 ?hrd61 ?hQd61 ?hyd61 hHeld ?restd61
        case hod61 => (simp only [List.getElem?_toArray, List.getElem?_cons_succ, List.getElem?_cons_zero]; exact rfl)
        case hfd61 => kernel_rfl
        case hrd61 => kernel_rfl
        case hQd61 => exact fun _ _ _ h => h
        case hyd61 =>
          refine Or.inl ⟨by rfl, ?_⟩
          intro V hSV
          go_simp
          (try with_reducible rfl)
        try simp only [Act.put, List.setIfInBounds_toArray, List.set_cons_zero, List.set_cons_succ]
        refine wpAnyH_take (i := 22) (oi := ?oid62) (v := ?vd62) ?hod62 (by kernel_rfl) ?hfd62 ?hrd62 ?hQd62 ?hyd62 hHeld ?restd62
        case hod62 => (simp only [List.getElem?_toArray, List.getElem?_cons_succ, List.getElem?_cons_zero]; exact rfl)
        case hfd62 => kernel_rfl
        case hrd62 => kernel_rfl
        case hQd62 => exact fun _ _ _ h => h
        case hyd62 =>
          refine Or.inl ⟨by rfl, ?_⟩
          intro V hSV
          go_simp
          (try with_reducible rfl)
        try simp only [Act.put, List.setIfInBounds_toArray, List.set_cons_zero, List.set_cons_succ]
        refine wpAnyH_take (i := 23) (oi := ?oid63) (v := ?vd63) ?hod63 (by kernel_rfl) ?hfd63 ?hrd63 ?hQd63 ?hyd63 hHeld ?restd63
        case hod63 => (simp only [List.getElem?_toArray, List.getElem?_cons_succ, List.getElem?_cons_zero]; exact rfl)
        case hfd63 => kernel_rfl
        case hrd63 => kernel_rfl
        case hQd63 => exact fun _ _ _ h => h
        case hyd63 =>
          refine Or.inl ⟨by rfl, ?_⟩
          intro V hSV
          go_simp
          (try with_reducible rfl)
        try simp only [Act.put, List.setIfInBounds_toArray, List.set_cons_zero, List.set_cons_succ]
        refine wpAnyH_take (i := 24) (oi := ?oid64) (v := ?vd64) ?hod64 (by kernel_rfl) ?hfd64 ?hrd64 ?hQd64 ?hyd64 hHeld ?restd64
        case hod64 => (simp only [List.getElem?_toArray, List.getElem?_cons_succ, List.getElem?_cons_zero]; exact rfl)
        case hfd64 => kernel_rfl
        case hrd64 => kernel_rfl
        case hQd64 => exact fun _ _ _ h => h
        case hyd64 =>
          refine Or.inl ⟨by rfl, ?_⟩
          intro V hSV
          go_simp
          (try with_reducible rfl)
        try simp only [Act.put, List.setIfInBounds_toArray, List.set_cons_zero, List.set_cons_succ]
        refine wpAnyH_take (i := 25) (oi := ?oid65) (v := ?vd65) ?hod65 (by kernel_rfl) ?hfd65 ?hrd65 ?hQd65 ?hyd65 hHeld ?restd65
        case hod65 => (simp only [List.getElem?_toArray, List.getElem?_cons_succ, List.getElem?_cons_zero]; exact rfl)
        case hfd65 => kernel_rfl
        case hrd65 => kernel_rfl
        case hQd65 => exact fun _ _ _ h => h
        case hyd65 =>
          refine Or.inl ⟨by rfl, ?_⟩
          intro V hSV
          go_simp
          (try with_reducible rfl)
        try simp only [Act.put, List.setIfInBounds_toArray, List.set_cons_zero, List.set_cons_succ]
        refine wpAnyH_take (i := 26) (oi := ?oid66) (v := ?vd66) ?hod66 (by kernel_rfl) ?hfd66 ?hrd66 ?hQd66 ?hyd66 hHeld ?restd66
        case hod66 => (simp only [List.getElem?_toArray, List.getElem?_cons_succ, List.getElem?_cons_zero]; exact rfl)
        case hfd66 => kernel_rfl
        case hrd66 => kernel_rfl
        case hQd66 => exact fun _ _ _ h => h
        case hyd66 =>
          refine Or.inl ⟨by rfl, ?_⟩
          intro V hSV
          go_simp
          (try with_reducible rfl)
        try simp only [Act.put, List.setIfInBounds_toArray, List.set_cons_zero, List.set_cons_succ]
        refine wpAnyH_take (i := 27) (oi := ?oid67) (v := ?vd67) ?hod67 (by kernel_rfl) ?hfd67 ?hrd67 ?hQd67 ?hyd67 hHeld ?restd67
        case hod67 => (simp only [List.getElem?_toArray, List.getElem?_cons_succ, List.getElem?_cons_zero]; exact rfl)
        case hfd67 => kernel_rfl
        case hrd67 => kernel_rfl
        case hQd67 => exact fun _ _ _ h => h
        case hyd67 =>
          refine Or.inl ⟨by rfl, ?_⟩
          intro V hSV
          go_simp
          (try with_reducible rfl)
        try simp only [Act.put, List.setIfInBounds_toArray, List.set_cons_zero, List.set_cons_succ]
        refine wpAnyH_take (i := 28) (oi := ?oid68) (v := undef) ?hod68 (by kernel_rfl) ?hfd68 ?hrd68 ?hQd68 ?hyd68 hHeld ?restd68
        case hod68 => (simp only [List.getElem?_toArray, List.getElem?_cons_succ, List.getElem?_cons_zero]; exact rfl)
        case hfd68 => kernel_rfl
        case hrd68 => kernel_rfl
        case hQd68 => exact fun _ _ _ h => h
        case hyd68 =>
          exact Or.inr ⟨by rfl, rfl⟩
        try simp only [Act.put, List.setIfInBounds_toArray, List.set_cons_zero, List.set_cons_succ]
        refine wpAnyH_take (i := 29) (oi := ?oid69) (v := undef) ?hod69 (by kernel_rfl) ?hfd69 ?hrd69 ?hQd69 ?hyd69 hHeld ?restd69
        case hod69 => (simp only [List.getElem?_toArray, List.getElem?_cons_succ, List.getElem?_cons_zero]; exact rfl)
        case hfd69 => kernel_rfl
        case hrd69 => kernel_rfl
        case hQd69 => exact fun _ _ _ h => h
        case hyd69 =>
          exact Or.inr ⟨by rfl, rfl⟩
        try simp only [Act.put, List.setIfInBounds_toArray, List.set_cons_zero, List.set_cons_succ]
        refine wpAnyH_take (i := 30) (oi := ?oid70) (v := undef) ?hod70 (by kernel_rfl) ?hfd70 ?hrd70 ?hQd70 ?hyd70 hHeld ?restd70
        case hod70 => (simp only [List.getElem?_toArray, List.getElem?_cons_succ, List.getElem?_cons_zero]; exact rfl)
        case hfd70 => kernel_rfl
        case hrd70 => kernel_rfl
        case hQd70 => exact fun _ _ _ h => h
        case hyd70 =>
          exact Or.inr ⟨by rfl, rfl⟩
        try simp only [Act.put, List.setIfInBounds_toArray, List.set_cons_zero, List.set_cons_succ]
        refine wpAnyH_take (i := 31) (oi := ?oid71) (v := undef) ?hod71 (by kernel_rfl) ?hfd71 ?hrd71 ?hQd71 ?hyd71 hHeld ?restd71
        case hod71 => (simp only [List.getElem?_toArray, List.getElem?_cons_succ, List.getElem?_cons_zero]; exact rfl)
        case hfd71 => kernel_rfl
        case hrd71 => kernel_rfl
        case hQd71 => exact fun _ _ _ h => h
        case hyd71 =>
          exact Or.inr ⟨by rfl, rfl⟩
        try simp only [Act.put, List.setIfInBounds_toArray, List.set_cons_zero, List.set_cons_succ]
        refine wpAnyH_take (i := 32) (oi := ?oid72) (v := undef) ?hod72 (by kernel_rfl) ?hfd72 ?hrd72 ?hQd72 ?hyd72 hHeld ?restd72
        case hod72 => (simp only [List.getElem?_toArray, List.getElem?_cons_succ, List.getElem?_cons_zero]; exact rfl)
        case hfd72 => kernel_rfl
        case hrd72 => kernel_rfl
        case hQd72 => exact fun _ _ _ h => h
        case hyd72 =>
          exact Or.inr ⟨by rfl, rfl⟩
        try simp only [Act.put, List.setIfInBounds_toArray, List.set_cons_zero, List.set_cons_succ]
        refine wpAnyH_take (i := 33) (oi := ?oid73) (v := undef) ?hod73 (by kernel_rfl) ?hfd73 ?hrd73 ?hQd73 ?hyd73 hHeld ?restd73
        case hod73 => (simp only [List.getElem?_toArray, List.getElem?_cons_succ, List.getElem?_cons_zero]; exact rfl)
        case hfd73 => kernel_rfl
        case hrd73 => kernel_rfl
        case hQd73 => exact fun _ _ _ h => h
        case hyd73 =>
          exact Or.inr ⟨by rfl, rfl⟩
        try simp only [Act.put, List.setIfInBounds_toArray, List.set_cons_zero, List.set_cons_succ]
        refine wpAnyH_take (i := 34) (oi := ?oid74) (v := undef) ?hod74 (by kernel_rfl) ?hfd74 ?hrd74 ?hQd74 ?hyd74 hHeld ?restd74
        case hod74 => (simp only [List.getElem?_toArray, List.getElem?_cons_succ, List.getElem?_cons_zero]; exact rfl)
        case hfd74 => kernel_rfl
        case hrd74 => kernel_rfl
        case hQd74 => exact fun _ _ _ h => h
        case hyd74 =>
          exact Or.inr ⟨by rfl, rfl⟩
        try simp only [Act.put, List.setIfInBounds_toArray, List.set_cons_zero, List.set_cons_succ]
        refine wpAnyH_take (i := 35) (oi := ?oid75) (v := undef) ?hod75 (by kernel_rfl) ?hfd75 ?hrd75 ?hQd75 ?hyd75 hHeld ?restd75
        case hod75 => (simp only [List.getElem?_toArray, List.getElem?_cons_succ, List.getElem?_cons_zero]; exact rfl)
        case hfd75 => kernel_rfl
        case hrd75 => kernel_rfl
        case hQd75 => exact fun _ _ _ h => h
        case hyd75 =>
          exact Or.inr ⟨by rfl, rfl⟩
        try simp only [Act.put, List.setIfInBounds_toArray, List.set_cons_zero, List.set_cons_succ]
        refine wpAnyH_take (i := 36) (oi := ?oid76) (v := undef) ?hod76 (by kernel_rfl) ?hfd76 ?hrd76 ?hQd76 ?hyd76 hHeld ?restd76
        case hod76 => (simp only [List.getElem?_toArray, List.getElem?_cons_succ, List.getElem?_cons_zero]; exact rfl)
        case hfd76 => kernel_rfl
        case hrd76 => kernel_rfl
        case hQd76 => exact fun _ _ _ h => h
        case hyd76 =>
          exact Or.inr ⟨by rfl, rfl⟩
        try simp only [Act.put, List.setIfInBounds_toArray, List.set_cons_zero, List.set_cons_succ]
        refine wpAnyH_take (i := 37) (oi := ?oid77) (v := ?vd77) ?hod77 (by kernel_rfl) ?hfd77 ?hrd77 ?hQd77 ?hyd77 hHeld ?restd77
        case hod77 => (simp only [List.getElem?_toArray, List.getElem?_cons_succ, List.getElem?_cons_zero]; exact rfl)
        case hfd77 => kernel_rfl
        case hrd77 => kernel_rfl
        case hQd77 => exact fun _ _ _ h => h
        case hyd77 =>
          refine Or.inl ⟨by rfl, ?_⟩
          intro V hSV
          go_simp
          (try with_reducible rfl)
        try simp only [Act.put, List.setIfInBounds_toArray, List.set_cons_zero, List.set_cons_succ]
        refine wpAnyH_take (i := 38) (oi := ?oid78) (v := ?vd78) ?hod78 (by kernel_rfl) ?hfd78 ?hrd78 ?hQd78 ?hyd78 hHeld ?restd78
        case hod78 => (simp only [List.getElem?_toArray, List.getElem?_cons_succ, List.getElem?_cons_zero]; exact rfl)
        case hfd78 => kernel_rfl
        case hrd78 => kernel_rfl
        case hQd78 => exact fun _ _ _ h => h
        case hyd78 =>
          refine Or.inl ⟨by rfl, ?_⟩
          intro V hSV
          go_simp
          (try with_reducible rfl)
        try simp only [Act.put, List.setIfInBounds_toArray, List.set_cons_zero, List.set_cons_succ]
        refine wpAnyH_done (by kernel_rfl) ?_ _
        have hvv : Below W2.heap.size W2 _ := hHeld
        clear hHeld
        have HV := Lib.hid (HU2.out.trans (Below.mono hvv HU2.out.size))
        clear hvv
        repeat (first | go_skip | go_guarded | go_step)
        refine (ok.takeFact A2 n2 c2 t bs2 _ ((HR2.out.below HV.out).more HV.out.size) hc2 (by omega) ht1 ht2).mono ?_
        rintro e W4 ⟨p4, A4, n4, d4, l4, y4, z4, rfl, hx4, hd4, hm4, hb4, ha4⟩
        have HV4 := Lib.hid (HV.out.trans (hb4.mono HV.out.size))
        have HX4 := Lib.hid hx4
        have HA4 := Lib.hid ha4
        clear hx4  hb4 ha4
        dsimp only
        go_upto_region 8 with (fail)
        obtain ⟨Z, hZ, hZa, hZw⟩ : ∃ Z, Z = W4.alloc (.cells #[nv p4, .slice A4 n4 d4] 26) ∧ Bk Z W4.heap.size 26 [nv p4, .slice A4 n4 d4] ∧ Below W4.heap.size W4 Z := ⟨_, rfl, Bk.new W4 _ _, (Below.refl _ _).alloc (Nat.le_refl _) _⟩
        rw [← hZ]
        clear hZ
        have HV5 := Lib.hid (HV4.out.trans (hZw.mono HV4.out.size))
        have HX4 := Lib.hid ((HX4.out.below hZw).more hZw.size)
        have HZ := Lib.hid hZa
        generalize W4.heap.size = gz at hZa HZ ⊢
        clear hZa hZw
        repeat (first | go_skip | go_guarded | go_step)
        refine (rTakeFact_any A2 n2 c2 t bs2 _ ((HR2.out.below HV5.out).more HV5.out.size) hc2 (by omega)).mono ?_
        rintro e W5 ⟨p5, A5, n5, d5, l5, y5, z5, rfl, ho5, hm5, hb5, ha5⟩
        have HV6 := Lib.hid (HV5.out.trans (hb5.mono HV5.out.size))
        have HX5 := Lib.hid (OwU.rd ho5)
        have HX4 := Lib.hid ((HX4.out.below hb5).more hb5.size)
        have HZ := Lib.hid (HZ.out.later hb5)
        have he := HA4.out.trans ha5.symm
        simp only [Prod.mk.injEq] at he
        obtain ⟨⟨rfl, rfl⟩, rfl, rfl⟩ := he
        clear ho5 hb5 ha5 HA4
        dsimp only
        go_upto_region 9 with (fail)
        obtain ⟨Y, hY, hYa, hYw⟩ : ∃ Y, Y = W5.alloc (.cells #[nv p4, .slice A5 n5 d5] 26) ∧ Bk Y W5.heap.size 26 [nv p4, .slice A5 n5 d5] ∧ Below W5.heap.size W5 Y := ⟨_, rfl, Bk.new W5 _ _, (Below.refl _ _).alloc (Nat.le_refl _) _⟩
        rw [← hY]
        clear hY
        have HV7 := Lib.hid (HV6.out.trans (hYw.mono HV6.out.size))
        have HX4 := Lib.hid ((HX4.out.below hYw).more hYw.size)
        have HX5 := Lib.hid ((HX5.out.below hYw).more hYw.size)
        have HZ := HZ.out.later hYw
        generalize W5.heap.size = gy at hYa ⊢
        have i0 := HZ.readT (Below.refl _ _) 0 rfl
        have j0 := hYa.readT (Below.refl _ _) 0 rfl
        have i1 := HZ.readT (Below.refl _ _) 1 rfl
        have j1 := hYa.readT (Below.refl _ _) 1 rfl
        clear hYa hYw HZ
        repeat (first | go_skip | go_guarded | go_step)
        refine (rSameFact_any p4 p4 A4 A5 n4 d4 n5 d5 l4 l4 Y HX4.out HX5.out (by omega)).mono ?_
        rintro e W6 ⟨rfl, hb6⟩
        have HV8 := Lib.hid (HV7.out.trans (hb6.mono HV7.out.size))
        clear hb6 i0 j0 i1 j1
        rw [decide_eq_true rfl]
        dsimp only
        repeat (first | go_skip | go_guarded | go_step)
        refine (wWorks_any ok _).mono ?_
        rintro e W7 ⟨rfl, hb7⟩
        have HV9 := Lib.hid (HV8.out.trans (hb7.mono HV8.out.size))
        clear hb7
        dsimp only
        repeat (first | go_skip | go_guarded | go_step)
        go_ret
        exact ⟨rfl, hhw ▸ HB.out.trans (HV9.out.mono HB.out.size)⟩
      exact AllReadyH.nil
    exact AllReadyH.nil

open Go.ChangeShapes Go.WideShapes Go.ChangeAt

set_option maxRecDepth 100000 in
theorem lifted (ok : WireOk) (os : Os) (started : os.Started) (H : Type) (enc : TypeId × Value → H) :
    ReturnsInHanded {} Try.checked os 3 .any (Rows.wireFactsSpec.pre6 enc Try.prog Try.f3 Rows.wireFactsRow.domain false) (Rows.wireFactsSpec.post enc Try.prog Try.f3 false true false false) := by
  refine returnsInHanded_of_change_sized (C := Try.checked) ownK started (by kernel_rfl) Try.func3
    (ChangeSpec.witness6 (enc := enc) (C := Try.checked) false ⟨#[], #[.slice none 0 0, .agg #[.int .u32 0, .slice none 0 0], .slice none 0 0, .int .i64 0], []⟩ 8 (by kernel_rfl) (by kernel_rfl) (by kernel_rfl) (by kernel_rfl)) ?_
  intro W base args ds gs before hval0 hW hcnd hsz0 _
  have hsz : (DataW.weightsEach Try.prog (Try.f3.params.toList ++ Rows.wireFactsSpec.plain.varTypes Try.prog) (ds ++ gs)).all (· ≤ reachBytes) = true := hsz0
  have hval : ∀ (j : Nat) t v, Try.f3.params[j]? = some t → args[j]? = some v → Value.okWide Try.prog W .any base t v := hval0
  have hlt : ∀ x ∈ before, x.block < W.heap.size := fun x hx => by simpa using hW.lt x hx
  have hW' := hW
  obtain ⟨p, q, hA0, hV, rfl, hfz, hnd⟩ := hW
  have hA : DataW.TrodAll enc Try.prog W 0 (fun _ => true) true Try.f3.params.toList args.toList ds p := hA0
  rw [Try.params3] at hA hval hsz
  obtain ⟨v0, vs0, d0, ds0, p0, q0, hargs, rfl, rfl, h0, r0⟩ := trodAll_cons hA
  obtain ⟨v1, vs1, d1, ds1, p1, q1, rfl, rfl, rfl, h1, r1⟩ := trodAll_cons r0
  obtain ⟨v2, vs2, d2, ds2, p2, q2, rfl, rfl, rfl, h2, r2⟩ := trodAll_cons r1
  obtain ⟨v3, vs3, d3, ds3, p3, q3, rfl, rfl, rfl, h3, r3⟩ := trodAll_cons r2
  obtain ⟨rfl, rfl, rfl⟩ := trodAll_nil r3
  obtain rfl : args = #[v0, v1, v2, v3] := by cases args; simp_all
  obtain ⟨rfl, rfl⟩ := trodVars_none hV
  obtain ⟨A, n, c, bs, rfl, hk0, hm0, hr0⟩ := open_bytes (hval 0 22 v0 rfl rfl) h0 (fun x hx => hlt x (by simp [hx])) (fun elems spare e => by
    have := sized_slice hsz (j := 0) (t := 22) (e := 5) (elems := elems) (spare := spare) rfl (by rw [e]; rfl) Try.underlying22
    rw [bytes8] at this
    simp only [reachBytes] at this
    omega)
  obtain ⟨p, A1, n1, c1, l, rfl, hk1, hm1, hr1⟩ := open_fact (hval 1 26 v1 rfl rfl) h1 (fun x hx => hlt x (by simp [hx]))
  obtain ⟨A2, n2, c2, bs2, rfl, hk2, hm2, hr2⟩ := open_bytes (hval 2 22 v2 rfl rfl) h2 (fun x hx => hlt x (by simp [hx])) (fun elems spare e => by
    have := sized_slice hsz (j := 2) (t := 22) (e := 5) (elems := elems) (spare := spare) rfl (by rw [e]; rfl) Try.underlying22
    rw [bytes8] at this
    simp only [reachBytes] at this
    omega)
  obtain ⟨t, rfl, rfl, rfl, wt⟩ := open_int Try.underlying3 (hval 3 3 v3 rfl rfl) h3
  have bt := i64_bdW wt
  have main : Calls Try.prog 3 #[.slice A n c, .agg #[nv p, .slice A1 n1 c1], .slice A2 n2 c2, .int .i64 t] W fun e w' => e = .returned (.bool true) ∧ Below W.heap.size W w' := by
    exact walk ok A n c bs p A1 n1 c1 l A2 n2 c2 bs2 t W hr0 hk0 hr1 hk1 hr2 hk2 bt.1 bt.2
  refine main.mono fun e W' ⟨he, hg⟩ => ?_
  subst he
  exact ⟨_, rfl, post_law laidOut rfl (by kernel_rfl) hW' hg rfl Try.underlying4 rfl rfl rfl⟩

theorem proved_of (ok : WireOk) : Rows.WireFactsSaid :=
  OpenClaim.holds_of_wide 3 Try.f3 rfl rfl rfl rfl rfl rfl rfl ⟨rfl, rfl, rfl, rfl, rfl⟩ rfl rfl rfl rfl rfl (by kernel_rfl) Try.func3 (by kernel_rfl)
    (of_decide_eq_true (by kernel_rfl)) (by unfold Func.isWrapper; first | (rw [if_pos (by decide +kernel)]; kernel_rfl) | (rw [if_neg (by decide +kernel)]; exact ⟨rfl, rfl⟩))
    (fun os started H enc _ => lifted ok os started H enc)
#print axioms proved_of
end Go.Proofs.Ytcoafgnbmgndeaa.wireFacts
