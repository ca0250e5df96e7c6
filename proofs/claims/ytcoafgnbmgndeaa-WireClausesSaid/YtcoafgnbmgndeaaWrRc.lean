/- Layer 6 (wire): WireClauses from what is asked of the program. -/
import Derived.Test.YtcoafgnbmgndeaaWrQ
import Derived.Test.YtcoafgnbmgndeaaWrAo
import Derived.Test.YtcoafgnbmgndeaaArg
set_option linter.unusedVariables false
set_option linter.unusedSimpArgs false
namespace Go.Proofs.Ytcoafgnbmgndeaa.wireClauses
open Go Go.RowKit

theorem i64_bdW {a : Int} (w : (Lit.int .i64 a).wf = true) : -9223372036854775808 ≤ a ∧ a ≤ 9223372036854775807 := by
  have h1 : IntKind.i64.min = -9223372036854775808 := rfl
  have h2 : IntKind.i64.max = 9223372036854775807 := rfl
  simp only [Lit.wf, Bool.and_eq_true, decide_eq_true_eq] at w
  omega
theorem str_add (a b : List UInt8) : (({ data := a.toArray } : ByteArray) ++ ({ data := b.toArray } : ByteArray)) = { data := (a ++ b).toArray } := by
  apply ByteArray.ext
  rw [ByteArray.data_append]
  simp
theorem anyd_conv8 {ops : Array Oper} {E : Prop} {o : Oper} {a : Act} {w : World} {K : Act → World → Prop} {Q : Exit → Act → World → Prop} (hwant : Region.wanted o (yielded ops a.tmps) = true) (x : Operand)
    (ho : o.op = .convert 22 9 x) (B : Nat) (A : Option Addr) (n c : Nat) (bs : List UInt8) (hx : a.eval x = .slice A n c) (hr : Rd w B 1 A n (bs.map bv))
    (h : K (a.put o.dst (strV bs)) w) : if Region.wanted o (yielded ops a.tmps) = true then Oper.wp Try.prog o a w K Q else E := by
  rw [if_pos hwant]
  have e := run_conv_str (P := Try.prog) w 22 9 5 Try.underlying22 Try.underlying5 Try.underlying9 B A n c bs hr
  unfold Oper.wp execOp
  simp only [ho, hx, Sem.run_bind, e, Result.andThen_ok]
  exact h
theorem bigC_not {c : Cl} (h : bigC c = false) : c.1.2.length ≤ 100 ∧ c.2.length ≤ 100 ∧ ∀ x ∈ c.2, x.2.2.length ≤ 100 := by
  unfold bigC at h
  rw [Bool.or_eq_false_iff, Bool.or_eq_false_iff, decide_eq_false_iff_not, decide_eq_false_iff_not, List.any_eq_false] at h
  refine ⟨by omega, by omega, fun x hx => ?_⟩
  have := h.2 x hx
  simp only [decide_eq_true_eq] at this
  omega

set_option maxRecDepth 100000 in
set_option maxHeartbeats 8000000 in
theorem walk (ok : WireOk) (A : Option Addr) (n c : Nat) (bs : List UInt8) (p : UInt32) (A1 : Option Addr) (n1 c1 : Nat) (l : List Tm) (A3 : Option Addr) (n3 c3 : Nat) (R3 : List SlA) (L3 : List Li) (A2 : Option Addr) (n2 c2 : Nat) (bs2 : List UInt8) (t : Int) (w : World) (hr : Rd w w.heap.size 1 A n (bs.map bv)) (hc : n ≤ c) (hf : RdT w w.heap.size A1 n1 l) (hf1 : n1 ≤ c1) (hf3 : RdL w w.heap.size A3 n3 R3 L3) (hf4 : n3 ≤ c3) (hr2 : Rd w w.heap.size 1 A2 n2 (bs2.map bv)) (hc2 : n2 ≤ c2) (ht1 : -9223372036854775808 ≤ t) (ht2 : t ≤ 9223372036854775807) :
    Calls Try.prog 4 #[.slice A n c, .agg #[nv p, .slice A1 n1 c1, .slice A3 n3 c3], .slice A2 n2 c2, .int .i64 t] w fun e w' => e = .returned (.bool true) ∧ Below w.heap.size w w' := by
  obtain ⟨U, hU, hH, hbU⟩ : ∃ U, U = w.alloc (.cells #[nv p, .slice A1 n1 c1, .slice A3 n3 c3] 45) ∧ Bk U w.heap.size 45 [nv p, .slice A1 n1 c1, .slice A3 n3 c3] ∧ Below w.heap.size w U :=
    ⟨_, rfl, Bk.new w _ _, (Below.refl _ _).alloc (Nat.le_refl _) _⟩
  have HU := Lib.hid hU
  have HH := Lib.hid hH
  have HB := Lib.hid hbU
  have HR := Lib.hid ((hr.below hbU).more hbU.size)
  have HR2 := Lib.hid ((hr2.below hbU).more hbU.size)
  have HF := Lib.hid ((hf.below hbU).more hbU.size)
  have HL := Lib.hid (rdT_len hf)
  have HF3 := Lib.hid ((hf3.below hbU).more hbU.size)
  have k0 := HH.out.readT (Below.refl _ _) 0 rfl
  have k1 := HH.out.readT (Below.refl _ _) 1 rfl
  have k2 := HH.out.readT (Below.refl _ _) 2 rfl
  clear hU hH hbU hr hr2 hf hf3
  go_enter Try.func4, Try.ntmps4
  go_upto_region 1 with (fail)
  rw [← HU.out]
  clear HU
  generalize hhw : w.heap.size = gx at HH k0 k1 k2 ⊢
  repeat (first | go_skip | go_guarded | go_step)
  refine (vastW_any A n c U).mono ?_
  rintro e w1 ⟨rfl, rfl⟩
  by_cases hn : 4096 < n
  · rw [decide_eq_true hn]
    dsimp only
    repeat (first | go_skip | go_guarded | go_step)
    refine (wWorks_any ok _).mono ?_
    rintro e w1 ⟨rfl, hb1⟩
    dsimp only
    repeat (first | go_skip | go_guarded | go_step)
    go_ret
    exact ⟨rfl, hhw ▸ HB.out.trans (hb1.mono HB.out.size)⟩
  rw [decide_eq_false hn]
  dsimp only
  repeat (first | go_skip | go_guarded | go_step)
  refine (vastW_any A2 n2 c2 U).mono ?_
  rintro e w1 ⟨rfl, rfl⟩
  by_cases hn2 : 4096 < n2
  · rw [decide_eq_true hn2]
    dsimp only
    repeat (first | go_skip | go_guarded | go_step)
    refine (wWorks_any ok _).mono ?_
    rintro e w1 ⟨rfl, hb1⟩
    dsimp only
    repeat (first | go_skip | go_guarded | go_step)
    go_ret
    exact ⟨rfl, hhw ▸ HB.out.trans (hb1.mono HB.out.size)⟩
  rw [decide_eq_false hn2]
  dsimp only
  repeat (first | go_skip | go_guarded | go_step)
  refine (rBigClause_any p A1 n1 c1 l A3 n3 c3 R3 L3 U HF.out HF3.out).mono ?_
  rintro e w1 ⟨rfl, hb1⟩
  cases hbig : bigC (((p, l), L3) : Cl) with
  | true =>
    dsimp only
    repeat (first | go_skip | go_guarded | go_step)
    refine (wWorks_any ok _).mono ?_
    rintro e w2 ⟨rfl, hb2⟩
    dsimp only
    repeat (first | go_skip | go_guarded | go_step)
    go_ret
    exact ⟨rfl, hhw ▸ HB.out.trans ((hb1.trans (hb2.mono hb1.size)).mono HB.out.size)⟩
  | false =>
    dsimp only
    obtain ⟨hn1, hn3, hk3⟩ := bigC_not hbig
    have hn1 : ¬ 100 < n1 := by have h5 : l.length ≤ 100 := hn1; have := HL.out; omega
    have hn3 : n3 ≤ 100 := by have h5 : L3.length ≤ 100 := hn3; have := HF3.out.lenL; omega
    have hk3 : ∀ x ∈ L3, x.2.2.length ≤ 100 := hk3
    have HK3 := Lib.hid hk3
    clear hbig hk3
    repeat (first | go_skip | go_guarded | go_step)
    clear k0 k1 k2
    refine (roomyW_any A n c bs w1 ((HR.out.below hb1).more hb1.size) (by omega)).mono ?_
    rintro e W1 ⟨rfl, hB1, hbW1⟩
    obtain ⟨q1, hq1⟩ : ∃ q, q = w1.heap.size := ⟨_, rfl⟩
    rw [← hq1] at hB1
    have hUW1 : Below U.heap.size U W1 := hb1.trans (hbW1.mono hb1.size)
    have hro : Rd W1 W1.heap.size 1 (some ⟨q1, 0, none⟩) n (bs.map bv) := by
      have hl : bs.length = n := by simpa using HR.out.len1
      have := hB1.rd n (by rw [roomW_len]; omega)
      have e : (roomW bs).take n = bs.map bv := by
        unfold roomW
        rw [List.take_append_of_le_length (by simp; omega), List.take_of_length_le (by simp; omega)]
      rwa [e] at this
    try rw [← hq1]
    have k0 := HH.out.readT hUW1 0 rfl
    have k1 := HH.out.readT hUW1 1 rfl
    have k2 := HH.out.readT hUW1 2 rfl
    have HRO := Lib.hid hro
    have HB1 := Lib.hid hB1
    have HUW1 := Lib.hid hUW1
    clear hro hB1 hbW1 hq1 hUW1
    dsimp only
    repeat (first | go_skip | go_guarded | go_step)
    refine (ok.putClause (some ⟨q1, 0, none⟩) n (n + 600) bs p A1 n1 c1 l A3 n3 c3 R3 L3 W1 HRO.out (by omega) (by omega) ((HF.out.below HUW1.out).more HUW1.out.size) ((HF3.out.below HUW1.out).more HUW1.out.size) hf1 hf4 (by omega) (by omega) (fun x hx => Nat.le_trans (HK3.out x hx) (by omega))).mono ?_
    rintro e W2 ⟨A', m', c', z, bs', rfl, ho2, hb2, hz⟩
    have hU2 : Below U.heap.size U W2 := HUW1.out.trans (hb2.mono HUW1.out.size)
    have HB2 := Lib.hid (HB1.out.later hb2)
    have HO2 := Lib.hid ho2
    have HU2 := Lib.hid hU2
    have HH2 := Lib.hid (HH.out.later hU2)
    have HR0 := Lib.hid ((HR.out.below hU2).more hU2.size)
    have HRF := Lib.hid ((HF.out.below hU2).more hU2.size)
    have HRF3 := Lib.hid ((HF3.out.below hU2).more hU2.size)
    clear ho2 hb2 k0 k1 k2 hU2 HB1 HRO
    dsimp only
    rcases hz with ⟨hmay, rfl, rfl⟩ | ⟨hmay, rfl, rfl⟩
    · have HMAY := Lib.hid hmay
      have hlb : bs.length + (clauseB (((p, l), L3) : Cl)).length ≤ 100000 := by
        have h1 := (clauseB_len hmay).2
        have h2 : bs.length = n := by simpa using HR.out.len1
        omega
      have HLB := Lib.hid hlb
      clear hmay hlb
      go_upto_region 5 with (fail)
      refine wp_region_held_drew (S := fun V => Below W2.heap.size W2 V) (by kernel_rfl) ?_ (fun hHeld => ?_)
      · exact (Below.refl W2.heap.size W2).drew
      refine wpAnyH_take (i := 0) (oi := ?oid79) (v := ?vd79) ?hod79 (by kernel_rfl) ?hfd79 ?hrd79 ?hQd79 ?hyd79 hHeld ?restd79
      case hod79 => (simp only [List.getElem?_toArray, List.getElem?_cons_succ, List.getElem?_cons_zero]; exact rfl)
      case hfd79 => kernel_rfl
      case hrd79 => kernel_rfl
      case hQd79 => exact fun _ _ _ h => h
      case hyd79 =>
        refine Or.inl ⟨by rfl, ?_⟩
        intro V hSV
        go_simp
        (try with_reducible rfl)
      try simp only [Act.put, List.setIfInBounds_toArray, List.set_cons_zero, List.set_cons_succ]
      refine wpAnyH_take (i := 1) (oi := ?oid80) (v := ?vd80) ?hod80 (by kernel_rfl) ?hfd80 ?hrd80 ?hQd80 ?hyd80 hHeld ?restd80
      case hod80 => (simp only [List.getElem?_toArray, List.getElem?_cons_succ, List.getElem?_cons_zero]; exact rfl)
      case hfd80 => kernel_rfl
      case hrd80 => kernel_rfl
      case hQd80 => exact fun _ _ _ h => h
      case hyd80 =>
        refine Or.inl ⟨by rfl, ?_⟩
        intro V hSV
        go_simp
        (try with_reducible rfl)
      try simp only [Act.put, List.setIfInBounds_toArray, List.set_cons_zero, List.set_cons_succ]
      refine wpAnyH_ready (rs := [2]) (by kernel_rfl) (by simp) ?_
      refine AllReadyH.cons (o := ?od81) ?hod81 (fun K hK => ?kd81) ?md81
      case hod81 => (simp only [List.getElem?_toArray, List.getElem?_cons_succ, List.getElem?_cons_zero]; exact rfl)
      case kd81 =>
        go_simp
        refine (keptW_any q1 A n c _ bs _ (HB2.out.later (show Below W2.heap.size W2 _ from hHeld)) (HR0.out.below (show Below W2.heap.size W2 _ from hHeld)) (by omega)).mono ?_
        rintro e w3 ⟨rfl, rfl⟩
        (try dsimp only)
        refine hK.out _ _ ?_ (fun hHeld => ?_)
        · exact (show Below W2.heap.size W2 _ from hHeld)
        clear hK K
        try simp only [Act.put, List.setIfInBounds_toArray, List.set_cons_zero, List.set_cons_succ]
        refine wpAnyH_take (i := 3) (oi := ?oid82) (v := ?vd82) ?hod82 (by kernel_rfl) ?hfd82 ?hrd82 ?hQd82 ?hyd82 hHeld ?restd82
        case hod82 => (simp only [List.getElem?_toArray, List.getElem?_cons_succ, List.getElem?_cons_zero]; exact rfl)
        case hfd82 => kernel_rfl
        case hrd82 => kernel_rfl
        case hQd82 => exact fun _ _ _ h => h
        case hyd82 =>
          refine Or.inl ⟨by rfl, ?_⟩
          intro V hSV
          go_simp
          (try with_reducible rfl)
        try simp only [Act.put, List.setIfInBounds_toArray, List.set_cons_zero, List.set_cons_succ]
        refine wpAnyH_take (i := 4) (oi := ?oid83) (v := ?vd83) ?hod83 (by kernel_rfl) ?hfd83 ?hrd83 ?hQd83 ?hyd83 hHeld ?restd83
        case hod83 => (simp only [List.getElem?_toArray, List.getElem?_cons_succ, List.getElem?_cons_zero]; exact rfl)
        case hfd83 => kernel_rfl
        case hrd83 => kernel_rfl
        case hQd83 => exact fun _ _ _ h => h
        case hyd83 =>
          refine Or.inl ⟨by rfl, ?_⟩
          intro V hSV
          go_simp
          (try with_reducible rfl)
        try simp only [Act.put, List.setIfInBounds_toArray, List.set_cons_zero, List.set_cons_succ]
        refine wpAnyH_take (i := 5) (oi := ?oid84) (v := ?vd84) ?hod84 (by kernel_rfl) ?hfd84 ?hrd84 ?hQd84 ?hyd84 hHeld ?restd84
        case hod84 => (simp only [List.getElem?_toArray, List.getElem?_cons_succ, List.getElem?_cons_zero]; exact rfl)
        case hfd84 => kernel_rfl
        case hrd84 => kernel_rfl
        case hQd84 => exact fun _ _ _ h => h
        case hyd84 =>
          refine Or.inl ⟨by rfl, ?_⟩
          intro V hSV
          go_simp
          (try with_reducible rfl)
        try simp only [Act.put, List.setIfInBounds_toArray, List.set_cons_zero, List.set_cons_succ]
        refine wpAnyH_take (i := 6) (oi := ?oid85) (v := ?vd85) ?hod85 (by kernel_rfl) ?hfd85 ?hrd85 ?hQd85 ?hyd85 hHeld ?restd85
        case hod85 => (simp only [List.getElem?_toArray, List.getElem?_cons_succ, List.getElem?_cons_zero]; exact rfl)
        case hfd85 => kernel_rfl
        case hrd85 => kernel_rfl
        case hQd85 => exact fun _ _ _ h => h
        case hyd85 =>
          refine Or.inl ⟨by rfl, ?_⟩
          intro V hSV
          go_simp
          (try with_reducible rfl)
        try simp only [Act.put, List.setIfInBounds_toArray, List.set_cons_zero, List.set_cons_succ]
        refine wpAnyH_take (i := 7) (oi := ?oid86) (v := ?vd86) ?hod86 (by kernel_rfl) ?hfd86 ?hrd86 ?hQd86 ?hyd86 hHeld ?restd86
        case hod86 => (simp only [List.getElem?_toArray, List.getElem?_cons_succ, List.getElem?_cons_zero]; exact rfl)
        case hfd86 => kernel_rfl
        case hrd86 => kernel_rfl
        case hQd86 => exact fun _ _ _ h => h
        case hyd86 =>
          refine Or.inl ⟨by rfl, ?_⟩
          intro V hSV
          have q0 := HH2.out.readT hSV 0 rfl
          have q1 := HH2.out.readT hSV 1 rfl
          have q2 := HH2.out.readT hSV 2 rfl
          go_simp
          (try with_reducible rfl)
        try simp only [Act.put, List.setIfInBounds_toArray, List.set_cons_zero, List.set_cons_succ]
        refine wpAnyH_ready (rs := [8]) (by kernel_rfl) (by simp) ?_
        refine AllReadyH.cons (o := ?od87) ?hod87 (fun K hK => ?kd87) ?md87
        case hod87 => (simp only [List.getElem?_toArray, List.getElem?_cons_succ, List.getElem?_cons_zero]; exact rfl)
        case kd87 =>
          go_simp
          refine (rAMay_any p A1 n1 c1 l A3 n3 c3 R3 L3 _ ((HRF.out.below (show Below W2.heap.size W2 _ from hHeld)).more (Below.size (show Below W2.heap.size W2 _ from hHeld))) ((HRF3.out.below (show Below W2.heap.size W2 _ from hHeld)).more (Below.size (show Below W2.heap.size W2 _ from hHeld))) (by omega) (by omega) (fun x hx => Nat.le_trans (HK3.out x hx) (by omega))).mono ?_
          rintro e w4d87 ⟨rfl, hb4d87⟩
          rw [HMAY.out]
          (try dsimp only)
          refine hK.out _ _ ?_ (fun hHeld => ?_)
          · exact Below.trans (show Below W2.heap.size W2 _ from hHeld) (hb4d87.mono (Below.size (show Below W2.heap.size W2 _ from hHeld)))
          clear hK K
          try simp only [Act.put, List.setIfInBounds_toArray, List.set_cons_zero, List.set_cons_succ]
          refine wpAnyH_take (i := 9) (oi := ?oid88) (v := ?vd88) ?hod88 (by kernel_rfl) ?hfd88 ?hrd88 ?hQd88 ?hyd88 hHeld ?restd88
          case hod88 => (simp only [List.getElem?_toArray, List.getElem?_cons_succ, List.getElem?_cons_zero]; exact rfl)
          case hfd88 => kernel_rfl
          case hrd88 => kernel_rfl
          case hQd88 => exact fun _ _ _ h => h
          case hyd88 =>
            refine Or.inl ⟨by rfl, ?_⟩
            intro V hSV
            go_simp
            (try with_reducible rfl)
          try simp only [Act.put, List.setIfInBounds_toArray, List.set_cons_zero, List.set_cons_succ]
          refine wpAnyH_take (i := 10) (oi := ?oid89) (v := ?vd89) ?hod89 (by kernel_rfl) ?hfd89 ?hrd89 ?hQd89 ?hyd89 hHeld ?restd89
          case hod89 => (simp only [List.getElem?_toArray, List.getElem?_cons_succ, List.getElem?_cons_zero]; exact rfl)
          case hfd89 => kernel_rfl
          case hrd89 => kernel_rfl
          case hQd89 => exact fun _ _ _ h => h
          case hyd89 =>
            refine Or.inl ⟨by rfl, ?_⟩
            intro V hSV
            go_simp
            (try with_reducible rfl)
          try simp only [Act.put, List.setIfInBounds_toArray, List.set_cons_zero, List.set_cons_succ]
          refine wpAnyH_take (i := 11) (oi := ?oid90) (v := ?vd90) ?hod90 (by kernel_rfl) ?hfd90 ?hrd90 ?hQd90 ?hyd90 hHeld ?restd90
          case hod90 => (simp only [List.getElem?_toArray, List.getElem?_cons_succ, List.getElem?_cons_zero]; exact rfl)
          case hfd90 => kernel_rfl
          case hrd90 => kernel_rfl
          case hQd90 => exact fun _ _ _ h => h
          case hyd90 =>
            refine Or.inl ⟨by rfl, ?_⟩
            intro V hSV
            go_simp
            (try with_reducible rfl)
          try simp only [Act.put, List.setIfInBounds_toArray, List.set_cons_zero, List.set_cons_succ]
          refine wpAnyH_take (i := 12) (oi := ?oid91) (v := ?vd91) ?hod91 (by kernel_rfl) ?hfd91 ?hrd91 ?hQd91 ?hyd91 hHeld ?restd91
          case hod91 => (simp only [List.getElem?_toArray, List.getElem?_cons_succ, List.getElem?_cons_zero]; exact rfl)
          case hfd91 => kernel_rfl
          case hrd91 => kernel_rfl
          case hQd91 => exact fun _ _ _ h => h
          case hyd91 =>
            refine Or.inl ⟨by rfl, ?_⟩
            intro V hSV
            go_simp
            (try with_reducible rfl)
          try simp only [Act.put, List.setIfInBounds_toArray, List.set_cons_zero, List.set_cons_succ]
          refine wpAnyH_take (i := 13) (oi := ?oid92) (v := ?vd92) ?hod92 (by kernel_rfl) ?hfd92 ?hrd92 ?hQd92 ?hyd92 hHeld ?restd92
          case hod92 => (simp only [List.getElem?_toArray, List.getElem?_cons_succ, List.getElem?_cons_zero]; exact rfl)
          case hfd92 => kernel_rfl
          case hrd92 => kernel_rfl
          case hQd92 => exact fun _ _ _ h => h
          case hyd92 =>
            refine Or.inl ⟨by rfl, ?_⟩
            intro V hSV
            go_simp
            (try with_reducible rfl)
          try simp only [Act.put, List.setIfInBounds_toArray, List.set_cons_zero, List.set_cons_succ]
          refine wpAnyH_take (i := 14) (oi := ?oid93) (v := ?vd93) ?hod93 (by kernel_rfl) ?hfd93 ?hrd93 ?hQd93 ?hyd93 hHeld ?restd93
          case hod93 => (simp only [List.getElem?_toArray, List.getElem?_cons_succ, List.getElem?_cons_zero]; exact rfl)
          case hfd93 => kernel_rfl
          case hrd93 => kernel_rfl
          case hQd93 => exact fun _ _ _ h => h
          case hyd93 =>
            refine Or.inl ⟨by rfl, ?_⟩
            intro V hSV
            go_simp
            (try with_reducible rfl)
          try simp only [Act.put, List.setIfInBounds_toArray, List.set_cons_zero, List.set_cons_succ]
          refine wpAnyH_take (i := 15) (oi := ?oid94) (v := undef) ?hod94 (by kernel_rfl) ?hfd94 ?hrd94 ?hQd94 ?hyd94 hHeld ?restd94
          case hod94 => (simp only [List.getElem?_toArray, List.getElem?_cons_succ, List.getElem?_cons_zero]; exact rfl)
          case hfd94 => kernel_rfl
          case hrd94 => kernel_rfl
          case hQd94 => exact fun _ _ _ h => h
          case hyd94 =>
            exact Or.inr ⟨by rfl, rfl⟩
          try simp only [Act.put, List.setIfInBounds_toArray, List.set_cons_zero, List.set_cons_succ]
          refine wpAnyH_take (i := 16) (oi := ?oid95) (v := undef) ?hod95 (by kernel_rfl) ?hfd95 ?hrd95 ?hQd95 ?hyd95 hHeld ?restd95
          case hod95 => (simp only [List.getElem?_toArray, List.getElem?_cons_succ, List.getElem?_cons_zero]; exact rfl)
          case hfd95 => kernel_rfl
          case hrd95 => kernel_rfl
          case hQd95 => exact fun _ _ _ h => h
          case hyd95 =>
            exact Or.inr ⟨by rfl, rfl⟩
          try simp only [Act.put, List.setIfInBounds_toArray, List.set_cons_zero, List.set_cons_succ]
          refine wpAnyH_take (i := 17) (oi := ?oid96) (v := undef) ?hod96 (by kernel_rfl) ?hfd96 ?hrd96 ?hQd96 ?hyd96 hHeld ?restd96
          case hod96 => (simp only [List.getElem?_toArray, List.getElem?_cons_succ, List.getElem?_cons_zero]; exact rfl)
          case hfd96 => kernel_rfl
          case hrd96 => kernel_rfl
          case hQd96 => exact fun _ _ _ h => h
          case hyd96 =>
            exact Or.inr ⟨by rfl, rfl⟩
          try simp only [Act.put, List.setIfInBounds_toArray, List.set_cons_zero, List.set_cons_succ]
          refine wpAnyH_take (i := 18) (oi := ?oid97) (v := undef) ?hod97 (by kernel_rfl) ?hfd97 ?hrd97 ?hQd97 ?hyd97 hHeld ?restd97
          case hod97 => (simp only [List.getElem?_toArray, List.getElem?_cons_succ, List.getElem?_cons_zero]; exact rfl)
          case hfd97 => kernel_rfl
          case hrd97 => kernel_rfl
          case hQd97 => exact fun _ _ _ h => h
          case hyd97 =>
            exact Or.inr ⟨by rfl, rfl⟩
          try simp only [Act.put, List.setIfInBounds_toArray, List.set_cons_zero, List.set_cons_succ]
          refine wpAnyH_take (i := 19) (oi := ?oid98) (v := undef) ?hod98 (by kernel_rfl) ?hfd98 ?hrd98 ?hQd98 ?hyd98 hHeld ?restd98
          case hod98 => (simp only [List.getElem?_toArray, List.getElem?_cons_succ, List.getElem?_cons_zero]; exact rfl)
          case hfd98 => kernel_rfl
          case hrd98 => kernel_rfl
          case hQd98 => exact fun _ _ _ h => h
          case hyd98 =>
            exact Or.inr ⟨by rfl, rfl⟩
          try simp only [Act.put, List.setIfInBounds_toArray, List.set_cons_zero, List.set_cons_succ]
          refine wpAnyH_take (i := 20) (oi := ?oid99) (v := undef) ?hod99 (by kernel_rfl) ?hfd99 ?hrd99 ?hQd99 ?hyd99 hHeld ?restd99
          case hod99 => (simp only [List.getElem?_toArray, List.getElem?_cons_succ, List.getElem?_cons_zero]; exact rfl)
          case hfd99 => kernel_rfl
          case hrd99 => kernel_rfl
          case hQd99 => exact fun _ _ _ h => h
          case hyd99 =>
            exact Or.inr ⟨by rfl, rfl⟩
          try simp only [Act.put, List.setIfInBounds_toArray, List.set_cons_zero, List.set_cons_succ]
          refine wpAnyH_take (i := 21) (oi := ?oid100) (v := undef) ?hod100 (by kernel_rfl) ?hfd100 ?hrd100 ?hQd100 ?hyd100 hHeld ?restd100
          case hod100 => (simp only [List.getElem?_toArray, List.getElem?_cons_succ, List.getElem?_cons_zero]; exact rfl)
          case hfd100 => kernel_rfl
          case hrd100 => kernel_rfl
          case hQd100 => exact fun _ _ _ h => h
          case hyd100 =>
            exact Or.inr ⟨by rfl, rfl⟩
          try simp only [Act.put, List.setIfInBounds_toArray, List.set_cons_zero, List.set_cons_succ]
          refine wpAnyH_take (i := 22) (oi := ?oid101) (v := ?vd101) ?hod101 (by kernel_rfl) ?hfd101 ?hrd101 ?hQd101 ?hyd101 hHeld ?restd101
          case hod101 => (simp only [List.getElem?_toArray, List.getElem?_cons_succ, List.getElem?_cons_zero]; exact rfl)
          case hfd101 => kernel_rfl
          case hrd101 => kernel_rfl
          case hQd101 => exact fun _ _ _ h => h
          case hyd101 =>
            refine Or.inl ⟨by rfl, ?_⟩
            intro V hSV
            go_simp
            (try with_reducible rfl)
          try simp only [Act.put, List.setIfInBounds_toArray, List.set_cons_zero, List.set_cons_succ]
          refine wpAnyH_take (i := 23) (oi := ?oid102) (v := ?vd102) ?hod102 (by kernel_rfl) ?hfd102 ?hrd102 ?hQd102 ?hyd102 hHeld ?restd102
          case hod102 => (simp only [List.getElem?_toArray, List.getElem?_cons_succ, List.getElem?_cons_zero]; exact rfl)
          case hfd102 => kernel_rfl
          case hrd102 => kernel_rfl
          case hQd102 => exact fun _ _ _ h => h
          case hyd102 =>
            refine Or.inl ⟨by rfl, ?_⟩
            intro V hSV
            go_simp
            (try with_reducible rfl)
          try simp only [Act.put, List.setIfInBounds_toArray, List.set_cons_zero, List.set_cons_succ]
          refine wpAnyH_take (i := 24) (oi := ?oid103) (v := ?vd103) ?hod103 (by kernel_rfl) ?hfd103 ?hrd103 ?hQd103 ?hyd103 hHeld ?restd103
          case hod103 => (simp only [List.getElem?_toArray, List.getElem?_cons_succ, List.getElem?_cons_zero]; exact rfl)
          case hfd103 => kernel_rfl
          case hrd103 => kernel_rfl
          case hQd103 => exact fun _ _ _ h => h
          case hyd103 =>
            refine Or.inl ⟨by rfl, ?_⟩
            intro V hSV
            go_simp
            (try with_reducible rfl)
          try simp only [Act.put, List.setIfInBounds_toArray, List.set_cons_zero, List.set_cons_succ]
          refine wpAnyH_take (i := 25) (oi := ?oid104) (v := ?vd104) ?hod104 (by kernel_rfl) ?hfd104 ?hrd104 ?hQd104 ?hyd104 hHeld ?restd104
          case hod104 => (simp only [List.getElem?_toArray, List.getElem?_cons_succ, List.getElem?_cons_zero]; exact rfl)
          case hfd104 => kernel_rfl
          case hrd104 => kernel_rfl
          case hQd104 => exact fun _ _ _ h => h
          case hyd104 =>
            refine Or.inl ⟨by rfl, ?_⟩
            intro V hSV
            go_simp
            (try with_reducible rfl)
          try simp only [Act.put, List.setIfInBounds_toArray, List.set_cons_zero, List.set_cons_succ]
          refine wpAnyH_take (i := 26) (oi := ?oid105) (v := ?vd105) ?hod105 (by kernel_rfl) ?hfd105 ?hrd105 ?hQd105 ?hyd105 hHeld ?restd105
          case hod105 => (simp only [List.getElem?_toArray, List.getElem?_cons_succ, List.getElem?_cons_zero]; exact rfl)
          case hfd105 => kernel_rfl
          case hrd105 => kernel_rfl
          case hQd105 => exact fun _ _ _ h => h
          case hyd105 =>
            refine Or.inl ⟨by rfl, ?_⟩
            intro V hSV
            go_simp
            (try with_reducible rfl)
          try simp only [Act.put, List.setIfInBounds_toArray, List.set_cons_zero, List.set_cons_succ]
          refine wpAnyH_take (i := 27) (oi := ?oid106) (v := ?vd106) ?hod106 (by kernel_rfl) ?hfd106 ?hrd106 ?hQd106 ?hyd106 hHeld ?restd106
          case hod106 => (simp only [List.getElem?_toArray, List.getElem?_cons_succ, List.getElem?_cons_zero]; exact rfl)
          case hfd106 => kernel_rfl
          case hrd106 => kernel_rfl
          case hQd106 => exact fun _ _ _ h => h
          case hyd106 =>
            refine Or.inl ⟨by rfl, ?_⟩
            intro V hSV
            go_simp
            (try with_reducible rfl)
          try simp only [Act.put, List.setIfInBounds_toArray, List.set_cons_zero, List.set_cons_succ]
          refine wpAnyH_take (i := 28) (oi := ?oid107) (v := ?vd107) ?hod107 (by kernel_rfl) ?hfd107 ?hrd107 ?hQd107 ?hyd107 hHeld ?restd107
          case hod107 => (simp only [List.getElem?_toArray, List.getElem?_cons_succ, List.getElem?_cons_zero]; exact rfl)
          case hfd107 => kernel_rfl
          case hrd107 => kernel_rfl
          case hQd107 => exact fun _ _ _ h => h
          case hyd107 =>
            refine Or.inl ⟨by rfl, ?_⟩
            intro V hSV
            go_simp
            (try with_reducible rfl)
          try simp only [Act.put, List.setIfInBounds_toArray, List.set_cons_zero, List.set_cons_succ]
          refine wpAnyH_take (i := 29) (oi := ?oid108) (v := ?vd108) ?hod108 (by kernel_rfl) ?hfd108 ?hrd108 ?hQd108 ?hyd108 hHeld ?restd108
          case hod108 => (simp only [List.getElem?_toArray, List.getElem?_cons_succ, List.getElem?_cons_zero]; exact rfl)
          case hfd108 => kernel_rfl
          case hrd108 => kernel_rfl
          case hQd108 => exact fun _ _ _ h => h
          case hyd108 =>
            refine Or.inl ⟨by rfl, ?_⟩
            intro V hSV
            have q := run_conv_str (P := Try.prog) V 22 9 5 Try.underlying22 Try.underlying5 Try.underlying9 _ _ m' c' (bs ++ clauseB (((p, l), L3) : Cl)) (Rd.below (Ow.rd HO2.out) hSV)
            go_simp
            (try with_reducible rfl)
          try simp only [Act.put, List.setIfInBounds_toArray, List.set_cons_zero, List.set_cons_succ]
          refine wpAnyH_take (i := 30) (oi := ?oid109) (v := ?vd109) ?hod109 (by kernel_rfl) ?hfd109 ?hrd109 ?hQd109 ?hyd109 hHeld ?restd109
          case hod109 => (simp only [List.getElem?_toArray, List.getElem?_cons_succ, List.getElem?_cons_zero]; exact rfl)
          case hfd109 => kernel_rfl
          case hrd109 => kernel_rfl
          case hQd109 => exact fun _ _ _ h => h
          case hyd109 =>
            refine Or.inl ⟨by rfl, ?_⟩
            intro V hSV
            go_simp
            (try with_reducible rfl)
          try simp only [Act.put, List.setIfInBounds_toArray, List.set_cons_zero, List.set_cons_succ]
          refine wpAnyH_take (i := 31) (oi := ?oid110) (v := ?vd110) ?hod110 (by kernel_rfl) ?hfd110 ?hrd110 ?hQd110 ?hyd110 hHeld ?restd110
          case hod110 => (simp only [List.getElem?_toArray, List.getElem?_cons_succ, List.getElem?_cons_zero]; exact rfl)
          case hfd110 => kernel_rfl
          case hrd110 => kernel_rfl
          case hQd110 => exact fun _ _ _ h => h
          case hyd110 =>
            refine Or.inl ⟨by rfl, ?_⟩
            intro V hSV
            have q := run_conv_str (P := Try.prog) V 22 9 5 Try.underlying22 Try.underlying5 Try.underlying9 _ _ n c bs (HR0.out.below hSV)
            go_simp
            (try with_reducible rfl)
          try simp only [Act.put, List.setIfInBounds_toArray, List.set_cons_zero, List.set_cons_succ]
          refine wpAnyH_take (i := 32) (oi := ?oid111) (v := ?vd111) ?hod111 (by kernel_rfl) ?hfd111 ?hrd111 ?hQd111 ?hyd111 hHeld ?restd111
          case hod111 => (simp only [List.getElem?_toArray, List.getElem?_cons_succ, List.getElem?_cons_zero]; exact rfl)
          case hfd111 => kernel_rfl
          case hrd111 => kernel_rfl
          case hQd111 => exact fun _ _ _ h => h
          case hyd111 =>
            refine Or.inl ⟨by rfl, ?_⟩
            intro V hSV
            have q0 := HH2.out.readT hSV 0 rfl
            have q1 := HH2.out.readT hSV 1 rfl
            have q2 := HH2.out.readT hSV 2 rfl
            go_simp
            (try with_reducible rfl)
          try simp only [Act.put, List.setIfInBounds_toArray, List.set_cons_zero, List.set_cons_succ]
          refine wpAnyH_ready (rs := [33]) (by kernel_rfl) (by simp) ?_
          refine AllReadyH.cons (o := ?od112) ?hod112 (fun K hK => ?kd112) ?md112
          case hod112 => (simp only [List.getElem?_toArray, List.getElem?_cons_succ, List.getElem?_cons_zero]; exact rfl)
          case kd112 =>
            go_simp
            refine (rClauseB_any p A1 n1 c1 l A3 n3 c3 R3 L3 _ ((HRF.out.below (show Below W2.heap.size W2 _ from hHeld)).more (Below.size (show Below W2.heap.size W2 _ from hHeld))) ((HRF3.out.below (show Below W2.heap.size W2 _ from hHeld)).more (Below.size (show Below W2.heap.size W2 _ from hHeld))) (by omega) (by omega) (fun x hx => Nat.le_trans (HK3.out x hx) (by omega))).mono ?_
            rintro e w5 ⟨A5, m5, c5, rfl, ho5, hb5⟩
            (try dsimp only)
            refine hK.out _ _ ?_ (fun hHeld => ?_)
            · exact Below.trans (show Below W2.heap.size W2 _ from hHeld) (hb5.mono (Below.size (show Below W2.heap.size W2 _ from hHeld)))
            clear hK K
            try simp only [Act.put, List.setIfInBounds_toArray, List.set_cons_zero, List.set_cons_succ]
            refine wpAnyH_ready (rs := [34]) (by kernel_rfl) (by simp) ?_
            refine AllReadyH.cons (o := ?od113) ?hod113 (fun K hK => ?kd113) ?md113
            case hod113 => (simp only [List.getElem?_toArray, List.getElem?_cons_succ, List.getElem?_cons_zero]; exact rfl)
            case kd113 =>
              refine anyd_conv8 (by rfl) (.tmp 70) (by rfl) _ _ _ _ _ (by rfl) (Ow.rd ho5) ?_
              refine hK.out _ _ ?_ (fun hHeld => ?_)
              · exact (show Below W2.heap.size W2 _ from hHeld)
              clear hK K
              try simp only [Act.put, List.setIfInBounds_toArray, List.set_cons_zero, List.set_cons_succ]
              refine wpAnyH_take (i := 35) (oi := ?oid114) (v := .string ⟨(bs ++ clauseB (((p, l), L3) : Cl)).toArray⟩) ?hod114 (by kernel_rfl) ?hfd114 ?hrd114 ?hQd114 ?hyd114 hHeld ?restd114
              case hod114 => (simp only [List.getElem?_toArray, List.getElem?_cons_succ, List.getElem?_cons_zero]; exact rfl)
              case hfd114 => kernel_rfl
              case hrd114 => kernel_rfl
              case hQd114 => exact fun _ _ _ h => h
              case hyd114 =>
                refine Or.inl ⟨by rfl, ?_⟩
                intro V hSV
                go_simp
                (rw [if_neg (by have := HLB.out; omega)]; rw [str_add])
              try simp only [Act.put, List.setIfInBounds_toArray, List.set_cons_zero, List.set_cons_succ]
              refine wpAnyH_take (i := 36) (oi := ?oid115) (v := .bool false) ?hod115 (by kernel_rfl) ?hfd115 ?hrd115 ?hQd115 ?hyd115 hHeld ?restd115
              case hod115 => (simp only [List.getElem?_toArray, List.getElem?_cons_succ, List.getElem?_cons_zero]; exact rfl)
              case hfd115 => kernel_rfl
              case hrd115 => kernel_rfl
              case hQd115 => exact fun _ _ _ h => h
              case hyd115 =>
                refine Or.inl ⟨by rfl, ?_⟩
                intro V hSV
                go_simp
                (try first | with_reducible rfl | simp | rfl)
              try simp only [Act.put, List.setIfInBounds_toArray, List.set_cons_zero, List.set_cons_succ]
              refine wpAnyH_take (i := 37) (oi := ?oid116) (v := ?vd116) ?hod116 (by kernel_rfl) ?hfd116 ?hrd116 ?hQd116 ?hyd116 hHeld ?restd116
              case hod116 => (simp only [List.getElem?_toArray, List.getElem?_cons_succ, List.getElem?_cons_zero]; exact rfl)
              case hfd116 => kernel_rfl
              case hrd116 => kernel_rfl
              case hQd116 => exact fun _ _ _ h => h
              case hyd116 =>
                refine Or.inl ⟨by rfl, ?_⟩
                intro V hSV
                go_simp
                (try with_reducible rfl)
              try simp only [Act.put, List.setIfInBounds_toArray, List.set_cons_zero, List.set_cons_succ]
              refine wpAnyH_take (i := 38) (oi := ?oid117) (v := ?vd117) ?hod117 (by kernel_rfl) ?hfd117 ?hrd117 ?hQd117 ?hyd117 hHeld ?restd117
              case hod117 => (simp only [List.getElem?_toArray, List.getElem?_cons_succ, List.getElem?_cons_zero]; exact rfl)
              case hfd117 => kernel_rfl
              case hrd117 => kernel_rfl
              case hQd117 => exact fun _ _ _ h => h
              case hyd117 =>
                refine Or.inl ⟨by rfl, ?_⟩
                intro V hSV
                go_simp
                (try with_reducible rfl)
              try simp only [Act.put, List.setIfInBounds_toArray, List.set_cons_zero, List.set_cons_succ]
              refine wpAnyH_done (by kernel_rfl) ?_ _
              have hvv : Below W2.heap.size W2 _ := hHeld
              clear hHeld
              have HV := Lib.hid (HU2.out.trans (Below.mono hvv HU2.out.size))
              clear hvv
              repeat (first | go_skip | go_guarded | go_step)
              refine (ok.takeClause A2 n2 c2 t bs2 _ ((HR2.out.below HV.out).more HV.out.size) hc2 (by omega) ht1 ht2).mono ?_
              rintro e W4 ⟨p4, A4, n4, d4, l4, A6, n6, d6, R6, L6, y4, z4, rfl, hx4, hx6, hd4, hd6, hm4, hm6, hs6, hb4, ha4⟩
              have HV4 := Lib.hid (HV.out.trans (hb4.mono HV.out.size))
              have HX4 := Lib.hid hx4
              have HX6 := Lib.hid hx6
              have HA4 := Lib.hid ha4
              clear hx4 hx6 hb4 ha4
              dsimp only
              go_upto_region 8 with (fail)
              obtain ⟨Z, hZ, hZa, hZw⟩ : ∃ Z, Z = W4.alloc (.cells #[nv p4, .slice A4 n4 d4, .slice A6 n6 d6] 45) ∧ Bk Z W4.heap.size 45 [nv p4, .slice A4 n4 d4, .slice A6 n6 d6] ∧ Below W4.heap.size W4 Z := ⟨_, rfl, Bk.new W4 _ _, (Below.refl _ _).alloc (Nat.le_refl _) _⟩
              rw [← hZ]
              clear hZ
              have HV5 := Lib.hid (HV4.out.trans (hZw.mono HV4.out.size))
              have HX4 := Lib.hid ((HX4.out.below hZw).more hZw.size)
              have HX6 := Lib.hid ((HX6.out.below hZw).more hZw.size)
              have HZ := Lib.hid hZa
              generalize W4.heap.size = gz at hZa HZ ⊢
              clear hZa hZw
              repeat (first | go_skip | go_guarded | go_step)
              refine (rTakeClause_any A2 n2 c2 t bs2 _ ((HR2.out.below HV5.out).more HV5.out.size) hc2 (by omega)).mono ?_
              rintro e W5 ⟨p5, A5, n5, d5, l5, A7, n7, d7, R7, L7, y5, z5, rfl, hx5, hx7, hm5, hm7, hs7, hb5, ha5⟩
              have HV6 := Lib.hid (HV5.out.trans (hb5.mono HV5.out.size))
              have HX5 := Lib.hid hx5
              have HX7 := Lib.hid hx7
              have HX4 := Lib.hid ((HX4.out.below hb5).more hb5.size)
              have HX6 := Lib.hid ((HX6.out.below hb5).more hb5.size)
              have HZ := Lib.hid (HZ.out.later hb5)
              have he := HA4.out.trans ha5.symm
              simp only [Prod.mk.injEq] at he
              obtain ⟨⟨⟨rfl, rfl⟩, rfl⟩, rfl, rfl⟩ := he
              clear hx5 hx7 hb5 ha5 HA4
              dsimp only
              go_upto_region 9 with (fail)
              obtain ⟨Y, hY, hYa, hYw⟩ : ∃ Y, Y = W5.alloc (.cells #[nv p4, .slice A5 n5 d5, .slice A7 n7 d7] 45) ∧ Bk Y W5.heap.size 45 [nv p4, .slice A5 n5 d5, .slice A7 n7 d7] ∧ Below W5.heap.size W5 Y := ⟨_, rfl, Bk.new W5 _ _, (Below.refl _ _).alloc (Nat.le_refl _) _⟩
              rw [← hY]
              clear hY
              have HV7 := Lib.hid (HV6.out.trans (hYw.mono HV6.out.size))
              have HX4 := Lib.hid ((HX4.out.below hYw).more hYw.size)
              have HX5 := Lib.hid ((HX5.out.below hYw).more hYw.size)
              have HX6 := Lib.hid ((HX6.out.below hYw).more hYw.size)
              have HX7 := Lib.hid ((HX7.out.below hYw).more hYw.size)
              have HZ := HZ.out.later hYw
              generalize W5.heap.size = gy at hYa ⊢
              have i0 := HZ.readT (Below.refl _ _) 0 rfl
              have j0 := hYa.readT (Below.refl _ _) 0 rfl
              have i1 := HZ.readT (Below.refl _ _) 1 rfl
              have j1 := hYa.readT (Below.refl _ _) 1 rfl
              have i2 := HZ.readT (Below.refl _ _) 2 rfl
              have j2 := hYa.readT (Below.refl _ _) 2 rfl
              clear hYa hYw HZ
              repeat (first | go_skip | go_guarded | go_step)
              refine (rASame_any p4 A4 n4 d4 l4 A6 n6 d6 R6 L6 p4 A5 n5 d5 l4 A7 n7 d7 R7 L6 Y HX4.out HX6.out HX5.out HX7.out (by omega) (by omega) (fun x hx => Nat.le_trans (hs7 x hx) (by omega))).mono ?_
              rintro e W6 ⟨rfl, hb6⟩
              have HV8 := Lib.hid (HV7.out.trans (hb6.mono HV7.out.size))
              clear hb6 i0 j0 i1 j1 i2 j2
              rw [decide_eq_true rfl]
              dsimp only
              repeat (first | go_skip | go_guarded | go_step)
              refine (wWorks_any ok _).mono ?_
              rintro e W7 ⟨rfl, hb7⟩
              have HV9 := Lib.hid (HV8.out.trans (hb7.mono HV8.out.size))
              clear hb7
              dsimp only
              repeat (first | go_skip | go_guarded | go_step)
              go_ret
              exact ⟨rfl, hhw ▸ HB.out.trans (HV9.out.mono HB.out.size)⟩
            exact AllReadyH.nil
          exact AllReadyH.nil
        exact AllReadyH.nil
      exact AllReadyH.nil
    · have HMAY := Lib.hid hmay
      clear hmay
      obtain rfl : m' = 0 := (Ow.len HO2.out).symm
      go_upto_region 5 with (fail)
      refine wp_region_held_drew (S := fun V => Below W2.heap.size W2 V) (by kernel_rfl) ?_ (fun hHeld => ?_)
      · exact (Below.refl W2.heap.size W2).drew
      refine wpAnyH_take (i := 0) (oi := ?oid118) (v := ?vd118) ?hod118 (by kernel_rfl) ?hfd118 ?hrd118 ?hQd118 ?hyd118 hHeld ?restd118
      case hod118 => (simp only [List.getElem?_toArray, List.getElem?_cons_succ, List.getElem?_cons_zero]; exact rfl)
      case hfd118 => kernel_rfl
      case hrd118 => kernel_rfl
      case hQd118 => exact fun _ _ _ h => h
      case hyd118 =>
        refine Or.inl ⟨by rfl, ?_⟩
        intro V hSV
        go_simp
        (try with_reducible rfl)
      try simp only [Act.put, List.setIfInBounds_toArray, List.set_cons_zero, List.set_cons_succ]
      refine wpAnyH_take (i := 1) (oi := ?oid119) (v := ?vd119) ?hod119 (by kernel_rfl) ?hfd119 ?hrd119 ?hQd119 ?hyd119 hHeld ?restd119
      case hod119 => (simp only [List.getElem?_toArray, List.getElem?_cons_succ, List.getElem?_cons_zero]; exact rfl)
      case hfd119 => kernel_rfl
      case hrd119 => kernel_rfl
      case hQd119 => exact fun _ _ _ h => h
      case hyd119 =>
        refine Or.inl ⟨by rfl, ?_⟩
        intro V hSV
        go_simp
        (try with_reducible rfl)
      try simp only [Act.put, List.setIfInBounds_toArray, List.set_cons_zero, List.set_cons_succ]
      refine wpAnyH_ready (rs := [2]) (by kernel_rfl) (by simp) ?_
      refine AllReadyH.cons (o := ?od120) ?hod120 (fun K hK => ?kd120) ?md120
      case hod120 => (simp only [List.getElem?_toArray, List.getElem?_cons_succ, List.getElem?_cons_zero]; exact rfl)
      case kd120 =>
        go_simp
        refine (keptW_any q1 A n c _ bs _ (HB2.out.later (show Below W2.heap.size W2 _ from hHeld)) (HR0.out.below (show Below W2.heap.size W2 _ from hHeld)) (by omega)).mono ?_
        rintro e w3 ⟨rfl, rfl⟩
        (try dsimp only)
        refine hK.out _ _ ?_ (fun hHeld => ?_)
        · exact (show Below W2.heap.size W2 _ from hHeld)
        clear hK K
        try simp only [Act.put, List.setIfInBounds_toArray, List.set_cons_zero, List.set_cons_succ]
        refine wpAnyH_take (i := 3) (oi := ?oid121) (v := ?vd121) ?hod121 (by kernel_rfl) ?hfd121 ?hrd121 ?hQd121 ?hyd121 hHeld ?restd121
        case hod121 => (simp only [List.getElem?_toArray, List.getElem?_cons_succ, List.getElem?_cons_zero]; exact rfl)
        case hfd121 => kernel_rfl
        case hrd121 => kernel_rfl
        case hQd121 => exact fun _ _ _ h => h
        case hyd121 =>
          refine Or.inl ⟨by rfl, ?_⟩
          intro V hSV
          go_simp
          (try with_reducible rfl)
        try simp only [Act.put, List.setIfInBounds_toArray, List.set_cons_zero, List.set_cons_succ]
        refine wpAnyH_take (i := 4) (oi := ?oid122) (v := ?vd122) ?hod122 (by kernel_rfl) ?hfd122 ?hrd122 ?hQd122 ?hyd122 hHeld ?restd122
        case hod122 => (simp only [List.getElem?_toArray, List.getElem?_cons_succ, List.getElem?_cons_zero]; exact rfl)
        case hfd122 => kernel_rfl
        case hrd122 => kernel_rfl
        case hQd122 => exact fun _ _ _ h => h
        case hyd122 =>
          refine Or.inl ⟨by rfl, ?_⟩
          intro V hSV
          go_simp
          (try with_reducible rfl)
        try simp only [Act.put, List.setIfInBounds_toArray, List.set_cons_zero, List.set_cons_succ]
        refine wpAnyH_take (i := 5) (oi := ?oid123) (v := ?vd123) ?hod123 (by kernel_rfl) ?hfd123 ?hrd123 ?hQd123 ?hyd123 hHeld ?restd123
        case hod123 => (simp only [List.getElem?_toArray, List.getElem?_cons_succ, List.getElem?_cons_zero]; exact rfl)
        case hfd123 => kernel_rfl
        case hrd123 => kernel_rfl
        case hQd123 => exact fun _ _ _ h => h
        case hyd123 =>
          refine Or.inl ⟨by rfl, ?_⟩
          intro V hSV
          go_simp
          (try with_reducible rfl)
        try simp only [Act.put, List.setIfInBounds_toArray, List.set_cons_zero, List.set_cons_succ]
        refine wpAnyH_take (i := 6) (oi := ?oid124) (v := ?vd124) ?hod124 (by kernel_rfl) ?hfd124 ?hrd124 ?hQd124 ?hyd124 hHeld ?restd124
        case hod124 => (simp only [List.getElem?_toArray, List.getElem?_cons_succ, List.getElem?_cons_zero]; exact rfl)
        case hfd124 => kernel_rfl
        case hrd124 => kernel_rfl
        case hQd124 => exact fun _ _ _ h => h
        case hyd124 =>
          refine Or.inl ⟨by rfl, ?_⟩
          intro V hSV
          go_simp
          (try with_reducible rfl)
        try simp only [Act.put, List.setIfInBounds_toArray, List.set_cons_zero, List.set_cons_succ]
        refine wpAnyH_take (i := 7) (oi := ?oid125) (v := ?vd125) ?hod125 (by kernel_rfl) ?hfd125 ?hrd125 ?hQd125 ?hyd125 hHeld ?restd125
        case hod125 => (simp only [List.getElem?_toArray, List.getElem?_cons_succ, List.getElem?_cons_zero]; exact rfl)
        case hfd125 => kernel_rfl
        case hrd125 => kernel_rfl
        case hQd125 => exact fun _ _ _ h => h
        case hyd125 =>
          refine Or.inl ⟨by rfl, ?_⟩
          intro V hSV
          have q0 := HH2.out.readT hSV 0 rfl
          have q1 := HH2.out.readT hSV 1 rfl
          have q2 := HH2.out.readT hSV 2 rfl
          go_simp
          (try with_reducible rfl)
        try simp only [Act.put, List.setIfInBounds_toArray, List.set_cons_zero, List.set_cons_succ]
        refine wpAnyH_ready (rs := [8]) (by kernel_rfl) (by simp) ?_
        refine AllReadyH.cons (o := ?od126) ?hod126 (fun K hK => ?kd126) ?md126
        case hod126 => (simp only [List.getElem?_toArray, List.getElem?_cons_succ, List.getElem?_cons_zero]; exact rfl)
        case kd126 =>
          go_simp
          refine (rAMay_any p A1 n1 c1 l A3 n3 c3 R3 L3 _ ((HRF.out.below (show Below W2.heap.size W2 _ from hHeld)).more (Below.size (show Below W2.heap.size W2 _ from hHeld))) ((HRF3.out.below (show Below W2.heap.size W2 _ from hHeld)).more (Below.size (show Below W2.heap.size W2 _ from hHeld))) (by omega) (by omega) (fun x hx => Nat.le_trans (HK3.out x hx) (by omega))).mono ?_
          rintro e w4d126 ⟨rfl, hb4d126⟩
          rw [HMAY.out]
          (try dsimp only)
          refine hK.out _ _ ?_ (fun hHeld => ?_)
          · exact Below.trans (show Below W2.heap.size W2 _ from hHeld) (hb4d126.mono (Below.size (show Below W2.heap.size W2 _ from hHeld)))
          clear hK K
          try simp only [Act.put, List.setIfInBounds_toArray, List.set_cons_zero, List.set_cons_succ]
          refine wpAnyH_take (i := 9) (oi := ?oid127) (v := ?vd127) ?hod127 (by kernel_rfl) ?hfd127 ?hrd127 ?hQd127 ?hyd127 hHeld ?restd127
          case hod127 => (simp only [List.getElem?_toArray, List.getElem?_cons_succ, List.getElem?_cons_zero]; exact rfl)
          case hfd127 => kernel_rfl
          case hrd127 => kernel_rfl
          case hQd127 => exact fun _ _ _ h => h
          case hyd127 =>
            refine Or.inl ⟨by rfl, ?_⟩
            intro V hSV
            go_simp
            (try with_reducible rfl)
          try simp only [Act.put, List.setIfInBounds_toArray, List.set_cons_zero, List.set_cons_succ]
          refine wpAnyH_take (i := 10) (oi := ?oid128) (v := ?vd128) ?hod128 (by kernel_rfl) ?hfd128 ?hrd128 ?hQd128 ?hyd128 hHeld ?restd128
          case hod128 => (simp only [List.getElem?_toArray, List.getElem?_cons_succ, List.getElem?_cons_zero]; exact rfl)
          case hfd128 => kernel_rfl
          case hrd128 => kernel_rfl
          case hQd128 => exact fun _ _ _ h => h
          case hyd128 =>
            refine Or.inl ⟨by rfl, ?_⟩
            intro V hSV
            go_simp
            (try with_reducible rfl)
          try simp only [Act.put, List.setIfInBounds_toArray, List.set_cons_zero, List.set_cons_succ]
          refine wpAnyH_take (i := 11) (oi := ?oid129) (v := ?vd129) ?hod129 (by kernel_rfl) ?hfd129 ?hrd129 ?hQd129 ?hyd129 hHeld ?restd129
          case hod129 => (simp only [List.getElem?_toArray, List.getElem?_cons_succ, List.getElem?_cons_zero]; exact rfl)
          case hfd129 => kernel_rfl
          case hrd129 => kernel_rfl
          case hQd129 => exact fun _ _ _ h => h
          case hyd129 =>
            refine Or.inl ⟨by rfl, ?_⟩
            intro V hSV
            go_simp
            (try with_reducible rfl)
          try simp only [Act.put, List.setIfInBounds_toArray, List.set_cons_zero, List.set_cons_succ]
          refine wpAnyH_take (i := 12) (oi := ?oid130) (v := ?vd130) ?hod130 (by kernel_rfl) ?hfd130 ?hrd130 ?hQd130 ?hyd130 hHeld ?restd130
          case hod130 => (simp only [List.getElem?_toArray, List.getElem?_cons_succ, List.getElem?_cons_zero]; exact rfl)
          case hfd130 => kernel_rfl
          case hrd130 => kernel_rfl
          case hQd130 => exact fun _ _ _ h => h
          case hyd130 =>
            refine Or.inl ⟨by rfl, ?_⟩
            intro V hSV
            go_simp
            (try with_reducible rfl)
          try simp only [Act.put, List.setIfInBounds_toArray, List.set_cons_zero, List.set_cons_succ]
          refine wpAnyH_take (i := 13) (oi := ?oid131) (v := ?vd131) ?hod131 (by kernel_rfl) ?hfd131 ?hrd131 ?hQd131 ?hyd131 hHeld ?restd131
          case hod131 => (simp only [List.getElem?_toArray, List.getElem?_cons_succ, List.getElem?_cons_zero]; exact rfl)
          case hfd131 => kernel_rfl
          case hrd131 => kernel_rfl
          case hQd131 => exact fun _ _ _ h => h
          case hyd131 =>
            refine Or.inl ⟨by rfl, ?_⟩
            intro V hSV
            go_simp
            (try with_reducible rfl)
          try simp only [Act.put, List.setIfInBounds_toArray, List.set_cons_zero, List.set_cons_succ]
          refine wpAnyH_take (i := 14) (oi := ?oid132) (v := ?vd132) ?hod132 (by kernel_rfl) ?hfd132 ?hrd132 ?hQd132 ?hyd132 hHeld ?restd132
          case hod132 => (simp only [List.getElem?_toArray, List.getElem?_cons_succ, List.getElem?_cons_zero]; exact rfl)
          case hfd132 => kernel_rfl
          case hrd132 => kernel_rfl
          case hQd132 => exact fun _ _ _ h => h
          case hyd132 =>
            refine Or.inl ⟨by rfl, ?_⟩
            intro V hSV
            go_simp
            (try with_reducible rfl)
          try simp only [Act.put, List.setIfInBounds_toArray, List.set_cons_zero, List.set_cons_succ]
          refine wpAnyH_take (i := 15) (oi := ?oid133) (v := ?vd133) ?hod133 (by kernel_rfl) ?hfd133 ?hrd133 ?hQd133 ?hyd133 hHeld ?restd133
          case hod133 => (simp only [List.getElem?_toArray, List.getElem?_cons_succ, List.getElem?_cons_zero]; exact rfl)
          case hfd133 => kernel_rfl
          case hrd133 => kernel_rfl
          case hQd133 => exact fun _ _ _ h => h
          case hyd133 =>
            refine Or.inl ⟨by rfl, ?_⟩
            intro V hSV
            go_simp
            (try with_reducible rfl)
          try simp only [Act.put, List.setIfInBounds_toArray, List.set_cons_zero, List.set_cons_succ]
          refine wpAnyH_take (i := 16) (oi := ?oid134) (v := ?vd134) ?hod134 (by kernel_rfl) ?hfd134 ?hrd134 ?hQd134 ?hyd134 hHeld ?restd134
          case hod134 => (simp only [List.getElem?_toArray, List.getElem?_cons_succ, List.getElem?_cons_zero]; exact rfl)
          case hfd134 => kernel_rfl
          case hrd134 => kernel_rfl
          case hQd134 => exact fun _ _ _ h => h
          case hyd134 =>
            refine Or.inl ⟨by rfl, ?_⟩
            intro V hSV
            go_simp
            (try with_reducible rfl)
          try simp only [Act.put, List.setIfInBounds_toArray, List.set_cons_zero, List.set_cons_succ]
          refine wpAnyH_take (i := 17) (oi := ?oid135) (v := ?vd135) ?hod135 (by kernel_rfl) ?hfd135 ?hrd135 ?hQd135 ?hyd135 hHeld ?restd135
          case hod135 => (simp only [List.getElem?_toArray, List.getElem?_cons_succ, List.getElem?_cons_zero]; exact rfl)
          case hfd135 => kernel_rfl
          case hrd135 => kernel_rfl
          case hQd135 => exact fun _ _ _ h => h
          case hyd135 =>
            refine Or.inl ⟨by rfl, ?_⟩
            intro V hSV
            go_simp
            (try with_reducible rfl)
          try simp only [Act.put, List.setIfInBounds_toArray, List.set_cons_zero, List.set_cons_succ]
          refine wpAnyH_take (i := 18) (oi := ?oid136) (v := ?vd136) ?hod136 (by kernel_rfl) ?hfd136 ?hrd136 ?hQd136 ?hyd136 hHeld ?restd136
          case hod136 => (simp only [List.getElem?_toArray, List.getElem?_cons_succ, List.getElem?_cons_zero]; exact rfl)
          case hfd136 => kernel_rfl
          case hrd136 => kernel_rfl
          case hQd136 => exact fun _ _ _ h => h
          case hyd136 =>
            refine Or.inl ⟨by rfl, ?_⟩
            intro V hSV
            go_simp
            (try with_reducible rfl)
          try simp only [Act.put, List.setIfInBounds_toArray, List.set_cons_zero, List.set_cons_succ]
          refine wpAnyH_take (i := 19) (oi := ?oid137) (v := ?vd137) ?hod137 (by kernel_rfl) ?hfd137 ?hrd137 ?hQd137 ?hyd137 hHeld ?restd137
          case hod137 => (simp only [List.getElem?_toArray, List.getElem?_cons_succ, List.getElem?_cons_zero]; exact rfl)
          case hfd137 => kernel_rfl
          case hrd137 => kernel_rfl
          case hQd137 => exact fun _ _ _ h => h
          case hyd137 =>
            refine Or.inl ⟨by rfl, ?_⟩
            intro V hSV
            go_simp
            (try with_reducible rfl)
          try simp only [Act.put, List.setIfInBounds_toArray, List.set_cons_zero, List.set_cons_succ]
          refine wpAnyH_take (i := 20) (oi := ?oid138) (v := ?vd138) ?hod138 (by kernel_rfl) ?hfd138 ?hrd138 ?hQd138 ?hyd138 hHeld ?restd138
          case hod138 => (simp only [List.getElem?_toArray, List.getElem?_cons_succ, List.getElem?_cons_zero]; exact rfl)
          case hfd138 => kernel_rfl
          case hrd138 => kernel_rfl
          case hQd138 => exact fun _ _ _ h => h
          case hyd138 =>
            refine Or.inl ⟨by rfl, ?_⟩
            intro V hSV
            go_simp
            (try with_reducible rfl)
          try simp only [Act.put, List.setIfInBounds_toArray, List.set_cons_zero, List.set_cons_succ]
          refine wpAnyH_take (i := 21) (oi := ?oid139) (v := ?vd139) ?hod139 (by kernel_rfl) ?hfd139 ?hrd139 ?hQd139 ?hyd139 hHeld ?restd139
          case hod139 => (simp only [List.getElem?_toArray, List.getElem?_cons_succ, List.getElem?_cons_zero]; exact rfl)
          case hfd139 => kernel_rfl
          case hrd139 => kernel_rfl
          case hQd139 => exact fun _ _ _ h => h
          case hyd139 =>
            refine Or.inl ⟨by rfl, ?_⟩
            intro V hSV
            go_simp
            (try with_reducible rfl)
          try simp only [Act.put, List.setIfInBounds_toArray, List.set_cons_zero, List.set_cons_succ]
          refine wpAnyH_take (i := 22) (oi := ?oid140) (v := ?vd140) ?hod140 (by kernel_rfl) ?hfd140 ?hrd140 ?hQd140 ?hyd140 hHeld ?restd140
          case hod140 => (simp only [List.getElem?_toArray, List.getElem?_cons_succ, List.getElem?_cons_zero]; exact rfl)
          case hfd140 => kernel_rfl
          case hrd140 => kernel_rfl
          case hQd140 => exact fun _ _ _ h => h
          case hyd140 =>
            refine Or.inl ⟨by rfl, ?_⟩
            intro V hSV
            go_simp
            (try with_reducible rfl)
          try simp only [Act.put, List.setIfInBounds_toArray, List.set_cons_zero, List.set_cons_succ]
          refine wpAnyH_take (i := 23) (oi := ?oid141) (v := ?vd141) ?hod141 (by kernel_rfl) ?hfd141 ?hrd141 ?hQd141 ?hyd141 hHeld ?restd141
          case hod141 => (simp only [List.getElem?_toArray, List.getElem?_cons_succ, List.getElem?_cons_zero]; exact rfl)
          case hfd141 => kernel_rfl
          case hrd141 => kernel_rfl
          case hQd141 => exact fun _ _ _ h => h
          case hyd141 =>
            refine Or.inl ⟨by rfl, ?_⟩
            intro V hSV
            go_simp
            (try with_reducible rfl)
          try simp only [Act.put, List.setIfInBounds_toArray, List.set_cons_zero, List.set_cons_succ]
          refine wpAnyH_take (i := 24) (oi := ?oid142) (v := ?vd142) ?hod142 (by kernel_rfl) ?hfd142 ?hrd142 ?hQd142 ?hyd142 hHeld ?restd142
          case hod142 => (simp only [List.getElem?_toArray, List.getElem?_cons_succ, List.getElem?_cons_zero]; exact rfl)
          case hfd142 => kernel_rfl
          case hrd142 => kernel_rfl
          case hQd142 => exact fun _ _ _ h => h
          case hyd142 =>
            refine Or.inl ⟨by rfl, ?_⟩
            intro V hSV
            go_simp
            (try with_reducible rfl)
          try simp only [Act.put, List.setIfInBounds_toArray, List.set_cons_zero, List.set_cons_succ]
          refine wpAnyH_take (i := 25) (oi := ?oid143) (v := ?vd143) ?hod143 (by kernel_rfl) ?hfd143 ?hrd143 ?hQd143 ?hyd143 hHeld ?restd143
          case hod143 => (simp only [List.getElem?_toArray, List.getElem?_cons_succ, List.getElem?_cons_zero]; exact rfl)
          case hfd143 => kernel_rfl
          case hrd143 => kernel_rfl
          case hQd143 => exact fun _ _ _ h => h
          case hyd143 =>
            refine Or.inl ⟨by rfl, ?_⟩
            intro V hSV
            go_simp
            (try with_reducible rfl)
          try simp only [Act.put, List.setIfInBounds_toArray, List.set_cons_zero, List.set_cons_succ]
          refine wpAnyH_take (i := 26) (oi := ?oid144) (v := ?vd144) ?hod144 (by kernel_rfl) ?hfd144 ?hrd144 ?hQd144 ?hyd144 hHeld ?restd144
          case hod144 => (simp only [List.getElem?_toArray, List.getElem?_cons_succ, List.getElem?_cons_zero]; exact rfl)
          case hfd144 => kernel_rfl
          case hrd144 => kernel_rfl
          case hQd144 => exact fun _ _ _ h => h
          case hyd144 =>
            refine Or.inl ⟨by rfl, ?_⟩
            intro V hSV
            go_simp
            (try with_reducible rfl)
          try simp only [Act.put, List.setIfInBounds_toArray, List.set_cons_zero, List.set_cons_succ]
          refine wpAnyH_take (i := 27) (oi := ?oid145) (v := ?vd145) ?hod145 (by kernel_rfl) ?hfd145 ?hrd145 ?hQd145 ?hyd145 hHeld ?restd145
          case hod145 => (simp only [List.getElem?_toArray, List.getElem?_cons_succ, List.getElem?_cons_zero]; exact rfl)
          case hfd145 => kernel_rfl
          case hrd145 => kernel_rfl
          case hQd145 => exact fun _ _ _ h => h
          case hyd145 =>
            refine Or.inl ⟨by rfl, ?_⟩
            intro V hSV
            go_simp
            (try with_reducible rfl)
          try simp only [Act.put, List.setIfInBounds_toArray, List.set_cons_zero, List.set_cons_succ]
          refine wpAnyH_take (i := 28) (oi := ?oid146) (v := undef) ?hod146 (by kernel_rfl) ?hfd146 ?hrd146 ?hQd146 ?hyd146 hHeld ?restd146
          case hod146 => (simp only [List.getElem?_toArray, List.getElem?_cons_succ, List.getElem?_cons_zero]; exact rfl)
          case hfd146 => kernel_rfl
          case hrd146 => kernel_rfl
          case hQd146 => exact fun _ _ _ h => h
          case hyd146 =>
            exact Or.inr ⟨by rfl, rfl⟩
          try simp only [Act.put, List.setIfInBounds_toArray, List.set_cons_zero, List.set_cons_succ]
          refine wpAnyH_take (i := 29) (oi := ?oid147) (v := undef) ?hod147 (by kernel_rfl) ?hfd147 ?hrd147 ?hQd147 ?hyd147 hHeld ?restd147
          case hod147 => (simp only [List.getElem?_toArray, List.getElem?_cons_succ, List.getElem?_cons_zero]; exact rfl)
          case hfd147 => kernel_rfl
          case hrd147 => kernel_rfl
          case hQd147 => exact fun _ _ _ h => h
          case hyd147 =>
            exact Or.inr ⟨by rfl, rfl⟩
          try simp only [Act.put, List.setIfInBounds_toArray, List.set_cons_zero, List.set_cons_succ]
          refine wpAnyH_take (i := 30) (oi := ?oid148) (v := undef) ?hod148 (by kernel_rfl) ?hfd148 ?hrd148 ?hQd148 ?hyd148 hHeld ?restd148
          case hod148 => (simp only [List.getElem?_toArray, List.getElem?_cons_succ, List.getElem?_cons_zero]; exact rfl)
          case hfd148 => kernel_rfl
          case hrd148 => kernel_rfl
          case hQd148 => exact fun _ _ _ h => h
          case hyd148 =>
            exact Or.inr ⟨by rfl, rfl⟩
          try simp only [Act.put, List.setIfInBounds_toArray, List.set_cons_zero, List.set_cons_succ]
          refine wpAnyH_take (i := 31) (oi := ?oid149) (v := undef) ?hod149 (by kernel_rfl) ?hfd149 ?hrd149 ?hQd149 ?hyd149 hHeld ?restd149
          case hod149 => (simp only [List.getElem?_toArray, List.getElem?_cons_succ, List.getElem?_cons_zero]; exact rfl)
          case hfd149 => kernel_rfl
          case hrd149 => kernel_rfl
          case hQd149 => exact fun _ _ _ h => h
          case hyd149 =>
            exact Or.inr ⟨by rfl, rfl⟩
          try simp only [Act.put, List.setIfInBounds_toArray, List.set_cons_zero, List.set_cons_succ]
          refine wpAnyH_take (i := 32) (oi := ?oid150) (v := undef) ?hod150 (by kernel_rfl) ?hfd150 ?hrd150 ?hQd150 ?hyd150 hHeld ?restd150
          case hod150 => (simp only [List.getElem?_toArray, List.getElem?_cons_succ, List.getElem?_cons_zero]; exact rfl)
          case hfd150 => kernel_rfl
          case hrd150 => kernel_rfl
          case hQd150 => exact fun _ _ _ h => h
          case hyd150 =>
            exact Or.inr ⟨by rfl, rfl⟩
          try simp only [Act.put, List.setIfInBounds_toArray, List.set_cons_zero, List.set_cons_succ]
          refine wpAnyH_take (i := 33) (oi := ?oid151) (v := undef) ?hod151 (by kernel_rfl) ?hfd151 ?hrd151 ?hQd151 ?hyd151 hHeld ?restd151
          case hod151 => (simp only [List.getElem?_toArray, List.getElem?_cons_succ, List.getElem?_cons_zero]; exact rfl)
          case hfd151 => kernel_rfl
          case hrd151 => kernel_rfl
          case hQd151 => exact fun _ _ _ h => h
          case hyd151 =>
            exact Or.inr ⟨by rfl, rfl⟩
          try simp only [Act.put, List.setIfInBounds_toArray, List.set_cons_zero, List.set_cons_succ]
          refine wpAnyH_take (i := 34) (oi := ?oid152) (v := undef) ?hod152 (by kernel_rfl) ?hfd152 ?hrd152 ?hQd152 ?hyd152 hHeld ?restd152
          case hod152 => (simp only [List.getElem?_toArray, List.getElem?_cons_succ, List.getElem?_cons_zero]; exact rfl)
          case hfd152 => kernel_rfl
          case hrd152 => kernel_rfl
          case hQd152 => exact fun _ _ _ h => h
          case hyd152 =>
            exact Or.inr ⟨by rfl, rfl⟩
          try simp only [Act.put, List.setIfInBounds_toArray, List.set_cons_zero, List.set_cons_succ]
          refine wpAnyH_take (i := 35) (oi := ?oid153) (v := undef) ?hod153 (by kernel_rfl) ?hfd153 ?hrd153 ?hQd153 ?hyd153 hHeld ?restd153
          case hod153 => (simp only [List.getElem?_toArray, List.getElem?_cons_succ, List.getElem?_cons_zero]; exact rfl)
          case hfd153 => kernel_rfl
          case hrd153 => kernel_rfl
          case hQd153 => exact fun _ _ _ h => h
          case hyd153 =>
            exact Or.inr ⟨by rfl, rfl⟩
          try simp only [Act.put, List.setIfInBounds_toArray, List.set_cons_zero, List.set_cons_succ]
          refine wpAnyH_take (i := 36) (oi := ?oid154) (v := undef) ?hod154 (by kernel_rfl) ?hfd154 ?hrd154 ?hQd154 ?hyd154 hHeld ?restd154
          case hod154 => (simp only [List.getElem?_toArray, List.getElem?_cons_succ, List.getElem?_cons_zero]; exact rfl)
          case hfd154 => kernel_rfl
          case hrd154 => kernel_rfl
          case hQd154 => exact fun _ _ _ h => h
          case hyd154 =>
            exact Or.inr ⟨by rfl, rfl⟩
          try simp only [Act.put, List.setIfInBounds_toArray, List.set_cons_zero, List.set_cons_succ]
          refine wpAnyH_take (i := 37) (oi := ?oid155) (v := ?vd155) ?hod155 (by kernel_rfl) ?hfd155 ?hrd155 ?hQd155 ?hyd155 hHeld ?restd155
          case hod155 => (simp only [List.getElem?_toArray, List.getElem?_cons_succ, List.getElem?_cons_zero]; exact rfl)
          case hfd155 => kernel_rfl
          case hrd155 => kernel_rfl
          case hQd155 => exact fun _ _ _ h => h
          case hyd155 =>
            refine Or.inl ⟨by rfl, ?_⟩
            intro V hSV
            go_simp
            (try with_reducible rfl)
          try simp only [Act.put, List.setIfInBounds_toArray, List.set_cons_zero, List.set_cons_succ]
          refine wpAnyH_take (i := 38) (oi := ?oid156) (v := ?vd156) ?hod156 (by kernel_rfl) ?hfd156 ?hrd156 ?hQd156 ?hyd156 hHeld ?restd156
          case hod156 => (simp only [List.getElem?_toArray, List.getElem?_cons_succ, List.getElem?_cons_zero]; exact rfl)
          case hfd156 => kernel_rfl
          case hrd156 => kernel_rfl
          case hQd156 => exact fun _ _ _ h => h
          case hyd156 =>
            refine Or.inl ⟨by rfl, ?_⟩
            intro V hSV
            go_simp
            (try with_reducible rfl)
          try simp only [Act.put, List.setIfInBounds_toArray, List.set_cons_zero, List.set_cons_succ]
          refine wpAnyH_done (by kernel_rfl) ?_ _
          have hvv : Below W2.heap.size W2 _ := hHeld
          clear hHeld
          have HV := Lib.hid (HU2.out.trans (Below.mono hvv HU2.out.size))
          clear hvv
          repeat (first | go_skip | go_guarded | go_step)
          refine (ok.takeClause A2 n2 c2 t bs2 _ ((HR2.out.below HV.out).more HV.out.size) hc2 (by omega) ht1 ht2).mono ?_
          rintro e W4 ⟨p4, A4, n4, d4, l4, A6, n6, d6, R6, L6, y4, z4, rfl, hx4, hx6, hd4, hd6, hm4, hm6, hs6, hb4, ha4⟩
          have HV4 := Lib.hid (HV.out.trans (hb4.mono HV.out.size))
          have HX4 := Lib.hid hx4
          have HX6 := Lib.hid hx6
          have HA4 := Lib.hid ha4
          clear hx4 hx6 hb4 ha4
          dsimp only
          go_upto_region 8 with (fail)
          obtain ⟨Z, hZ, hZa, hZw⟩ : ∃ Z, Z = W4.alloc (.cells #[nv p4, .slice A4 n4 d4, .slice A6 n6 d6] 45) ∧ Bk Z W4.heap.size 45 [nv p4, .slice A4 n4 d4, .slice A6 n6 d6] ∧ Below W4.heap.size W4 Z := ⟨_, rfl, Bk.new W4 _ _, (Below.refl _ _).alloc (Nat.le_refl _) _⟩
          rw [← hZ]
          clear hZ
          have HV5 := Lib.hid (HV4.out.trans (hZw.mono HV4.out.size))
          have HX4 := Lib.hid ((HX4.out.below hZw).more hZw.size)
          have HX6 := Lib.hid ((HX6.out.below hZw).more hZw.size)
          have HZ := Lib.hid hZa
          generalize W4.heap.size = gz at hZa HZ ⊢
          clear hZa hZw
          repeat (first | go_skip | go_guarded | go_step)
          refine (rTakeClause_any A2 n2 c2 t bs2 _ ((HR2.out.below HV5.out).more HV5.out.size) hc2 (by omega)).mono ?_
          rintro e W5 ⟨p5, A5, n5, d5, l5, A7, n7, d7, R7, L7, y5, z5, rfl, hx5, hx7, hm5, hm7, hs7, hb5, ha5⟩
          have HV6 := Lib.hid (HV5.out.trans (hb5.mono HV5.out.size))
          have HX5 := Lib.hid hx5
          have HX7 := Lib.hid hx7
          have HX4 := Lib.hid ((HX4.out.below hb5).more hb5.size)
          have HX6 := Lib.hid ((HX6.out.below hb5).more hb5.size)
          have HZ := Lib.hid (HZ.out.later hb5)
          have he := HA4.out.trans ha5.symm
          simp only [Prod.mk.injEq] at he
          obtain ⟨⟨⟨rfl, rfl⟩, rfl⟩, rfl, rfl⟩ := he
          clear hx5 hx7 hb5 ha5 HA4
          dsimp only
          go_upto_region 9 with (fail)
          obtain ⟨Y, hY, hYa, hYw⟩ : ∃ Y, Y = W5.alloc (.cells #[nv p4, .slice A5 n5 d5, .slice A7 n7 d7] 45) ∧ Bk Y W5.heap.size 45 [nv p4, .slice A5 n5 d5, .slice A7 n7 d7] ∧ Below W5.heap.size W5 Y := ⟨_, rfl, Bk.new W5 _ _, (Below.refl _ _).alloc (Nat.le_refl _) _⟩
          rw [← hY]
          clear hY
          have HV7 := Lib.hid (HV6.out.trans (hYw.mono HV6.out.size))
          have HX4 := Lib.hid ((HX4.out.below hYw).more hYw.size)
          have HX5 := Lib.hid ((HX5.out.below hYw).more hYw.size)
          have HX6 := Lib.hid ((HX6.out.below hYw).more hYw.size)
          have HX7 := Lib.hid ((HX7.out.below hYw).more hYw.size)
          have HZ := HZ.out.later hYw
          generalize W5.heap.size = gy at hYa ⊢
          have i0 := HZ.readT (Below.refl _ _) 0 rfl
          have j0 := hYa.readT (Below.refl _ _) 0 rfl
          have i1 := HZ.readT (Below.refl _ _) 1 rfl
          have j1 := hYa.readT (Below.refl _ _) 1 rfl
          have i2 := HZ.readT (Below.refl _ _) 2 rfl
          have j2 := hYa.readT (Below.refl _ _) 2 rfl
          clear hYa hYw HZ
          repeat (first | go_skip | go_guarded | go_step)
          refine (rASame_any p4 A4 n4 d4 l4 A6 n6 d6 R6 L6 p4 A5 n5 d5 l4 A7 n7 d7 R7 L6 Y HX4.out HX6.out HX5.out HX7.out (by omega) (by omega) (fun x hx => Nat.le_trans (hs7 x hx) (by omega))).mono ?_
          rintro e W6 ⟨rfl, hb6⟩
          have HV8 := Lib.hid (HV7.out.trans (hb6.mono HV7.out.size))
          clear hb6 i0 j0 i1 j1 i2 j2
          rw [decide_eq_true rfl]
          dsimp only
          repeat (first | go_skip | go_guarded | go_step)
          refine (wWorks_any ok _).mono ?_
          rintro e W7 ⟨rfl, hb7⟩
          have HV9 := Lib.hid (HV8.out.trans (hb7.mono HV8.out.size))
          clear hb7
          dsimp only
          repeat (first | go_skip | go_guarded | go_step)
          go_ret
          exact ⟨rfl, hhw ▸ HB.out.trans (HV9.out.mono HB.out.size)⟩
        exact AllReadyH.nil
      exact AllReadyH.nil

open Go.ChangeShapes Go.WideShapes Go.ChangeAt

set_option maxRecDepth 100000 in
theorem lifted (ok : WireOk) (os : Os) (started : os.Started) (H : Type) (enc : TypeId × Value → H) :
    ReturnsInHanded {} Try.checked os 4 .any (Rows.wireClausesSpec.pre6 enc Try.prog Try.f4 Rows.wireClausesRow.domain false) (Rows.wireClausesSpec.post enc Try.prog Try.f4 false true false false) := by
  refine returnsInHanded_of_change_sized (C := Try.checked) ownK started (by kernel_rfl) Try.func4
    (ChangeSpec.witness6 (enc := enc) (C := Try.checked) false ⟨#[], #[.slice none 0 0, .agg #[.int .u32 0, .slice none 0 0, .slice none 0 0], .slice none 0 0, .int .i64 0], []⟩ 8 (by kernel_rfl) (by kernel_rfl) (by kernel_rfl) (by kernel_rfl)) ?_
  intro W base args ds gs before hval0 hW hcnd hsz0 _
  have hsz : (DataW.weightsEach Try.prog (Try.f4.params.toList ++ Rows.wireClausesSpec.plain.varTypes Try.prog) (ds ++ gs)).all (· ≤ reachBytes) = true := hsz0
  have hval : ∀ (j : Nat) t v, Try.f4.params[j]? = some t → args[j]? = some v → Value.okWide Try.prog W .any base t v := hval0
  have hlt : ∀ x ∈ before, x.block < W.heap.size := fun x hx => by simpa using hW.lt x hx
  have hW' := hW
  obtain ⟨p, q, hA0, hV, rfl, hfz, hnd⟩ := hW
  have hA : DataW.TrodAll enc Try.prog W 0 (fun _ => true) true Try.f4.params.toList args.toList ds p := hA0
  rw [Try.params4] at hA hval hsz
  obtain ⟨v0, vs0, d0, ds0, p0, q0, hargs, rfl, rfl, h0, r0⟩ := trodAll_cons hA
  obtain ⟨v1, vs1, d1, ds1, p1, q1, rfl, rfl, rfl, h1, r1⟩ := trodAll_cons r0
  obtain ⟨v2, vs2, d2, ds2, p2, q2, rfl, rfl, rfl, h2, r2⟩ := trodAll_cons r1
  obtain ⟨v3, vs3, d3, ds3, p3, q3, rfl, rfl, rfl, h3, r3⟩ := trodAll_cons r2
  obtain ⟨rfl, rfl, rfl⟩ := trodAll_nil r3
  obtain rfl : args = #[v0, v1, v2, v3] := by cases args; simp_all
  obtain ⟨rfl, rfl⟩ := trodVars_none hV
  obtain ⟨A, n, c, bs, rfl, hk0, hm0, hr0⟩ := open_bytes (hval 0 22 v0 rfl rfl) h0 (fun x hx => hlt x (by simp [hx])) (fun elems spare e => by
    have := sized_slice hsz (j := 0) (t := 22) (e := 5) (elems := elems) (spare := spare) rfl (by rw [e]; rfl) Try.underlying22
    rw [bytes8] at this
    simp only [reachBytes] at this
    omega)
  obtain ⟨p, A1, n1, c1, l, A3, n3, c3, R3, L3, rfl, hk1, hm1, hk3, hm3, hr1, hr3⟩ := open_clause (hval 1 45 v1 rfl rfl) h1 (fun x hx => hlt x (by simp [hx]))
  obtain ⟨A2, n2, c2, bs2, rfl, hk2, hm2, hr2⟩ := open_bytes (hval 2 22 v2 rfl rfl) h2 (fun x hx => hlt x (by simp [hx])) (fun elems spare e => by
    have := sized_slice hsz (j := 2) (t := 22) (e := 5) (elems := elems) (spare := spare) rfl (by rw [e]; rfl) Try.underlying22
    rw [bytes8] at this
    simp only [reachBytes] at this
    omega)
  obtain ⟨t, rfl, rfl, rfl, wt⟩ := open_int Try.underlying3 (hval 3 3 v3 rfl rfl) h3
  have bt := i64_bdW wt
  have main : Calls Try.prog 4 #[.slice A n c, .agg #[nv p, .slice A1 n1 c1, .slice A3 n3 c3], .slice A2 n2 c2, .int .i64 t] W fun e w' => e = .returned (.bool true) ∧ Below W.heap.size W w' := by
    exact walk ok A n c bs p A1 n1 c1 l A3 n3 c3 R3 L3 A2 n2 c2 bs2 t W hr0 hk0 hr1 hk1 hr3 hk3 hr2 hk2 bt.1 bt.2
  refine main.mono fun e W' ⟨he, hg⟩ => ?_
  subst he
  exact ⟨_, rfl, post_law laidOut rfl (by kernel_rfl) hW' hg rfl Try.underlying4 rfl rfl rfl⟩

theorem proved_of (ok : WireOk) : Rows.WireClausesSaid :=
  OpenClaim.holds_of_wide 4 Try.f4 rfl rfl rfl rfl rfl rfl rfl ⟨rfl, rfl, rfl, rfl, rfl⟩ rfl rfl rfl rfl rfl (by kernel_rfl) Try.func4 (by kernel_rfl)
    (of_decide_eq_true (by kernel_rfl)) (by unfold Func.isWrapper; first | (rw [if_pos (by decide +kernel)]; kernel_rfl) | (rw [if_neg (by decide +kernel)]; exact ⟨rfl, rfl⟩))
    (fun os started H enc _ => lifted ok os started H enc)
#print axioms proved_of
end Go.Proofs.Ytcoafgnbmgndeaa.wireClauses
