/- Layer 6 (wire): WireRules from what is asked of the program. -/
import Derived.Test.YtcoafgnbmgndeaaWrQ
import Derived.Test.YtcoafgnbmgndeaaWrAo
import Derived.Test.YtcoafgnbmgndeaaArg
set_option linter.unusedVariables false
set_option linter.unusedSimpArgs false
namespace Go.Proofs.Ytcoafgnbmgndeaa.wireRules
open Go Go.RowKit

theorem i64_bdW {a : Int} (w : (Lit.int .i64 a).wf = true) : -9223372036854775808 ≤ a ∧ a ≤ 9223372036854775807 := by
  have h1 : IntKind.i64.min = -9223372036854775808 := rfl
  have h2 : IntKind.i64.max = 9223372036854775807 := rfl
  simp only [Lit.wf, Bool.and_eq_true, decide_eq_true_eq] at w
  omega
theorem str_add (a b : List UInt8) : (({ data := a.toArray } : ByteArray) ++ ({ data := b.toArray } : ByteArray)) = { data := (a ++ b).toArray } := by
  apply ByteArray.ext
  rw [ByteArray.data_append]
  simp
theorem anyd_conv8 {ops : Array Oper} {E : Prop} {o : Oper} {a : Act} {w : World} {K : Act → World → Prop} {Q : Exit → Act → World → Prop} (hwant : Region.wanted o (yielded ops a.tmps) = true) (x : Operand)
    (ho : o.op = .convert 22 9 x) (B : Nat) (A : Option Addr) (n c : Nat) (bs : List UInt8) (hx : a.eval x = .slice A n c) (hr : Rd w B 1 A n (bs.map bv))
    (h : K (a.put o.dst (strV bs)) w) : if Region.wanted o (yielded ops a.tmps) = true then Oper.wp Try.prog o a w K Q else E := by
  rw [if_pos hwant]
  have e := run_conv_str (P := Try.prog) w 22 9 5 Try.underlying22 Try.underlying5 Try.underlying9 B A n c bs hr
  unfold Oper.wp execOp
  simp only [ho, hx, Sem.run_bind, e, Result.andThen_ok]
  exact h
theorem bigR_not {c : Rl} (h : bigR c = false) : c.1.2.2.2.length ≤ 100 ∧ c.2.length ≤ 100 ∧ ∀ x ∈ c.2, x.2.2.2.2.length ≤ 100 := by
  unfold bigR at h
  rw [Bool.or_eq_false_iff, Bool.or_eq_false_iff, decide_eq_false_iff_not, decide_eq_false_iff_not, List.any_eq_false] at h
  refine ⟨by omega, by omega, fun x hx => ?_⟩
  have := h.2 x hx
  simp only [decide_eq_true_eq] at this
  omega

set_option maxRecDepth 100000 in
set_option maxHeartbeats 8000000 in
theorem walk (ok : WireOk) (A : Option Addr) (n c : Nat) (bs : List UInt8) (s0 : Bool) (x0 : Tm) (p : UInt32) (A1 : Option Addr) (n1 c1 : Nat) (l : List Tm) (A3 : Option Addr) (n3 c3 : Nat) (R3 : List SlA) (L3 : List Co) (A2 : Option Addr) (n2 c2 : Nat) (bs2 : List UInt8) (t : Int) (w : World) (hr : Rd w w.heap.size 1 A n (bs.map bv)) (hc : n ≤ c) (hf : RdT w w.heap.size A1 n1 l) (hf1 : n1 ≤ c1) (hf3 : RdK w w.heap.size A3 n3 R3 L3) (hf4 : n3 ≤ c3) (hr2 : Rd w w.heap.size 1 A2 n2 (bs2.map bv)) (hc2 : n2 ≤ c2) (ht1 : -9223372036854775808 ≤ t) (ht2 : t ≤ 9223372036854775807) :
    Calls Try.prog 5 #[.slice A n c, .agg #[.bool s0, .bool x0.1, nv x0.2, nv p, .slice A1 n1 c1, .slice A3 n3 c3], .slice A2 n2 c2, .int .i64 t] w fun e w' => e = .returned (.bool true) ∧ Below w.heap.size w w' := by
  obtain ⟨U, hU, hH, hbU⟩ : ∃ U, U = w.alloc (.cells #[.bool s0, .bool x0.1, nv x0.2, nv p, .slice A1 n1 c1, .slice A3 n3 c3] 59) ∧ Bk U w.heap.size 59 [.bool s0, .bool x0.1, nv x0.2, nv p, .slice A1 n1 c1, .slice A3 n3 c3] ∧ Below w.heap.size w U :=
    ⟨_, rfl, Bk.new w _ _, (Below.refl _ _).alloc (Nat.le_refl _) _⟩
  have HU := Lib.hid hU
  have HH := Lib.hid hH
  have HB := Lib.hid hbU
  have HR := Lib.hid ((hr.below hbU).more hbU.size)
  have HR2 := Lib.hid ((hr2.below hbU).more hbU.size)
  have HF := Lib.hid ((hf.below hbU).more hbU.size)
  have HL := Lib.hid (rdT_len hf)
  have HF3 := Lib.hid ((hf3.below hbU).more hbU.size)
  have k0 := HH.out.readT (Below.refl _ _) 0 rfl
  have k1 := HH.out.readT (Below.refl _ _) 1 rfl
  have k2 := HH.out.readT (Below.refl _ _) 2 rfl
  have k3 := HH.out.readT (Below.refl _ _) 3 rfl
  have k4 := HH.out.readT (Below.refl _ _) 4 rfl
  have k5 := HH.out.readT (Below.refl _ _) 5 rfl
  clear hU hH hbU hr hr2 hf hf3
  go_enter Try.func5, Try.ntmps5
  go_upto_region 1 with (fail)
  rw [← HU.out]
  clear HU
  generalize hhw : w.heap.size = gx at HH k0 k1 k2 k3 k4 k5 ⊢
  repeat (first | go_skip | go_guarded | go_step)
  refine (vastW_any A n c U).mono ?_
  rintro e w1 ⟨rfl, rfl⟩
  by_cases hn : 4096 < n
  · rw [decide_eq_true hn]
    dsimp only
    repeat (first | go_skip | go_guarded | go_step)
    refine (wWorks_any ok _).mono ?_
    rintro e w1 ⟨rfl, hb1⟩
    dsimp only
    repeat (first | go_skip | go_guarded | go_step)
    go_ret
    exact ⟨rfl, hhw ▸ HB.out.trans (hb1.mono HB.out.size)⟩
  rw [decide_eq_false hn]
  dsimp only
  repeat (first | go_skip | go_guarded | go_step)
  refine (vastW_any A2 n2 c2 U).mono ?_
  rintro e w1 ⟨rfl, rfl⟩
  by_cases hn2 : 4096 < n2
  · rw [decide_eq_true hn2]
    dsimp only
    repeat (first | go_skip | go_guarded | go_step)
    refine (wWorks_any ok _).mono ?_
    rintro e w1 ⟨rfl, hb1⟩
    dsimp only
    repeat (first | go_skip | go_guarded | go_step)
    go_ret
    exact ⟨rfl, hhw ▸ HB.out.trans (hb1.mono HB.out.size)⟩
  rw [decide_eq_false hn2]
  dsimp only
  repeat (first | go_skip | go_guarded | go_step)
  refine (rRBig_any s0 x0 p A1 n1 c1 l A3 n3 c3 R3 L3 U HF.out HF3.out).mono ?_
  rintro e w1 ⟨rfl, hb1⟩
  cases hbig : bigR (((s0, x0, (p, l)), L3) : Rl) with
  | true =>
    dsimp only
    repeat (first | go_skip | go_guarded | go_step)
    refine (wWorks_any ok _).mono ?_
    rintro e w2 ⟨rfl, hb2⟩
    dsimp only
    repeat (first | go_skip | go_guarded | go_step)
    go_ret
    exact ⟨rfl, hhw ▸ HB.out.trans ((hb1.trans (hb2.mono hb1.size)).mono HB.out.size)⟩
  | false =>
    dsimp only
    obtain ⟨hn1, hn3, hk3⟩ := bigR_not hbig
    have hn1 : ¬ 100 < n1 := by have h5 : l.length ≤ 100 := hn1; have := HL.out; omega
    have hn3 : n3 ≤ 100 := by have h5 : L3.length ≤ 100 := hn3; have := HF3.out.lenL; omega
    have hk3 : ∀ x ∈ L3, x.2.2.2.2.length ≤ 100 := hk3
    have HK3 := Lib.hid hk3
    clear hbig hk3
    repeat (first | go_skip | go_guarded | go_step)
    clear k0 k1 k2 k3 k4 k5
    refine (roomyW_any A n c bs w1 ((HR.out.below hb1).more hb1.size) (by omega)).mono ?_
    rintro e W1 ⟨rfl, hB1, hbW1⟩
    obtain ⟨q1, hq1⟩ : ∃ q, q = w1.heap.size := ⟨_, rfl⟩
    rw [← hq1] at hB1
    have hUW1 : Below U.heap.size U W1 := hb1.trans (hbW1.mono hb1.size)
    have hro : Rd W1 W1.heap.size 1 (some ⟨q1, 0, none⟩) n (bs.map bv) := by
      have hl : bs.length = n := by simpa using HR.out.len1
      have := hB1.rd n (by rw [roomW_len]; omega)
      have e : (roomW bs).take n = bs.map bv := by
        unfold roomW
        rw [List.take_append_of_le_length (by simp; omega), List.take_of_length_le (by simp; omega)]
      rwa [e] at this
    try rw [← hq1]
    have k0 := HH.out.readT hUW1 0 rfl
    have k1 := HH.out.readT hUW1 1 rfl
    have k2 := HH.out.readT hUW1 2 rfl
    have k3 := HH.out.readT hUW1 3 rfl
    have k4 := HH.out.readT hUW1 4 rfl
    have k5 := HH.out.readT hUW1 5 rfl
    have HRO := Lib.hid hro
    have HB1 := Lib.hid hB1
    have HUW1 := Lib.hid hUW1
    clear hro hB1 hbW1 hq1 hUW1
    dsimp only
    repeat (first | go_skip | go_guarded | go_step)
    refine (ok.putRule (some ⟨q1, 0, none⟩) n (n + 600) bs s0 x0 p A1 n1 c1 l A3 n3 c3 R3 L3 W1 HRO.out (by omega) (by omega) ((HF.out.below HUW1.out).more HUW1.out.size) ((HF3.out.below HUW1.out).more HUW1.out.size) hf1 hf4 (by omega) (by omega) (fun x hx => Nat.le_trans (HK3.out x hx) (by omega))).mono ?_
    rintro e W2 ⟨A', m', c', z, bs', rfl, ho2, hb2, hz⟩
    have hU2 : Below U.heap.size U W2 := HUW1.out.trans (hb2.mono HUW1.out.size)
    have HB2 := Lib.hid (HB1.out.later hb2)
    have HO2 := Lib.hid ho2
    have HU2 := Lib.hid hU2
    have HH2 := Lib.hid (HH.out.later hU2)
    have HR0 := Lib.hid ((HR.out.below hU2).more hU2.size)
    have HRF := Lib.hid ((HF.out.below hU2).more hU2.size)
    have HRF3 := Lib.hid ((HF3.out.below hU2).more hU2.size)
    clear ho2 hb2 k0 k1 k2 k3 k4 k5 hU2 HB1 HRO
    dsimp only
    rcases hz with ⟨hmay, rfl, rfl⟩ | ⟨hmay, rfl, rfl⟩
    · have HMAY := Lib.hid hmay
      have hlb : bs.length + (ruleB (((s0, x0, (p, l)), L3) : Rl)).length ≤ 100000 := by
        have h1 := (ruleB_len hmay).2
        have h2 : bs.length = n := by simpa using HR.out.len1
        omega
      have HLB := Lib.hid hlb
      clear hmay hlb
      go_upto_region 5 with (fail)
      refine wp_region_held_drew (S := fun V => Below W2.heap.size W2 V) (by kernel_rfl) ?_ (fun hHeld => ?_)
      · exact (Below.refl W2.heap.size W2).drew
      refine wpAnyH_take (i := 0) (oi := ?oid157) (v := ?vd157) ?hod157 (by kernel_rfl) ?hfd157 ?hrd157 ?hQd157 ?hyd157 hHeld ?restd157
      case hod157 => (simp only [List.getElem?_toArray, List.getElem?_cons_succ, List.getElem?_cons_zero]; exact rfl)
      case hfd157 => kernel_rfl
      case hrd157 => kernel_rfl
      case hQd157 => exact fun _ _ _ h => h
      case hyd157 =>
        refine Or.inl ⟨by rfl, ?_⟩
        intro V hSV
        have q0 := HH2.out.readT hSV 0 rfl
        have q1 := HH2.out.readT hSV 1 rfl
        have q2 := HH2.out.readT hSV 2 rfl
        have q3 := HH2.out.readT hSV 3 rfl
        have q4 := HH2.out.readT hSV 4 rfl
        have q5 := HH2.out.readT hSV 5 rfl
        go_simp
        (try with_reducible rfl)
      try simp only [Act.put, List.setIfInBounds_toArray, List.set_cons_zero, List.set_cons_succ]
      refine wpAnyH_take (i := 2) (oi := ?oid158) (v := ?vd158) ?hod158 (by kernel_rfl) ?hfd158 ?hrd158 ?hQd158 ?hyd158 hHeld ?restd158
      case hod158 => (simp only [List.getElem?_toArray, List.getElem?_cons_succ, List.getElem?_cons_zero]; exact rfl)
      case hfd158 => kernel_rfl
      case hrd158 => kernel_rfl
      case hQd158 => exact fun _ _ _ h => h
      case hyd158 =>
        refine Or.inl ⟨by rfl, ?_⟩
        intro V hSV
        have q0 := HH2.out.readT hSV 0 rfl
        have q1 := HH2.out.readT hSV 1 rfl
        have q2 := HH2.out.readT hSV 2 rfl
        have q3 := HH2.out.readT hSV 3 rfl
        have q4 := HH2.out.readT hSV 4 rfl
        have q5 := HH2.out.readT hSV 5 rfl
        go_simp
        (try with_reducible rfl)
      try simp only [Act.put, List.setIfInBounds_toArray, List.set_cons_zero, List.set_cons_succ]
      refine wpAnyH_ready (rs := [1]) (by kernel_rfl) (by simp) ?_
      refine AllReadyH.cons (o := ?od159) ?hod159 (fun K hK => ?kd159) ?md159
      case hod159 => (simp only [List.getElem?_toArray, List.getElem?_cons_succ, List.getElem?_cons_zero]; exact rfl)
      case kd159 =>
        go_simp
        refine (ok.mayRule s0 x0 p A1 n1 c1 l A3 n3 c3 R3 L3 _ ((HRF.out.below (show Below W2.heap.size W2 _ from hHeld)).more (Below.size (show Below W2.heap.size W2 _ from hHeld))) ((HRF3.out.below (show Below W2.heap.size W2 _ from hHeld)).more (Below.size (show Below W2.heap.size W2 _ from hHeld))) hf1 hf4 (by omega) (by omega) (fun x hx => Nat.le_trans (HK3.out x hx) (by omega))).mono ?_
        rintro e w4d159 ⟨rfl, hb4d159⟩
        rw [HMAY.out]
        (try dsimp only)
        refine hK.out _ _ ?_ (fun hHeld => ?_)
        · exact Below.trans (show Below W2.heap.size W2 _ from hHeld) (hb4d159.mono (Below.size (show Below W2.heap.size W2 _ from hHeld)))
        clear hK K
        try simp only [Act.put, List.setIfInBounds_toArray, List.set_cons_zero, List.set_cons_succ]
        refine wpAnyH_ready (rs := [3]) (by kernel_rfl) (by simp) ?_
        refine AllReadyH.cons (o := ?od160) ?hod160 (fun K hK => ?kd160) ?md160
        case hod160 => (simp only [List.getElem?_toArray, List.getElem?_cons_succ, List.getElem?_cons_zero]; exact rfl)
        case kd160 =>
          go_simp
          refine (rRMay_any s0 x0 p A1 n1 c1 l A3 n3 c3 R3 L3 _ ((HRF.out.below (show Below W2.heap.size W2 _ from hHeld)).more (Below.size (show Below W2.heap.size W2 _ from hHeld))) ((HRF3.out.below (show Below W2.heap.size W2 _ from hHeld)).more (Below.size (show Below W2.heap.size W2 _ from hHeld))) (by omega) (by omega) (fun x hx => Nat.le_trans (HK3.out x hx) (by omega))).mono ?_
          rintro e w4d160 ⟨rfl, hb4d160⟩
          rw [HMAY.out]
          (try dsimp only)
          refine hK.out _ _ ?_ (fun hHeld => ?_)
          · exact Below.trans (show Below W2.heap.size W2 _ from hHeld) (hb4d160.mono (Below.size (show Below W2.heap.size W2 _ from hHeld)))
          clear hK K
          try simp only [Act.put, List.setIfInBounds_toArray, List.set_cons_zero, List.set_cons_succ]
          refine wpAnyH_take (i := 4) (oi := ?oid161) (v := ?vd161) ?hod161 (by kernel_rfl) ?hfd161 ?hrd161 ?hQd161 ?hyd161 hHeld ?restd161
          case hod161 => (simp only [List.getElem?_toArray, List.getElem?_cons_succ, List.getElem?_cons_zero]; exact rfl)
          case hfd161 => kernel_rfl
          case hrd161 => kernel_rfl
          case hQd161 => exact fun _ _ _ h => h
          case hyd161 =>
            refine Or.inl ⟨by rfl, ?_⟩
            intro V hSV
            go_simp
            (try with_reducible rfl)
          try simp only [Act.put, List.setIfInBounds_toArray, List.set_cons_zero, List.set_cons_succ]
          refine wpAnyH_take (i := 5) (oi := ?oid162) (v := ?vd162) ?hod162 (by kernel_rfl) ?hfd162 ?hrd162 ?hQd162 ?hyd162 hHeld ?restd162
          case hod162 => (simp only [List.getElem?_toArray, List.getElem?_cons_succ, List.getElem?_cons_zero]; exact rfl)
          case hfd162 => kernel_rfl
          case hrd162 => kernel_rfl
          case hQd162 => exact fun _ _ _ h => h
          case hyd162 =>
            refine Or.inl ⟨by rfl, ?_⟩
            intro V hSV
            go_simp
            (try with_reducible rfl)
          try simp only [Act.put, List.setIfInBounds_toArray, List.set_cons_zero, List.set_cons_succ]
          refine wpAnyH_take (i := 6) (oi := ?oid163) (v := ?vd163) ?hod163 (by kernel_rfl) ?hfd163 ?hrd163 ?hQd163 ?hyd163 hHeld ?restd163
          case hod163 => (simp only [List.getElem?_toArray, List.getElem?_cons_succ, List.getElem?_cons_zero]; exact rfl)
          case hfd163 => kernel_rfl
          case hrd163 => kernel_rfl
          case hQd163 => exact fun _ _ _ h => h
          case hyd163 =>
            refine Or.inl ⟨by rfl, ?_⟩
            intro V hSV
            go_simp
            (try with_reducible rfl)
          try simp only [Act.put, List.setIfInBounds_toArray, List.set_cons_zero, List.set_cons_succ]
          refine wpAnyH_take (i := 7) (oi := ?oid164) (v := ?vd164) ?hod164 (by kernel_rfl) ?hfd164 ?hrd164 ?hQd164 ?hyd164 hHeld ?restd164
          case hod164 => (simp only [List.getElem?_toArray, List.getElem?_cons_succ, List.getElem?_cons_zero]; exact rfl)
          case hfd164 => kernel_rfl
          case hrd164 => kernel_rfl
          case hQd164 => exact fun _ _ _ h => h
          case hyd164 =>
            refine Or.inl ⟨by rfl, ?_⟩
            intro V hSV
            go_simp
            (try with_reducible rfl)
          try simp only [Act.put, List.setIfInBounds_toArray, List.set_cons_zero, List.set_cons_succ]
          refine wpAnyH_ready (rs := [8]) (by kernel_rfl) (by simp) ?_
          refine AllReadyH.cons (o := ?od165) ?hod165 (fun K hK => ?kd165) ?md165
          case hod165 => (simp only [List.getElem?_toArray, List.getElem?_cons_succ, List.getElem?_cons_zero]; exact rfl)
          case kd165 =>
            go_simp
            refine (keptW_any q1 A n c _ bs _ (HB2.out.later (show Below W2.heap.size W2 _ from hHeld)) (HR0.out.below (show Below W2.heap.size W2 _ from hHeld)) (by omega)).mono ?_
            rintro e w3 ⟨rfl, rfl⟩
            (try dsimp only)
            refine hK.out _ _ ?_ (fun hHeld => ?_)
            · exact (show Below W2.heap.size W2 _ from hHeld)
            clear hK K
            try simp only [Act.put, List.setIfInBounds_toArray, List.set_cons_zero, List.set_cons_succ]
            refine wpAnyH_take (i := 9) (oi := ?oid166) (v := ?vd166) ?hod166 (by kernel_rfl) ?hfd166 ?hrd166 ?hQd166 ?hyd166 hHeld ?restd166
            case hod166 => (simp only [List.getElem?_toArray, List.getElem?_cons_succ, List.getElem?_cons_zero]; exact rfl)
            case hfd166 => kernel_rfl
            case hrd166 => kernel_rfl
            case hQd166 => exact fun _ _ _ h => h
            case hyd166 =>
              refine Or.inl ⟨by rfl, ?_⟩
              intro V hSV
              go_simp
              (try with_reducible rfl)
            try simp only [Act.put, List.setIfInBounds_toArray, List.set_cons_zero, List.set_cons_succ]
            refine wpAnyH_take (i := 10) (oi := ?oid167) (v := ?vd167) ?hod167 (by kernel_rfl) ?hfd167 ?hrd167 ?hQd167 ?hyd167 hHeld ?restd167
            case hod167 => (simp only [List.getElem?_toArray, List.getElem?_cons_succ, List.getElem?_cons_zero]; exact rfl)
            case hfd167 => kernel_rfl
            case hrd167 => kernel_rfl
            case hQd167 => exact fun _ _ _ h => h
            case hyd167 =>
              refine Or.inl ⟨by rfl, ?_⟩
              intro V hSV
              go_simp
              (try with_reducible rfl)
            try simp only [Act.put, List.setIfInBounds_toArray, List.set_cons_zero, List.set_cons_succ]
            refine wpAnyH_take (i := 11) (oi := ?oid168) (v := ?vd168) ?hod168 (by kernel_rfl) ?hfd168 ?hrd168 ?hQd168 ?hyd168 hHeld ?restd168
            case hod168 => (simp only [List.getElem?_toArray, List.getElem?_cons_succ, List.getElem?_cons_zero]; exact rfl)
            case hfd168 => kernel_rfl
            case hrd168 => kernel_rfl
            case hQd168 => exact fun _ _ _ h => h
            case hyd168 =>
              refine Or.inl ⟨by rfl, ?_⟩
              intro V hSV
              go_simp
              (try with_reducible rfl)
            try simp only [Act.put, List.setIfInBounds_toArray, List.set_cons_zero, List.set_cons_succ]
            refine wpAnyH_take (i := 12) (oi := ?oid169) (v := ?vd169) ?hod169 (by kernel_rfl) ?hfd169 ?hrd169 ?hQd169 ?hyd169 hHeld ?restd169
            case hod169 => (simp only [List.getElem?_toArray, List.getElem?_cons_succ, List.getElem?_cons_zero]; exact rfl)
            case hfd169 => kernel_rfl
            case hrd169 => kernel_rfl
            case hQd169 => exact fun _ _ _ h => h
            case hyd169 =>
              refine Or.inl ⟨by rfl, ?_⟩
              intro V hSV
              go_simp
              (try with_reducible rfl)
            try simp only [Act.put, List.setIfInBounds_toArray, List.set_cons_zero, List.set_cons_succ]
            refine wpAnyH_take (i := 13) (oi := ?oid170) (v := ?vd170) ?hod170 (by kernel_rfl) ?hfd170 ?hrd170 ?hQd170 ?hyd170 hHeld ?restd170
            case hod170 => (simp only [List.getElem?_toArray, List.getElem?_cons_succ, List.getElem?_cons_zero]; exact rfl)
            case hfd170 => kernel_rfl
            case hrd170 => kernel_rfl
            case hQd170 => exact fun _ _ _ h => h
            case hyd170 =>
              refine Or.inl ⟨by rfl, ?_⟩
              intro V hSV
              go_simp
              (try with_reducible rfl)
            try simp only [Act.put, List.setIfInBounds_toArray, List.set_cons_zero, List.set_cons_succ]
            refine wpAnyH_take (i := 14) (oi := ?oid171) (v := ?vd171) ?hod171 (by kernel_rfl) ?hfd171 ?hrd171 ?hQd171 ?hyd171 hHeld ?restd171
            case hod171 => (simp only [List.getElem?_toArray, List.getElem?_cons_succ, List.getElem?_cons_zero]; exact rfl)
            case hfd171 => kernel_rfl
            case hrd171 => kernel_rfl
            case hQd171 => exact fun _ _ _ h => h
            case hyd171 =>
              refine Or.inl ⟨by rfl, ?_⟩
              intro V hSV
              have q0 := HH2.out.readT hSV 0 rfl
              have q1 := HH2.out.readT hSV 1 rfl
              have q2 := HH2.out.readT hSV 2 rfl
              have q3 := HH2.out.readT hSV 3 rfl
              have q4 := HH2.out.readT hSV 4 rfl
              have q5 := HH2.out.readT hSV 5 rfl
              go_simp
              (try with_reducible rfl)
            try simp only [Act.put, List.setIfInBounds_toArray, List.set_cons_zero, List.set_cons_succ]
            refine wpAnyH_ready (rs := [15]) (by kernel_rfl) (by simp) ?_
            refine AllReadyH.cons (o := ?od172) ?hod172 (fun K hK => ?kd172) ?md172
            case hod172 => (simp only [List.getElem?_toArray, List.getElem?_cons_succ, List.getElem?_cons_zero]; exact rfl)
            case kd172 =>
              go_simp
              refine (rRMay_any s0 x0 p A1 n1 c1 l A3 n3 c3 R3 L3 _ ((HRF.out.below (show Below W2.heap.size W2 _ from hHeld)).more (Below.size (show Below W2.heap.size W2 _ from hHeld))) ((HRF3.out.below (show Below W2.heap.size W2 _ from hHeld)).more (Below.size (show Below W2.heap.size W2 _ from hHeld))) (by omega) (by omega) (fun x hx => Nat.le_trans (HK3.out x hx) (by omega))).mono ?_
              rintro e w4d172 ⟨rfl, hb4d172⟩
              rw [HMAY.out]
              (try dsimp only)
              refine hK.out _ _ ?_ (fun hHeld => ?_)
              · exact Below.trans (show Below W2.heap.size W2 _ from hHeld) (hb4d172.mono (Below.size (show Below W2.heap.size W2 _ from hHeld)))
              clear hK K
              try simp only [Act.put, List.setIfInBounds_toArray, List.set_cons_zero, List.set_cons_succ]
              refine wpAnyH_take (i := 16) (oi := ?oid173) (v := ?vd173) ?hod173 (by kernel_rfl) ?hfd173 ?hrd173 ?hQd173 ?hyd173 hHeld ?restd173
              case hod173 => (simp only [List.getElem?_toArray, List.getElem?_cons_succ, List.getElem?_cons_zero]; exact rfl)
              case hfd173 => kernel_rfl
              case hrd173 => kernel_rfl
              case hQd173 => exact fun _ _ _ h => h
              case hyd173 =>
                refine Or.inl ⟨by rfl, ?_⟩
                intro V hSV
                go_simp
                (try with_reducible rfl)
              try simp only [Act.put, List.setIfInBounds_toArray, List.set_cons_zero, List.set_cons_succ]
              refine wpAnyH_take (i := 17) (oi := ?oid174) (v := ?vd174) ?hod174 (by kernel_rfl) ?hfd174 ?hrd174 ?hQd174 ?hyd174 hHeld ?restd174
              case hod174 => (simp only [List.getElem?_toArray, List.getElem?_cons_succ, List.getElem?_cons_zero]; exact rfl)
              case hfd174 => kernel_rfl
              case hrd174 => kernel_rfl
              case hQd174 => exact fun _ _ _ h => h
              case hyd174 =>
                refine Or.inl ⟨by rfl, ?_⟩
                intro V hSV
                go_simp
                (try with_reducible rfl)
              try simp only [Act.put, List.setIfInBounds_toArray, List.set_cons_zero, List.set_cons_succ]
              refine wpAnyH_take (i := 18) (oi := ?oid175) (v := ?vd175) ?hod175 (by kernel_rfl) ?hfd175 ?hrd175 ?hQd175 ?hyd175 hHeld ?restd175
              case hod175 => (simp only [List.getElem?_toArray, List.getElem?_cons_succ, List.getElem?_cons_zero]; exact rfl)
              case hfd175 => kernel_rfl
              case hrd175 => kernel_rfl
              case hQd175 => exact fun _ _ _ h => h
              case hyd175 =>
                refine Or.inl ⟨by rfl, ?_⟩
                intro V hSV
                go_simp
                (try with_reducible rfl)
              try simp only [Act.put, List.setIfInBounds_toArray, List.set_cons_zero, List.set_cons_succ]
              refine wpAnyH_take (i := 19) (oi := ?oid176) (v := ?vd176) ?hod176 (by kernel_rfl) ?hfd176 ?hrd176 ?hQd176 ?hyd176 hHeld ?restd176
              case hod176 => (simp only [List.getElem?_toArray, List.getElem?_cons_succ, List.getElem?_cons_zero]; exact rfl)
              case hfd176 => kernel_rfl
              case hrd176 => kernel_rfl
              case hQd176 => exact fun _ _ _ h => h
              case hyd176 =>
                refine Or.inl ⟨by rfl, ?_⟩
                intro V hSV
                go_simp
                (try with_reducible rfl)
              try simp only [Act.put, List.setIfInBounds_toArray, List.set_cons_zero, List.set_cons_succ]
              refine wpAnyH_take (i := 20) (oi := ?oid177) (v := ?vd177) ?hod177 (by kernel_rfl) ?hfd177 ?hrd177 ?hQd177 ?hyd177 hHeld ?restd177
              case hod177 => (simp only [List.getElem?_toArray, List.getElem?_cons_succ, List.getElem?_cons_zero]; exact rfl)
              case hfd177 => kernel_rfl
              case hrd177 => kernel_rfl
              case hQd177 => exact fun _ _ _ h => h
              case hyd177 =>
                refine Or.inl ⟨by rfl, ?_⟩
                intro V hSV
                go_simp
                (try with_reducible rfl)
              try simp only [Act.put, List.setIfInBounds_toArray, List.set_cons_zero, List.set_cons_succ]
              refine wpAnyH_take (i := 21) (oi := ?oid178) (v := ?vd178) ?hod178 (by kernel_rfl) ?hfd178 ?hrd178 ?hQd178 ?hyd178 hHeld ?restd178
              case hod178 => (simp only [List.getElem?_toArray, List.getElem?_cons_succ, List.getElem?_cons_zero]; exact rfl)
              case hfd178 => kernel_rfl
              case hrd178 => kernel_rfl
              case hQd178 => exact fun _ _ _ h => h
              case hyd178 =>
                refine Or.inl ⟨by rfl, ?_⟩
                intro V hSV
                go_simp
                (try with_reducible rfl)
              try simp only [Act.put, List.setIfInBounds_toArray, List.set_cons_zero, List.set_cons_succ]
              refine wpAnyH_take (i := 22) (oi := ?oid179) (v := undef) ?hod179 (by kernel_rfl) ?hfd179 ?hrd179 ?hQd179 ?hyd179 hHeld ?restd179
              case hod179 => (simp only [List.getElem?_toArray, List.getElem?_cons_succ, List.getElem?_cons_zero]; exact rfl)
              case hfd179 => kernel_rfl
              case hrd179 => kernel_rfl
              case hQd179 => exact fun _ _ _ h => h
              case hyd179 =>
                exact Or.inr ⟨by rfl, rfl⟩
              try simp only [Act.put, List.setIfInBounds_toArray, List.set_cons_zero, List.set_cons_succ]
              refine wpAnyH_take (i := 23) (oi := ?oid180) (v := undef) ?hod180 (by kernel_rfl) ?hfd180 ?hrd180 ?hQd180 ?hyd180 hHeld ?restd180
              case hod180 => (simp only [List.getElem?_toArray, List.getElem?_cons_succ, List.getElem?_cons_zero]; exact rfl)
              case hfd180 => kernel_rfl
              case hrd180 => kernel_rfl
              case hQd180 => exact fun _ _ _ h => h
              case hyd180 =>
                exact Or.inr ⟨by rfl, rfl⟩
              try simp only [Act.put, List.setIfInBounds_toArray, List.set_cons_zero, List.set_cons_succ]
              refine wpAnyH_take (i := 24) (oi := ?oid181) (v := undef) ?hod181 (by kernel_rfl) ?hfd181 ?hrd181 ?hQd181 ?hyd181 hHeld ?restd181
              case hod181 => (simp only [List.getElem?_toArray, List.getElem?_cons_succ, List.getElem?_cons_zero]; exact rfl)
              case hfd181 => kernel_rfl
              case hrd181 => kernel_rfl
              case hQd181 => exact fun _ _ _ h => h
              case hyd181 =>
                exact Or.inr ⟨by rfl, rfl⟩
              try simp only [Act.put, List.setIfInBounds_toArray, List.set_cons_zero, List.set_cons_succ]
              refine wpAnyH_take (i := 25) (oi := ?oid182) (v := undef) ?hod182 (by kernel_rfl) ?hfd182 ?hrd182 ?hQd182 ?hyd182 hHeld ?restd182
              case hod182 => (simp only [List.getElem?_toArray, List.getElem?_cons_succ, List.getElem?_cons_zero]; exact rfl)
              case hfd182 => kernel_rfl
              case hrd182 => kernel_rfl
              case hQd182 => exact fun _ _ _ h => h
              case hyd182 =>
                exact Or.inr ⟨by rfl, rfl⟩
              try simp only [Act.put, List.setIfInBounds_toArray, List.set_cons_zero, List.set_cons_succ]
              refine wpAnyH_take (i := 26) (oi := ?oid183) (v := undef) ?hod183 (by kernel_rfl) ?hfd183 ?hrd183 ?hQd183 ?hyd183 hHeld ?restd183
              case hod183 => (simp only [List.getElem?_toArray, List.getElem?_cons_succ, List.getElem?_cons_zero]; exact rfl)
              case hfd183 => kernel_rfl
              case hrd183 => kernel_rfl
              case hQd183 => exact fun _ _ _ h => h
              case hyd183 =>
                exact Or.inr ⟨by rfl, rfl⟩
              try simp only [Act.put, List.setIfInBounds_toArray, List.set_cons_zero, List.set_cons_succ]
              refine wpAnyH_take (i := 27) (oi := ?oid184) (v := undef) ?hod184 (by kernel_rfl) ?hfd184 ?hrd184 ?hQd184 ?hyd184 hHeld ?restd184
              case hod184 => (simp only [List.getElem?_toArray, List.getElem?_cons_succ, List.getElem?_cons_zero]; exact rfl)
              case hfd184 => kernel_rfl
              case hrd184 => kernel_rfl
              case hQd184 => exact fun _ _ _ h => h
              case hyd184 =>
                exact Or.inr ⟨by rfl, rfl⟩
              try simp only [Act.put, List.setIfInBounds_toArray, List.set_cons_zero, List.set_cons_succ]
              refine wpAnyH_take (i := 28) (oi := ?oid185) (v := undef) ?hod185 (by kernel_rfl) ?hfd185 ?hrd185 ?hQd185 ?hyd185 hHeld ?restd185
              case hod185 => (simp only [List.getElem?_toArray, List.getElem?_cons_succ, List.getElem?_cons_zero]; exact rfl)
              case hfd185 => kernel_rfl
              case hrd185 => kernel_rfl
              case hQd185 => exact fun _ _ _ h => h
              case hyd185 =>
                exact Or.inr ⟨by rfl, rfl⟩
              try simp only [Act.put, List.setIfInBounds_toArray, List.set_cons_zero, List.set_cons_succ]
              refine wpAnyH_take (i := 29) (oi := ?oid186) (v := ?vd186) ?hod186 (by kernel_rfl) ?hfd186 ?hrd186 ?hQd186 ?hyd186 hHeld ?restd186
              case hod186 => (simp only [List.getElem?_toArray, List.getElem?_cons_succ, List.getElem?_cons_zero]; exact rfl)
              case hfd186 => kernel_rfl
              case hrd186 => kernel_rfl
              case hQd186 => exact fun _ _ _ h => h
              case hyd186 =>
                refine Or.inl ⟨by rfl, ?_⟩
                intro V hSV
                go_simp
                (try with_reducible rfl)
              try simp only [Act.put, List.setIfInBounds_toArray, List.set_cons_zero, List.set_cons_succ]
              refine wpAnyH_take (i := 30) (oi := ?oid187) (v := ?vd187) ?hod187 (by kernel_rfl) ?hfd187 ?hrd187 ?hQd187 ?hyd187 hHeld ?restd187
              case hod187 => (simp only [List.getElem?_toArray, List.getElem?_cons_succ, List.getElem?_cons_zero]; exact rfl)
              case hfd187 => kernel_rfl
              case hrd187 => kernel_rfl
              case hQd187 => exact fun _ _ _ h => h
              case hyd187 =>
                refine Or.inl ⟨by rfl, ?_⟩
                intro V hSV
                go_simp
                (try with_reducible rfl)
              try simp only [Act.put, List.setIfInBounds_toArray, List.set_cons_zero, List.set_cons_succ]
              refine wpAnyH_take (i := 31) (oi := ?oid188) (v := ?vd188) ?hod188 (by kernel_rfl) ?hfd188 ?hrd188 ?hQd188 ?hyd188 hHeld ?restd188
              case hod188 => (simp only [List.getElem?_toArray, List.getElem?_cons_succ, List.getElem?_cons_zero]; exact rfl)
              case hfd188 => kernel_rfl
              case hrd188 => kernel_rfl
              case hQd188 => exact fun _ _ _ h => h
              case hyd188 =>
                refine Or.inl ⟨by rfl, ?_⟩
                intro V hSV
                go_simp
                (try with_reducible rfl)
              try simp only [Act.put, List.setIfInBounds_toArray, List.set_cons_zero, List.set_cons_succ]
              refine wpAnyH_take (i := 32) (oi := ?oid189) (v := ?vd189) ?hod189 (by kernel_rfl) ?hfd189 ?hrd189 ?hQd189 ?hyd189 hHeld ?restd189
              case hod189 => (simp only [List.getElem?_toArray, List.getElem?_cons_succ, List.getElem?_cons_zero]; exact rfl)
              case hfd189 => kernel_rfl
              case hrd189 => kernel_rfl
              case hQd189 => exact fun _ _ _ h => h
              case hyd189 =>
                refine Or.inl ⟨by rfl, ?_⟩
                intro V hSV
                go_simp
                (try with_reducible rfl)
              try simp only [Act.put, List.setIfInBounds_toArray, List.set_cons_zero, List.set_cons_succ]
              refine wpAnyH_take (i := 33) (oi := ?oid190) (v := ?vd190) ?hod190 (by kernel_rfl) ?hfd190 ?hrd190 ?hQd190 ?hyd190 hHeld ?restd190
              case hod190 => (simp only [List.getElem?_toArray, List.getElem?_cons_succ, List.getElem?_cons_zero]; exact rfl)
              case hfd190 => kernel_rfl
              case hrd190 => kernel_rfl
              case hQd190 => exact fun _ _ _ h => h
              case hyd190 =>
                refine Or.inl ⟨by rfl, ?_⟩
                intro V hSV
                go_simp
                (try with_reducible rfl)
              try simp only [Act.put, List.setIfInBounds_toArray, List.set_cons_zero, List.set_cons_succ]
              refine wpAnyH_take (i := 34) (oi := ?oid191) (v := ?vd191) ?hod191 (by kernel_rfl) ?hfd191 ?hrd191 ?hQd191 ?hyd191 hHeld ?restd191
              case hod191 => (simp only [List.getElem?_toArray, List.getElem?_cons_succ, List.getElem?_cons_zero]; exact rfl)
              case hfd191 => kernel_rfl
              case hrd191 => kernel_rfl
              case hQd191 => exact fun _ _ _ h => h
              case hyd191 =>
                refine Or.inl ⟨by rfl, ?_⟩
                intro V hSV
                go_simp
                (try with_reducible rfl)
              try simp only [Act.put, List.setIfInBounds_toArray, List.set_cons_zero, List.set_cons_succ]
              refine wpAnyH_take (i := 35) (oi := ?oid192) (v := ?vd192) ?hod192 (by kernel_rfl) ?hfd192 ?hrd192 ?hQd192 ?hyd192 hHeld ?restd192
              case hod192 => (simp only [List.getElem?_toArray, List.getElem?_cons_succ, List.getElem?_cons_zero]; exact rfl)
              case hfd192 => kernel_rfl
              case hrd192 => kernel_rfl
              case hQd192 => exact fun _ _ _ h => h
              case hyd192 =>
                refine Or.inl ⟨by rfl, ?_⟩
                intro V hSV
                go_simp
                (try with_reducible rfl)
              try simp only [Act.put, List.setIfInBounds_toArray, List.set_cons_zero, List.set_cons_succ]
              refine wpAnyH_take (i := 36) (oi := ?oid193) (v := ?vd193) ?hod193 (by kernel_rfl) ?hfd193 ?hrd193 ?hQd193 ?hyd193 hHeld ?restd193
              case hod193 => (simp only [List.getElem?_toArray, List.getElem?_cons_succ, List.getElem?_cons_zero]; exact rfl)
              case hfd193 => kernel_rfl
              case hrd193 => kernel_rfl
              case hQd193 => exact fun _ _ _ h => h
              case hyd193 =>
                refine Or.inl ⟨by rfl, ?_⟩
                intro V hSV
                have q := run_conv_str (P := Try.prog) V 22 9 5 Try.underlying22 Try.underlying5 Try.underlying9 _ _ m' c' (bs ++ ruleB (((s0, x0, (p, l)), L3) : Rl)) (Rd.below (Ow.rd HO2.out) hSV)
                go_simp
                (try with_reducible rfl)
              try simp only [Act.put, List.setIfInBounds_toArray, List.set_cons_zero, List.set_cons_succ]
              refine wpAnyH_take (i := 37) (oi := ?oid194) (v := ?vd194) ?hod194 (by kernel_rfl) ?hfd194 ?hrd194 ?hQd194 ?hyd194 hHeld ?restd194
              case hod194 => (simp only [List.getElem?_toArray, List.getElem?_cons_succ, List.getElem?_cons_zero]; exact rfl)
              case hfd194 => kernel_rfl
              case hrd194 => kernel_rfl
              case hQd194 => exact fun _ _ _ h => h
              case hyd194 =>
                refine Or.inl ⟨by rfl, ?_⟩
                intro V hSV
                go_simp
                (try with_reducible rfl)
              try simp only [Act.put, List.setIfInBounds_toArray, List.set_cons_zero, List.set_cons_succ]
              refine wpAnyH_take (i := 38) (oi := ?oid195) (v := ?vd195) ?hod195 (by kernel_rfl) ?hfd195 ?hrd195 ?hQd195 ?hyd195 hHeld ?restd195
              case hod195 => (simp only [List.getElem?_toArray, List.getElem?_cons_succ, List.getElem?_cons_zero]; exact rfl)
              case hfd195 => kernel_rfl
              case hrd195 => kernel_rfl
              case hQd195 => exact fun _ _ _ h => h
              case hyd195 =>
                refine Or.inl ⟨by rfl, ?_⟩
                intro V hSV
                have q := run_conv_str (P := Try.prog) V 22 9 5 Try.underlying22 Try.underlying5 Try.underlying9 _ _ n c bs (HR0.out.below hSV)
                go_simp
                (try with_reducible rfl)
              try simp only [Act.put, List.setIfInBounds_toArray, List.set_cons_zero, List.set_cons_succ]
              refine wpAnyH_take (i := 39) (oi := ?oid196) (v := ?vd196) ?hod196 (by kernel_rfl) ?hfd196 ?hrd196 ?hQd196 ?hyd196 hHeld ?restd196
              case hod196 => (simp only [List.getElem?_toArray, List.getElem?_cons_succ, List.getElem?_cons_zero]; exact rfl)
              case hfd196 => kernel_rfl
              case hrd196 => kernel_rfl
              case hQd196 => exact fun _ _ _ h => h
              case hyd196 =>
                refine Or.inl ⟨by rfl, ?_⟩
                intro V hSV
                have q0 := HH2.out.readT hSV 0 rfl
                have q1 := HH2.out.readT hSV 1 rfl
                have q2 := HH2.out.readT hSV 2 rfl
                have q3 := HH2.out.readT hSV 3 rfl
                have q4 := HH2.out.readT hSV 4 rfl
                have q5 := HH2.out.readT hSV 5 rfl
                go_simp
                (try with_reducible rfl)
              try simp only [Act.put, List.setIfInBounds_toArray, List.set_cons_zero, List.set_cons_succ]
              refine wpAnyH_ready (rs := [40]) (by kernel_rfl) (by simp) ?_
              refine AllReadyH.cons (o := ?od197) ?hod197 (fun K hK => ?kd197) ?md197
              case hod197 => (simp only [List.getElem?_toArray, List.getElem?_cons_succ, List.getElem?_cons_zero]; exact rfl)
              case kd197 =>
                go_simp
                refine (rRuleB_any s0 x0 p A1 n1 c1 l A3 n3 c3 R3 L3 _ ((HRF.out.below (show Below W2.heap.size W2 _ from hHeld)).more (Below.size (show Below W2.heap.size W2 _ from hHeld))) ((HRF3.out.below (show Below W2.heap.size W2 _ from hHeld)).more (Below.size (show Below W2.heap.size W2 _ from hHeld))) (by omega) (by omega) (fun x hx => Nat.le_trans (HK3.out x hx) (by omega))).mono ?_
                rintro e w5 ⟨A5, m5, c5, rfl, ho5, hb5⟩
                (try dsimp only)
                refine hK.out _ _ ?_ (fun hHeld => ?_)
                · exact Below.trans (show Below W2.heap.size W2 _ from hHeld) (hb5.mono (Below.size (show Below W2.heap.size W2 _ from hHeld)))
                clear hK K
                try simp only [Act.put, List.setIfInBounds_toArray, List.set_cons_zero, List.set_cons_succ]
                refine wpAnyH_ready (rs := [41]) (by kernel_rfl) (by simp) ?_
                refine AllReadyH.cons (o := ?od198) ?hod198 (fun K hK => ?kd198) ?md198
                case hod198 => (simp only [List.getElem?_toArray, List.getElem?_cons_succ, List.getElem?_cons_zero]; exact rfl)
                case kd198 =>
                  refine anyd_conv8 (by rfl) (.tmp 77) (by rfl) _ _ _ _ _ (by rfl) (Ow.rd ho5) ?_
                  refine hK.out _ _ ?_ (fun hHeld => ?_)
                  · exact (show Below W2.heap.size W2 _ from hHeld)
                  clear hK K
                  try simp only [Act.put, List.setIfInBounds_toArray, List.set_cons_zero, List.set_cons_succ]
                  refine wpAnyH_take (i := 42) (oi := ?oid199) (v := .string ⟨(bs ++ ruleB (((s0, x0, (p, l)), L3) : Rl)).toArray⟩) ?hod199 (by kernel_rfl) ?hfd199 ?hrd199 ?hQd199 ?hyd199 hHeld ?restd199
                  case hod199 => (simp only [List.getElem?_toArray, List.getElem?_cons_succ, List.getElem?_cons_zero]; exact rfl)
                  case hfd199 => kernel_rfl
                  case hrd199 => kernel_rfl
                  case hQd199 => exact fun _ _ _ h => h
                  case hyd199 =>
                    refine Or.inl ⟨by rfl, ?_⟩
                    intro V hSV
                    go_simp
                    (rw [if_neg (by have := HLB.out; omega)]; rw [str_add])
                  try simp only [Act.put, List.setIfInBounds_toArray, List.set_cons_zero, List.set_cons_succ]
                  refine wpAnyH_take (i := 43) (oi := ?oid200) (v := .bool false) ?hod200 (by kernel_rfl) ?hfd200 ?hrd200 ?hQd200 ?hyd200 hHeld ?restd200
                  case hod200 => (simp only [List.getElem?_toArray, List.getElem?_cons_succ, List.getElem?_cons_zero]; exact rfl)
                  case hfd200 => kernel_rfl
                  case hrd200 => kernel_rfl
                  case hQd200 => exact fun _ _ _ h => h
                  case hyd200 =>
                    refine Or.inl ⟨by rfl, ?_⟩
                    intro V hSV
                    go_simp
                    (try first | with_reducible rfl | simp | rfl)
                  try simp only [Act.put, List.setIfInBounds_toArray, List.set_cons_zero, List.set_cons_succ]
                  refine wpAnyH_take (i := 44) (oi := ?oid201) (v := ?vd201) ?hod201 (by kernel_rfl) ?hfd201 ?hrd201 ?hQd201 ?hyd201 hHeld ?restd201
                  case hod201 => (simp only [List.getElem?_toArray, List.getElem?_cons_succ, List.getElem?_cons_zero]; exact rfl)
                  case hfd201 => kernel_rfl
                  case hrd201 => kernel_rfl
                  case hQd201 => exact fun _ _ _ h => h
                  case hyd201 =>
                    refine Or.inl ⟨by rfl, ?_⟩
                    intro V hSV
                    go_simp
                    (try with_reducible rfl)
                  try simp only [Act.put, List.setIfInBounds_toArray, List.set_cons_zero, List.set_cons_succ]
                  refine wpAnyH_take (i := 45) (oi := ?oid202) (v := ?vd202) ?hod202 (by kernel_rfl) ?hfd202 ?hrd202 ?hQd202 ?hyd202 hHeld ?restd202
                  case hod202 => (simp only [List.getElem?_toArray, List.getElem?_cons_succ, List.getElem?_cons_zero]; exact rfl)
                  case hfd202 => kernel_rfl
                  case hrd202 => kernel_rfl
                  case hQd202 => exact fun _ _ _ h => h
                  case hyd202 =>
                    refine Or.inl ⟨by rfl, ?_⟩
                    intro V hSV
                    go_simp
                    (try with_reducible rfl)
                  try simp only [Act.put, List.setIfInBounds_toArray, List.set_cons_zero, List.set_cons_succ]
                  refine wpAnyH_done (by kernel_rfl) ?_ _
                  have hvv : Below W2.heap.size W2 _ := hHeld
                  clear hHeld
                  have HV := Lib.hid (HU2.out.trans (Below.mono hvv HU2.out.size))
                  clear hvv
                  repeat (first | go_skip | go_guarded | go_step)
                  refine (ok.takeRule A2 n2 c2 t bs2 _ ((HR2.out.below HV.out).more HV.out.size) hc2 (by omega) ht1 ht2).mono ?_
                  rintro e W4 ⟨s4, x4, p4, A4, n4, d4, l4, A6, n6, d6, R6, L6, y4, z4, rfl, hx4, hx6, hd4, hd6, hm4, hm6, hs6, hb4, ha4⟩
                  have HV4 := Lib.hid (HV.out.trans (hb4.mono HV.out.size))
                  have HX4 := Lib.hid hx4
                  have HX6 := Lib.hid hx6
                  have HA4 := Lib.hid ha4
                  clear hx4 hx6 hb4 ha4
                  dsimp only
                  go_upto_region 8 with (fail)
                  obtain ⟨Z, hZ, hZa, hZw⟩ : ∃ Z, Z = W4.alloc (.cells #[.bool s4, .bool x4.1, nv x4.2, nv p4, .slice A4 n4 d4, .slice A6 n6 d6] 59) ∧ Bk Z W4.heap.size 59 [.bool s4, .bool x4.1, nv x4.2, nv p4, .slice A4 n4 d4, .slice A6 n6 d6] ∧ Below W4.heap.size W4 Z := ⟨_, rfl, Bk.new W4 _ _, (Below.refl _ _).alloc (Nat.le_refl _) _⟩
                  rw [← hZ]
                  clear hZ
                  have HV5 := Lib.hid (HV4.out.trans (hZw.mono HV4.out.size))
                  have HX4 := Lib.hid ((HX4.out.below hZw).more hZw.size)
                  have HX6 := Lib.hid ((HX6.out.below hZw).more hZw.size)
                  have HZ := Lib.hid hZa
                  generalize W4.heap.size = gz at hZa HZ ⊢
                  clear hZa hZw
                  repeat (first | go_skip | go_guarded | go_step)
                  refine (rTakeRule_any A2 n2 c2 t bs2 _ ((HR2.out.below HV5.out).more HV5.out.size) hc2 (by omega)).mono ?_
                  rintro e W5 ⟨s5, x5, p5, A5, n5, d5, l5, A7, n7, d7, R7, L7, y5, z5, rfl, hx5, hx7, hm5, hm7, hs7, hb5, ha5⟩
                  have HV6 := Lib.hid (HV5.out.trans (hb5.mono HV5.out.size))
                  have HX5 := Lib.hid hx5
                  have HX7 := Lib.hid hx7
                  have HX4 := Lib.hid ((HX4.out.below hb5).more hb5.size)
                  have HX6 := Lib.hid ((HX6.out.below hb5).more hb5.size)
                  have HZ := Lib.hid (HZ.out.later hb5)
                  have he := HA4.out.trans ha5.symm
                  simp only [Prod.mk.injEq] at he
                  obtain ⟨⟨⟨rfl, rfl, rfl, rfl⟩, rfl⟩, rfl, rfl⟩ := he
                  clear hx5 hx7 hb5 ha5 HA4
                  dsimp only
                  go_upto_region 9 with (fail)
                  obtain ⟨Y, hY, hYa, hYw⟩ : ∃ Y, Y = W5.alloc (.cells #[.bool s4, .bool x4.1, nv x4.2, nv p4, .slice A5 n5 d5, .slice A7 n7 d7] 59) ∧ Bk Y W5.heap.size 59 [.bool s4, .bool x4.1, nv x4.2, nv p4, .slice A5 n5 d5, .slice A7 n7 d7] ∧ Below W5.heap.size W5 Y := ⟨_, rfl, Bk.new W5 _ _, (Below.refl _ _).alloc (Nat.le_refl _) _⟩
                  rw [← hY]
                  clear hY
                  have HV7 := Lib.hid (HV6.out.trans (hYw.mono HV6.out.size))
                  have HX4 := Lib.hid ((HX4.out.below hYw).more hYw.size)
                  have HX5 := Lib.hid ((HX5.out.below hYw).more hYw.size)
                  have HX6 := Lib.hid ((HX6.out.below hYw).more hYw.size)
                  have HX7 := Lib.hid ((HX7.out.below hYw).more hYw.size)
                  have HZ := HZ.out.later hYw
                  generalize W5.heap.size = gy at hYa ⊢
                  have i0 := HZ.readT (Below.refl _ _) 0 rfl
                  have j0 := hYa.readT (Below.refl _ _) 0 rfl
                  have i1 := HZ.readT (Below.refl _ _) 1 rfl
                  have j1 := hYa.readT (Below.refl _ _) 1 rfl
                  have i2 := HZ.readT (Below.refl _ _) 2 rfl
                  have j2 := hYa.readT (Below.refl _ _) 2 rfl
                  have i3 := HZ.readT (Below.refl _ _) 3 rfl
                  have j3 := hYa.readT (Below.refl _ _) 3 rfl
                  have i4 := HZ.readT (Below.refl _ _) 4 rfl
                  have j4 := hYa.readT (Below.refl _ _) 4 rfl
                  have i5 := HZ.readT (Below.refl _ _) 5 rfl
                  have j5 := hYa.readT (Below.refl _ _) 5 rfl
                  clear hYa hYw HZ
                  repeat (first | go_skip | go_guarded | go_step)
                  refine (rSameRule_any s4 x4 p4 A4 n4 d4 l4 A6 n6 d6 R6 L6 s4 x4 p4 A5 n5 d5 l4 A7 n7 d7 R7 L6 Y HX4.out HX6.out HX5.out HX7.out (by omega) (by omega) (fun x hx => Nat.le_trans (hs7 x hx) (by omega))).mono ?_
                  rintro e W6 ⟨rfl, hb6⟩
                  have HV8 := Lib.hid (HV7.out.trans (hb6.mono HV7.out.size))
                  clear hb6 i0 j0 i1 j1 i2 j2 i3 j3 i4 j4 i5 j5
                  rw [decide_eq_true rfl]
                  dsimp only
                  repeat (first | go_skip | go_guarded | go_step)
                  refine (wWorks_any ok _).mono ?_
                  rintro e W7 ⟨rfl, hb7⟩
                  have HV9 := Lib.hid (HV8.out.trans (hb7.mono HV8.out.size))
                  clear hb7
                  dsimp only
                  repeat (first | go_skip | go_guarded | go_step)
                  go_ret
                  exact ⟨rfl, hhw ▸ HB.out.trans (HV9.out.mono HB.out.size)⟩
                exact AllReadyH.nil
              exact AllReadyH.nil
            exact AllReadyH.nil
          exact AllReadyH.nil
        exact AllReadyH.nil
      exact AllReadyH.nil
    · have HMAY := Lib.hid hmay
      clear hmay
      obtain rfl : m' = 0 := (Ow.len HO2.out).symm
      go_upto_region 5 with (fail)
      refine wp_region_held_drew (S := fun V => Below W2.heap.size W2 V) (by kernel_rfl) ?_ (fun hHeld => ?_)
      · exact (Below.refl W2.heap.size W2).drew
      refine wpAnyH_take (i := 0) (oi := ?oid203) (v := ?vd203) ?hod203 (by kernel_rfl) ?hfd203 ?hrd203 ?hQd203 ?hyd203 hHeld ?restd203
      case hod203 => (simp only [List.getElem?_toArray, List.getElem?_cons_succ, List.getElem?_cons_zero]; exact rfl)
      case hfd203 => kernel_rfl
      case hrd203 => kernel_rfl
      case hQd203 => exact fun _ _ _ h => h
      case hyd203 =>
        refine Or.inl ⟨by rfl, ?_⟩
        intro V hSV
        have q0 := HH2.out.readT hSV 0 rfl
        have q1 := HH2.out.readT hSV 1 rfl
        have q2 := HH2.out.readT hSV 2 rfl
        have q3 := HH2.out.readT hSV 3 rfl
        have q4 := HH2.out.readT hSV 4 rfl
        have q5 := HH2.out.readT hSV 5 rfl
        go_simp
        (try with_reducible rfl)
      try simp only [Act.put, List.setIfInBounds_toArray, List.set_cons_zero, List.set_cons_succ]
      refine wpAnyH_take (i := 2) (oi := ?oid204) (v := ?vd204) ?hod204 (by kernel_rfl) ?hfd204 ?hrd204 ?hQd204 ?hyd204 hHeld ?restd204
      case hod204 => (simp only [List.getElem?_toArray, List.getElem?_cons_succ, List.getElem?_cons_zero]; exact rfl)
      case hfd204 => kernel_rfl
      case hrd204 => kernel_rfl
      case hQd204 => exact fun _ _ _ h => h
      case hyd204 =>
        refine Or.inl ⟨by rfl, ?_⟩
        intro V hSV
        have q0 := HH2.out.readT hSV 0 rfl
        have q1 := HH2.out.readT hSV 1 rfl
        have q2 := HH2.out.readT hSV 2 rfl
        have q3 := HH2.out.readT hSV 3 rfl
        have q4 := HH2.out.readT hSV 4 rfl
        have q5 := HH2.out.readT hSV 5 rfl
        go_simp
        (try with_reducible rfl)
      try simp only [Act.put, List.setIfInBounds_toArray, List.set_cons_zero, List.set_cons_succ]
      refine wpAnyH_ready (rs := [1]) (by kernel_rfl) (by simp) ?_
      refine AllReadyH.cons (o := ?od205) ?hod205 (fun K hK => ?kd205) ?md205
      case hod205 => (simp only [List.getElem?_toArray, List.getElem?_cons_succ, List.getElem?_cons_zero]; exact rfl)
      case kd205 =>
        go_simp
        refine (ok.mayRule s0 x0 p A1 n1 c1 l A3 n3 c3 R3 L3 _ ((HRF.out.below (show Below W2.heap.size W2 _ from hHeld)).more (Below.size (show Below W2.heap.size W2 _ from hHeld))) ((HRF3.out.below (show Below W2.heap.size W2 _ from hHeld)).more (Below.size (show Below W2.heap.size W2 _ from hHeld))) hf1 hf4 (by omega) (by omega) (fun x hx => Nat.le_trans (HK3.out x hx) (by omega))).mono ?_
        rintro e w4d205 ⟨rfl, hb4d205⟩
        rw [HMAY.out]
        (try dsimp only)
        refine hK.out _ _ ?_ (fun hHeld => ?_)
        · exact Below.trans (show Below W2.heap.size W2 _ from hHeld) (hb4d205.mono (Below.size (show Below W2.heap.size W2 _ from hHeld)))
        clear hK K
        try simp only [Act.put, List.setIfInBounds_toArray, List.set_cons_zero, List.set_cons_succ]
        refine wpAnyH_ready (rs := [3]) (by kernel_rfl) (by simp) ?_
        refine AllReadyH.cons (o := ?od206) ?hod206 (fun K hK => ?kd206) ?md206
        case hod206 => (simp only [List.getElem?_toArray, List.getElem?_cons_succ, List.getElem?_cons_zero]; exact rfl)
        case kd206 =>
          go_simp
          refine (rRMay_any s0 x0 p A1 n1 c1 l A3 n3 c3 R3 L3 _ ((HRF.out.below (show Below W2.heap.size W2 _ from hHeld)).more (Below.size (show Below W2.heap.size W2 _ from hHeld))) ((HRF3.out.below (show Below W2.heap.size W2 _ from hHeld)).more (Below.size (show Below W2.heap.size W2 _ from hHeld))) (by omega) (by omega) (fun x hx => Nat.le_trans (HK3.out x hx) (by omega))).mono ?_
          rintro e w4d206 ⟨rfl, hb4d206⟩
          rw [HMAY.out]
          (try dsimp only)
          refine hK.out _ _ ?_ (fun hHeld => ?_)
          · exact Below.trans (show Below W2.heap.size W2 _ from hHeld) (hb4d206.mono (Below.size (show Below W2.heap.size W2 _ from hHeld)))
          clear hK K
          try simp only [Act.put, List.setIfInBounds_toArray, List.set_cons_zero, List.set_cons_succ]
          refine wpAnyH_take (i := 4) (oi := ?oid207) (v := ?vd207) ?hod207 (by kernel_rfl) ?hfd207 ?hrd207 ?hQd207 ?hyd207 hHeld ?restd207
          case hod207 => (simp only [List.getElem?_toArray, List.getElem?_cons_succ, List.getElem?_cons_zero]; exact rfl)
          case hfd207 => kernel_rfl
          case hrd207 => kernel_rfl
          case hQd207 => exact fun _ _ _ h => h
          case hyd207 =>
            refine Or.inl ⟨by rfl, ?_⟩
            intro V hSV
            go_simp
            (try with_reducible rfl)
          try simp only [Act.put, List.setIfInBounds_toArray, List.set_cons_zero, List.set_cons_succ]
          refine wpAnyH_take (i := 5) (oi := ?oid208) (v := ?vd208) ?hod208 (by kernel_rfl) ?hfd208 ?hrd208 ?hQd208 ?hyd208 hHeld ?restd208
          case hod208 => (simp only [List.getElem?_toArray, List.getElem?_cons_succ, List.getElem?_cons_zero]; exact rfl)
          case hfd208 => kernel_rfl
          case hrd208 => kernel_rfl
          case hQd208 => exact fun _ _ _ h => h
          case hyd208 =>
            refine Or.inl ⟨by rfl, ?_⟩
            intro V hSV
            go_simp
            (try with_reducible rfl)
          try simp only [Act.put, List.setIfInBounds_toArray, List.set_cons_zero, List.set_cons_succ]
          refine wpAnyH_take (i := 6) (oi := ?oid209) (v := ?vd209) ?hod209 (by kernel_rfl) ?hfd209 ?hrd209 ?hQd209 ?hyd209 hHeld ?restd209
          case hod209 => (simp only [List.getElem?_toArray, List.getElem?_cons_succ, List.getElem?_cons_zero]; exact rfl)
          case hfd209 => kernel_rfl
          case hrd209 => kernel_rfl
          case hQd209 => exact fun _ _ _ h => h
          case hyd209 =>
            refine Or.inl ⟨by rfl, ?_⟩
            intro V hSV
            go_simp
            (try with_reducible rfl)
          try simp only [Act.put, List.setIfInBounds_toArray, List.set_cons_zero, List.set_cons_succ]
          refine wpAnyH_take (i := 7) (oi := ?oid210) (v := ?vd210) ?hod210 (by kernel_rfl) ?hfd210 ?hrd210 ?hQd210 ?hyd210 hHeld ?restd210
          case hod210 => (simp only [List.getElem?_toArray, List.getElem?_cons_succ, List.getElem?_cons_zero]; exact rfl)
          case hfd210 => kernel_rfl
          case hrd210 => kernel_rfl
          case hQd210 => exact fun _ _ _ h => h
          case hyd210 =>
            refine Or.inl ⟨by rfl, ?_⟩
            intro V hSV
            go_simp
            (try with_reducible rfl)
          try simp only [Act.put, List.setIfInBounds_toArray, List.set_cons_zero, List.set_cons_succ]
          refine wpAnyH_ready (rs := [8]) (by kernel_rfl) (by simp) ?_
          refine AllReadyH.cons (o := ?od211) ?hod211 (fun K hK => ?kd211) ?md211
          case hod211 => (simp only [List.getElem?_toArray, List.getElem?_cons_succ, List.getElem?_cons_zero]; exact rfl)
          case kd211 =>
            go_simp
            refine (keptW_any q1 A n c _ bs _ (HB2.out.later (show Below W2.heap.size W2 _ from hHeld)) (HR0.out.below (show Below W2.heap.size W2 _ from hHeld)) (by omega)).mono ?_
            rintro e w3 ⟨rfl, rfl⟩
            (try dsimp only)
            refine hK.out _ _ ?_ (fun hHeld => ?_)
            · exact (show Below W2.heap.size W2 _ from hHeld)
            clear hK K
            try simp only [Act.put, List.setIfInBounds_toArray, List.set_cons_zero, List.set_cons_succ]
            refine wpAnyH_take (i := 9) (oi := ?oid212) (v := ?vd212) ?hod212 (by kernel_rfl) ?hfd212 ?hrd212 ?hQd212 ?hyd212 hHeld ?restd212
            case hod212 => (simp only [List.getElem?_toArray, List.getElem?_cons_succ, List.getElem?_cons_zero]; exact rfl)
            case hfd212 => kernel_rfl
            case hrd212 => kernel_rfl
            case hQd212 => exact fun _ _ _ h => h
            case hyd212 =>
              refine Or.inl ⟨by rfl, ?_⟩
              intro V hSV
              go_simp
              (try with_reducible rfl)
            try simp only [Act.put, List.setIfInBounds_toArray, List.set_cons_zero, List.set_cons_succ]
            refine wpAnyH_take (i := 10) (oi := ?oid213) (v := ?vd213) ?hod213 (by kernel_rfl) ?hfd213 ?hrd213 ?hQd213 ?hyd213 hHeld ?restd213
            case hod213 => (simp only [List.getElem?_toArray, List.getElem?_cons_succ, List.getElem?_cons_zero]; exact rfl)
            case hfd213 => kernel_rfl
            case hrd213 => kernel_rfl
            case hQd213 => exact fun _ _ _ h => h
            case hyd213 =>
              refine Or.inl ⟨by rfl, ?_⟩
              intro V hSV
              go_simp
              (try with_reducible rfl)
            try simp only [Act.put, List.setIfInBounds_toArray, List.set_cons_zero, List.set_cons_succ]
            refine wpAnyH_take (i := 11) (oi := ?oid214) (v := ?vd214) ?hod214 (by kernel_rfl) ?hfd214 ?hrd214 ?hQd214 ?hyd214 hHeld ?restd214
            case hod214 => (simp only [List.getElem?_toArray, List.getElem?_cons_succ, List.getElem?_cons_zero]; exact rfl)
            case hfd214 => kernel_rfl
            case hrd214 => kernel_rfl
            case hQd214 => exact fun _ _ _ h => h
            case hyd214 =>
              refine Or.inl ⟨by rfl, ?_⟩
              intro V hSV
              go_simp
              (try with_reducible rfl)
            try simp only [Act.put, List.setIfInBounds_toArray, List.set_cons_zero, List.set_cons_succ]
            refine wpAnyH_take (i := 12) (oi := ?oid215) (v := ?vd215) ?hod215 (by kernel_rfl) ?hfd215 ?hrd215 ?hQd215 ?hyd215 hHeld ?restd215
            case hod215 => (simp only [List.getElem?_toArray, List.getElem?_cons_succ, List.getElem?_cons_zero]; exact rfl)
            case hfd215 => kernel_rfl
            case hrd215 => kernel_rfl
            case hQd215 => exact fun _ _ _ h => h
            case hyd215 =>
              refine Or.inl ⟨by rfl, ?_⟩
              intro V hSV
              go_simp
              (try with_reducible rfl)
            try simp only [Act.put, List.setIfInBounds_toArray, List.set_cons_zero, List.set_cons_succ]
            refine wpAnyH_take (i := 13) (oi := ?oid216) (v := ?vd216) ?hod216 (by kernel_rfl) ?hfd216 ?hrd216 ?hQd216 ?hyd216 hHeld ?restd216
            case hod216 => (simp only [List.getElem?_toArray, List.getElem?_cons_succ, List.getElem?_cons_zero]; exact rfl)
            case hfd216 => kernel_rfl
            case hrd216 => kernel_rfl
            case hQd216 => exact fun _ _ _ h => h
            case hyd216 =>
              refine Or.inl ⟨by rfl, ?_⟩
              intro V hSV
              go_simp
              (try with_reducible rfl)
            try simp only [Act.put, List.setIfInBounds_toArray, List.set_cons_zero, List.set_cons_succ]
            refine wpAnyH_take (i := 14) (oi := ?oid217) (v := ?vd217) ?hod217 (by kernel_rfl) ?hfd217 ?hrd217 ?hQd217 ?hyd217 hHeld ?restd217
            case hod217 => (simp only [List.getElem?_toArray, List.getElem?_cons_succ, List.getElem?_cons_zero]; exact rfl)
            case hfd217 => kernel_rfl
            case hrd217 => kernel_rfl
            case hQd217 => exact fun _ _ _ h => h
            case hyd217 =>
              refine Or.inl ⟨by rfl, ?_⟩
              intro V hSV
              have q0 := HH2.out.readT hSV 0 rfl
              have q1 := HH2.out.readT hSV 1 rfl
              have q2 := HH2.out.readT hSV 2 rfl
              have q3 := HH2.out.readT hSV 3 rfl
              have q4 := HH2.out.readT hSV 4 rfl
              have q5 := HH2.out.readT hSV 5 rfl
              go_simp
              (try with_reducible rfl)
            try simp only [Act.put, List.setIfInBounds_toArray, List.set_cons_zero, List.set_cons_succ]
            refine wpAnyH_ready (rs := [15]) (by kernel_rfl) (by simp) ?_
            refine AllReadyH.cons (o := ?od218) ?hod218 (fun K hK => ?kd218) ?md218
            case hod218 => (simp only [List.getElem?_toArray, List.getElem?_cons_succ, List.getElem?_cons_zero]; exact rfl)
            case kd218 =>
              go_simp
              refine (rRMay_any s0 x0 p A1 n1 c1 l A3 n3 c3 R3 L3 _ ((HRF.out.below (show Below W2.heap.size W2 _ from hHeld)).more (Below.size (show Below W2.heap.size W2 _ from hHeld))) ((HRF3.out.below (show Below W2.heap.size W2 _ from hHeld)).more (Below.size (show Below W2.heap.size W2 _ from hHeld))) (by omega) (by omega) (fun x hx => Nat.le_trans (HK3.out x hx) (by omega))).mono ?_
              rintro e w4d218 ⟨rfl, hb4d218⟩
              rw [HMAY.out]
              (try dsimp only)
              refine hK.out _ _ ?_ (fun hHeld => ?_)
              · exact Below.trans (show Below W2.heap.size W2 _ from hHeld) (hb4d218.mono (Below.size (show Below W2.heap.size W2 _ from hHeld)))
              clear hK K
              try simp only [Act.put, List.setIfInBounds_toArray, List.set_cons_zero, List.set_cons_succ]
              refine wpAnyH_take (i := 16) (oi := ?oid219) (v := ?vd219) ?hod219 (by kernel_rfl) ?hfd219 ?hrd219 ?hQd219 ?hyd219 hHeld ?restd219
              case hod219 => (simp only [List.getElem?_toArray, List.getElem?_cons_succ, List.getElem?_cons_zero]; exact rfl)
              case hfd219 => kernel_rfl
              case hrd219 => kernel_rfl
              case hQd219 => exact fun _ _ _ h => h
              case hyd219 =>
                refine Or.inl ⟨by rfl, ?_⟩
                intro V hSV
                go_simp
                (try with_reducible rfl)
              try simp only [Act.put, List.setIfInBounds_toArray, List.set_cons_zero, List.set_cons_succ]
              refine wpAnyH_take (i := 17) (oi := ?oid220) (v := ?vd220) ?hod220 (by kernel_rfl) ?hfd220 ?hrd220 ?hQd220 ?hyd220 hHeld ?restd220
              case hod220 => (simp only [List.getElem?_toArray, List.getElem?_cons_succ, List.getElem?_cons_zero]; exact rfl)
              case hfd220 => kernel_rfl
              case hrd220 => kernel_rfl
              case hQd220 => exact fun _ _ _ h => h
              case hyd220 =>
                refine Or.inl ⟨by rfl, ?_⟩
                intro V hSV
                go_simp
                (try with_reducible rfl)
              try simp only [Act.put, List.setIfInBounds_toArray, List.set_cons_zero, List.set_cons_succ]
              refine wpAnyH_take (i := 18) (oi := ?oid221) (v := ?vd221) ?hod221 (by kernel_rfl) ?hfd221 ?hrd221 ?hQd221 ?hyd221 hHeld ?restd221
              case hod221 => (simp only [List.getElem?_toArray, List.getElem?_cons_succ, List.getElem?_cons_zero]; exact rfl)
              case hfd221 => kernel_rfl
              case hrd221 => kernel_rfl
              case hQd221 => exact fun _ _ _ h => h
              case hyd221 =>
                refine Or.inl ⟨by rfl, ?_⟩
                intro V hSV
                go_simp
                (try with_reducible rfl)
              try simp only [Act.put, List.setIfInBounds_toArray, List.set_cons_zero, List.set_cons_succ]
              refine wpAnyH_take (i := 19) (oi := ?oid222) (v := ?vd222) ?hod222 (by kernel_rfl) ?hfd222 ?hrd222 ?hQd222 ?hyd222 hHeld ?restd222
              case hod222 => (simp only [List.getElem?_toArray, List.getElem?_cons_succ, List.getElem?_cons_zero]; exact rfl)
              case hfd222 => kernel_rfl
              case hrd222 => kernel_rfl
              case hQd222 => exact fun _ _ _ h => h
              case hyd222 =>
                refine Or.inl ⟨by rfl, ?_⟩
                intro V hSV
                go_simp
                (try with_reducible rfl)
              try simp only [Act.put, List.setIfInBounds_toArray, List.set_cons_zero, List.set_cons_succ]
              refine wpAnyH_take (i := 20) (oi := ?oid223) (v := ?vd223) ?hod223 (by kernel_rfl) ?hfd223 ?hrd223 ?hQd223 ?hyd223 hHeld ?restd223
              case hod223 => (simp only [List.getElem?_toArray, List.getElem?_cons_succ, List.getElem?_cons_zero]; exact rfl)
              case hfd223 => kernel_rfl
              case hrd223 => kernel_rfl
              case hQd223 => exact fun _ _ _ h => h
              case hyd223 =>
                refine Or.inl ⟨by rfl, ?_⟩
                intro V hSV
                go_simp
                (try with_reducible rfl)
              try simp only [Act.put, List.setIfInBounds_toArray, List.set_cons_zero, List.set_cons_succ]
              refine wpAnyH_take (i := 21) (oi := ?oid224) (v := ?vd224) ?hod224 (by kernel_rfl) ?hfd224 ?hrd224 ?hQd224 ?hyd224 hHeld ?restd224
              case hod224 => (simp only [List.getElem?_toArray, List.getElem?_cons_succ, List.getElem?_cons_zero]; exact rfl)
              case hfd224 => kernel_rfl
              case hrd224 => kernel_rfl
              case hQd224 => exact fun _ _ _ h => h
              case hyd224 =>
                refine Or.inl ⟨by rfl, ?_⟩
                intro V hSV
                go_simp
                (try with_reducible rfl)
              try simp only [Act.put, List.setIfInBounds_toArray, List.set_cons_zero, List.set_cons_succ]
              refine wpAnyH_take (i := 22) (oi := ?oid225) (v := ?vd225) ?hod225 (by kernel_rfl) ?hfd225 ?hrd225 ?hQd225 ?hyd225 hHeld ?restd225
              case hod225 => (simp only [List.getElem?_toArray, List.getElem?_cons_succ, List.getElem?_cons_zero]; exact rfl)
              case hfd225 => kernel_rfl
              case hrd225 => kernel_rfl
              case hQd225 => exact fun _ _ _ h => h
              case hyd225 =>
                refine Or.inl ⟨by rfl, ?_⟩
                intro V hSV
                go_simp
                (try with_reducible rfl)
              try simp only [Act.put, List.setIfInBounds_toArray, List.set_cons_zero, List.set_cons_succ]
              refine wpAnyH_take (i := 23) (oi := ?oid226) (v := ?vd226) ?hod226 (by kernel_rfl) ?hfd226 ?hrd226 ?hQd226 ?hyd226 hHeld ?restd226
              case hod226 => (simp only [List.getElem?_toArray, List.getElem?_cons_succ, List.getElem?_cons_zero]; exact rfl)
              case hfd226 => kernel_rfl
              case hrd226 => kernel_rfl
              case hQd226 => exact fun _ _ _ h => h
              case hyd226 =>
                refine Or.inl ⟨by rfl, ?_⟩
                intro V hSV
                go_simp
                (try with_reducible rfl)
              try simp only [Act.put, List.setIfInBounds_toArray, List.set_cons_zero, List.set_cons_succ]
              refine wpAnyH_take (i := 24) (oi := ?oid227) (v := ?vd227) ?hod227 (by kernel_rfl) ?hfd227 ?hrd227 ?hQd227 ?hyd227 hHeld ?restd227
              case hod227 => (simp only [List.getElem?_toArray, List.getElem?_cons_succ, List.getElem?_cons_zero]; exact rfl)
              case hfd227 => kernel_rfl
              case hrd227 => kernel_rfl
              case hQd227 => exact fun _ _ _ h => h
              case hyd227 =>
                refine Or.inl ⟨by rfl, ?_⟩
                intro V hSV
                go_simp
                (try with_reducible rfl)
              try simp only [Act.put, List.setIfInBounds_toArray, List.set_cons_zero, List.set_cons_succ]
              refine wpAnyH_take (i := 25) (oi := ?oid228) (v := ?vd228) ?hod228 (by kernel_rfl) ?hfd228 ?hrd228 ?hQd228 ?hyd228 hHeld ?restd228
              case hod228 => (simp only [List.getElem?_toArray, List.getElem?_cons_succ, List.getElem?_cons_zero]; exact rfl)
              case hfd228 => kernel_rfl
              case hrd228 => kernel_rfl
              case hQd228 => exact fun _ _ _ h => h
              case hyd228 =>
                refine Or.inl ⟨by rfl, ?_⟩
                intro V hSV
                go_simp
                (try with_reducible rfl)
              try simp only [Act.put, List.setIfInBounds_toArray, List.set_cons_zero, List.set_cons_succ]
              refine wpAnyH_take (i := 26) (oi := ?oid229) (v := ?vd229) ?hod229 (by kernel_rfl) ?hfd229 ?hrd229 ?hQd229 ?hyd229 hHeld ?restd229
              case hod229 => (simp only [List.getElem?_toArray, List.getElem?_cons_succ, List.getElem?_cons_zero]; exact rfl)
              case hfd229 => kernel_rfl
              case hrd229 => kernel_rfl
              case hQd229 => exact fun _ _ _ h => h
              case hyd229 =>
                refine Or.inl ⟨by rfl, ?_⟩
                intro V hSV
                go_simp
                (try with_reducible rfl)
              try simp only [Act.put, List.setIfInBounds_toArray, List.set_cons_zero, List.set_cons_succ]
              refine wpAnyH_take (i := 27) (oi := ?oid230) (v := ?vd230) ?hod230 (by kernel_rfl) ?hfd230 ?hrd230 ?hQd230 ?hyd230 hHeld ?restd230
              case hod230 => (simp only [List.getElem?_toArray, List.getElem?_cons_succ, List.getElem?_cons_zero]; exact rfl)
              case hfd230 => kernel_rfl
              case hrd230 => kernel_rfl
              case hQd230 => exact fun _ _ _ h => h
              case hyd230 =>
                refine Or.inl ⟨by rfl, ?_⟩
                intro V hSV
                go_simp
                (try with_reducible rfl)
              try simp only [Act.put, List.setIfInBounds_toArray, List.set_cons_zero, List.set_cons_succ]
              refine wpAnyH_take (i := 28) (oi := ?oid231) (v := ?vd231) ?hod231 (by kernel_rfl) ?hfd231 ?hrd231 ?hQd231 ?hyd231 hHeld ?restd231
              case hod231 => (simp only [List.getElem?_toArray, List.getElem?_cons_succ, List.getElem?_cons_zero]; exact rfl)
              case hfd231 => kernel_rfl
              case hrd231 => kernel_rfl
              case hQd231 => exact fun _ _ _ h => h
              case hyd231 =>
                refine Or.inl ⟨by rfl, ?_⟩
                intro V hSV
                go_simp
                (try with_reducible rfl)
              try simp only [Act.put, List.setIfInBounds_toArray, List.set_cons_zero, List.set_cons_succ]
              refine wpAnyH_take (i := 29) (oi := ?oid232) (v := ?vd232) ?hod232 (by kernel_rfl) ?hfd232 ?hrd232 ?hQd232 ?hyd232 hHeld ?restd232
              case hod232 => (simp only [List.getElem?_toArray, List.getElem?_cons_succ, List.getElem?_cons_zero]; exact rfl)
              case hfd232 => kernel_rfl
              case hrd232 => kernel_rfl
              case hQd232 => exact fun _ _ _ h => h
              case hyd232 =>
                refine Or.inl ⟨by rfl, ?_⟩
                intro V hSV
                go_simp
                (try with_reducible rfl)
              try simp only [Act.put, List.setIfInBounds_toArray, List.set_cons_zero, List.set_cons_succ]
              refine wpAnyH_take (i := 30) (oi := ?oid233) (v := ?vd233) ?hod233 (by kernel_rfl) ?hfd233 ?hrd233 ?hQd233 ?hyd233 hHeld ?restd233
              case hod233 => (simp only [List.getElem?_toArray, List.getElem?_cons_succ, List.getElem?_cons_zero]; exact rfl)
              case hfd233 => kernel_rfl
              case hrd233 => kernel_rfl
              case hQd233 => exact fun _ _ _ h => h
              case hyd233 =>
                refine Or.inl ⟨by rfl, ?_⟩
                intro V hSV
                go_simp
                (try with_reducible rfl)
              try simp only [Act.put, List.setIfInBounds_toArray, List.set_cons_zero, List.set_cons_succ]
              refine wpAnyH_take (i := 31) (oi := ?oid234) (v := ?vd234) ?hod234 (by kernel_rfl) ?hfd234 ?hrd234 ?hQd234 ?hyd234 hHeld ?restd234
              case hod234 => (simp only [List.getElem?_toArray, List.getElem?_cons_succ, List.getElem?_cons_zero]; exact rfl)
              case hfd234 => kernel_rfl
              case hrd234 => kernel_rfl
              case hQd234 => exact fun _ _ _ h => h
              case hyd234 =>
                refine Or.inl ⟨by rfl, ?_⟩
                intro V hSV
                go_simp
                (try with_reducible rfl)
              try simp only [Act.put, List.setIfInBounds_toArray, List.set_cons_zero, List.set_cons_succ]
              refine wpAnyH_take (i := 32) (oi := ?oid235) (v := ?vd235) ?hod235 (by kernel_rfl) ?hfd235 ?hrd235 ?hQd235 ?hyd235 hHeld ?restd235
              case hod235 => (simp only [List.getElem?_toArray, List.getElem?_cons_succ, List.getElem?_cons_zero]; exact rfl)
              case hfd235 => kernel_rfl
              case hrd235 => kernel_rfl
              case hQd235 => exact fun _ _ _ h => h
              case hyd235 =>
                refine Or.inl ⟨by rfl, ?_⟩
                intro V hSV
                go_simp
                (try with_reducible rfl)
              try simp only [Act.put, List.setIfInBounds_toArray, List.set_cons_zero, List.set_cons_succ]
              refine wpAnyH_take (i := 33) (oi := ?oid236) (v := ?vd236) ?hod236 (by kernel_rfl) ?hfd236 ?hrd236 ?hQd236 ?hyd236 hHeld ?restd236
              case hod236 => (simp only [List.getElem?_toArray, List.getElem?_cons_succ, List.getElem?_cons_zero]; exact rfl)
              case hfd236 => kernel_rfl
              case hrd236 => kernel_rfl
              case hQd236 => exact fun _ _ _ h => h
              case hyd236 =>
                refine Or.inl ⟨by rfl, ?_⟩
                intro V hSV
                go_simp
                (try with_reducible rfl)
              try simp only [Act.put, List.setIfInBounds_toArray, List.set_cons_zero, List.set_cons_succ]
              refine wpAnyH_take (i := 34) (oi := ?oid237) (v := ?vd237) ?hod237 (by kernel_rfl) ?hfd237 ?hrd237 ?hQd237 ?hyd237 hHeld ?restd237
              case hod237 => (simp only [List.getElem?_toArray, List.getElem?_cons_succ, List.getElem?_cons_zero]; exact rfl)
              case hfd237 => kernel_rfl
              case hrd237 => kernel_rfl
              case hQd237 => exact fun _ _ _ h => h
              case hyd237 =>
                refine Or.inl ⟨by rfl, ?_⟩
                intro V hSV
                go_simp
                (try with_reducible rfl)
              try simp only [Act.put, List.setIfInBounds_toArray, List.set_cons_zero, List.set_cons_succ]
              refine wpAnyH_take (i := 35) (oi := ?oid238) (v := undef) ?hod238 (by kernel_rfl) ?hfd238 ?hrd238 ?hQd238 ?hyd238 hHeld ?restd238
              case hod238 => (simp only [List.getElem?_toArray, List.getElem?_cons_succ, List.getElem?_cons_zero]; exact rfl)
              case hfd238 => kernel_rfl
              case hrd238 => kernel_rfl
              case hQd238 => exact fun _ _ _ h => h
              case hyd238 =>
                exact Or.inr ⟨by rfl, rfl⟩
              try simp only [Act.put, List.setIfInBounds_toArray, List.set_cons_zero, List.set_cons_succ]
              refine wpAnyH_take (i := 36) (oi := ?oid239) (v := undef) ?hod239 (by kernel_rfl) ?hfd239 ?hrd239 ?hQd239 ?hyd239 hHeld ?restd239
              case hod239 => (simp only [List.getElem?_toArray, List.getElem?_cons_succ, List.getElem?_cons_zero]; exact rfl)
              case hfd239 => kernel_rfl
              case hrd239 => kernel_rfl
              case hQd239 => exact fun _ _ _ h => h
              case hyd239 =>
                exact Or.inr ⟨by rfl, rfl⟩
              try simp only [Act.put, List.setIfInBounds_toArray, List.set_cons_zero, List.set_cons_succ]
              refine wpAnyH_take (i := 37) (oi := ?oid240) (v := undef) ?hod240 (by kernel_rfl) ?hfd240 ?hrd240 ?hQd240 ?hyd240 hHeld ?restd240
              case hod240 => (simp only [List.getElem?_toArray, List.getElem?_cons_succ, List.getElem?_cons_zero]; exact rfl)
              case hfd240 => kernel_rfl
              case hrd240 => kernel_rfl
              case hQd240 => exact fun _ _ _ h => h
              case hyd240 =>
                exact Or.inr ⟨by rfl, rfl⟩
              try simp only [Act.put, List.setIfInBounds_toArray, List.set_cons_zero, List.set_cons_succ]
              refine wpAnyH_take (i := 38) (oi := ?oid241) (v := undef) ?hod241 (by kernel_rfl) ?hfd241 ?hrd241 ?hQd241 ?hyd241 hHeld ?restd241
              case hod241 => (simp only [List.getElem?_toArray, List.getElem?_cons_succ, List.getElem?_cons_zero]; exact rfl)
              case hfd241 => kernel_rfl
              case hrd241 => kernel_rfl
              case hQd241 => exact fun _ _ _ h => h
              case hyd241 =>
                exact Or.inr ⟨by rfl, rfl⟩
              try simp only [Act.put, List.setIfInBounds_toArray, List.set_cons_zero, List.set_cons_succ]
              refine wpAnyH_take (i := 39) (oi := ?oid242) (v := undef) ?hod242 (by kernel_rfl) ?hfd242 ?hrd242 ?hQd242 ?hyd242 hHeld ?restd242
              case hod242 => (simp only [List.getElem?_toArray, List.getElem?_cons_succ, List.getElem?_cons_zero]; exact rfl)
              case hfd242 => kernel_rfl
              case hrd242 => kernel_rfl
              case hQd242 => exact fun _ _ _ h => h
              case hyd242 =>
                exact Or.inr ⟨by rfl, rfl⟩
              try simp only [Act.put, List.setIfInBounds_toArray, List.set_cons_zero, List.set_cons_succ]
              refine wpAnyH_take (i := 40) (oi := ?oid243) (v := undef) ?hod243 (by kernel_rfl) ?hfd243 ?hrd243 ?hQd243 ?hyd243 hHeld ?restd243
              case hod243 => (simp only [List.getElem?_toArray, List.getElem?_cons_succ, List.getElem?_cons_zero]; exact rfl)
              case hfd243 => kernel_rfl
              case hrd243 => kernel_rfl
              case hQd243 => exact fun _ _ _ h => h
              case hyd243 =>
                exact Or.inr ⟨by rfl, rfl⟩
              try simp only [Act.put, List.setIfInBounds_toArray, List.set_cons_zero, List.set_cons_succ]
              refine wpAnyH_take (i := 41) (oi := ?oid244) (v := undef) ?hod244 (by kernel_rfl) ?hfd244 ?hrd244 ?hQd244 ?hyd244 hHeld ?restd244
              case hod244 => (simp only [List.getElem?_toArray, List.getElem?_cons_succ, List.getElem?_cons_zero]; exact rfl)
              case hfd244 => kernel_rfl
              case hrd244 => kernel_rfl
              case hQd244 => exact fun _ _ _ h => h
              case hyd244 =>
                exact Or.inr ⟨by rfl, rfl⟩
              try simp only [Act.put, List.setIfInBounds_toArray, List.set_cons_zero, List.set_cons_succ]
              refine wpAnyH_take (i := 42) (oi := ?oid245) (v := undef) ?hod245 (by kernel_rfl) ?hfd245 ?hrd245 ?hQd245 ?hyd245 hHeld ?restd245
              case hod245 => (simp only [List.getElem?_toArray, List.getElem?_cons_succ, List.getElem?_cons_zero]; exact rfl)
              case hfd245 => kernel_rfl
              case hrd245 => kernel_rfl
              case hQd245 => exact fun _ _ _ h => h
              case hyd245 =>
                exact Or.inr ⟨by rfl, rfl⟩
              try simp only [Act.put, List.setIfInBounds_toArray, List.set_cons_zero, List.set_cons_succ]
              refine wpAnyH_take (i := 43) (oi := ?oid246) (v := undef) ?hod246 (by kernel_rfl) ?hfd246 ?hrd246 ?hQd246 ?hyd246 hHeld ?restd246
              case hod246 => (simp only [List.getElem?_toArray, List.getElem?_cons_succ, List.getElem?_cons_zero]; exact rfl)
              case hfd246 => kernel_rfl
              case hrd246 => kernel_rfl
              case hQd246 => exact fun _ _ _ h => h
              case hyd246 =>
                exact Or.inr ⟨by rfl, rfl⟩
              try simp only [Act.put, List.setIfInBounds_toArray, List.set_cons_zero, List.set_cons_succ]
              refine wpAnyH_take (i := 44) (oi := ?oid247) (v := ?vd247) ?hod247 (by kernel_rfl) ?hfd247 ?hrd247 ?hQd247 ?hyd247 hHeld ?restd247
              case hod247 => (simp only [List.getElem?_toArray, List.getElem?_cons_succ, List.getElem?_cons_zero]; exact rfl)
              case hfd247 => kernel_rfl
              case hrd247 => kernel_rfl
              case hQd247 => exact fun _ _ _ h => h
              case hyd247 =>
                refine Or.inl ⟨by rfl, ?_⟩
                intro V hSV
                go_simp
                (try with_reducible rfl)
              try simp only [Act.put, List.setIfInBounds_toArray, List.set_cons_zero, List.set_cons_succ]
              refine wpAnyH_take (i := 45) (oi := ?oid248) (v := ?vd248) ?hod248 (by kernel_rfl) ?hfd248 ?hrd248 ?hQd248 ?hyd248 hHeld ?restd248
              case hod248 => (simp only [List.getElem?_toArray, List.getElem?_cons_succ, List.getElem?_cons_zero]; exact rfl)
              case hfd248 => kernel_rfl
              case hrd248 => kernel_rfl
              case hQd248 => exact fun _ _ _ h => h
              case hyd248 =>
                refine Or.inl ⟨by rfl, ?_⟩
                intro V hSV
                go_simp
                (try with_reducible rfl)
              try simp only [Act.put, List.setIfInBounds_toArray, List.set_cons_zero, List.set_cons_succ]
              refine wpAnyH_done (by kernel_rfl) ?_ _
              have hvv : Below W2.heap.size W2 _ := hHeld
              clear hHeld
              have HV := Lib.hid (HU2.out.trans (Below.mono hvv HU2.out.size))
              clear hvv
              repeat (first | go_skip | go_guarded | go_step)
              refine (ok.takeRule A2 n2 c2 t bs2 _ ((HR2.out.below HV.out).more HV.out.size) hc2 (by omega) ht1 ht2).mono ?_
              rintro e W4 ⟨s4, x4, p4, A4, n4, d4, l4, A6, n6, d6, R6, L6, y4, z4, rfl, hx4, hx6, hd4, hd6, hm4, hm6, hs6, hb4, ha4⟩
              have HV4 := Lib.hid (HV.out.trans (hb4.mono HV.out.size))
              have HX4 := Lib.hid hx4
              have HX6 := Lib.hid hx6
              have HA4 := Lib.hid ha4
              clear hx4 hx6 hb4 ha4
              dsimp only
              go_upto_region 8 with (fail)
              obtain ⟨Z, hZ, hZa, hZw⟩ : ∃ Z, Z = W4.alloc (.cells #[.bool s4, .bool x4.1, nv x4.2, nv p4, .slice A4 n4 d4, .slice A6 n6 d6] 59) ∧ Bk Z W4.heap.size 59 [.bool s4, .bool x4.1, nv x4.2, nv p4, .slice A4 n4 d4, .slice A6 n6 d6] ∧ Below W4.heap.size W4 Z := ⟨_, rfl, Bk.new W4 _ _, (Below.refl _ _).alloc (Nat.le_refl _) _⟩
              rw [← hZ]
              clear hZ
              have HV5 := Lib.hid (HV4.out.trans (hZw.mono HV4.out.size))
              have HX4 := Lib.hid ((HX4.out.below hZw).more hZw.size)
              have HX6 := Lib.hid ((HX6.out.below hZw).more hZw.size)
              have HZ := Lib.hid hZa
              generalize W4.heap.size = gz at hZa HZ ⊢
              clear hZa hZw
              repeat (first | go_skip | go_guarded | go_step)
              refine (rTakeRule_any A2 n2 c2 t bs2 _ ((HR2.out.below HV5.out).more HV5.out.size) hc2 (by omega)).mono ?_
              rintro e W5 ⟨s5, x5, p5, A5, n5, d5, l5, A7, n7, d7, R7, L7, y5, z5, rfl, hx5, hx7, hm5, hm7, hs7, hb5, ha5⟩
              have HV6 := Lib.hid (HV5.out.trans (hb5.mono HV5.out.size))
              have HX5 := Lib.hid hx5
              have HX7 := Lib.hid hx7
              have HX4 := Lib.hid ((HX4.out.below hb5).more hb5.size)
              have HX6 := Lib.hid ((HX6.out.below hb5).more hb5.size)
              have HZ := Lib.hid (HZ.out.later hb5)
              have he := HA4.out.trans ha5.symm
              simp only [Prod.mk.injEq] at he
              obtain ⟨⟨⟨rfl, rfl, rfl, rfl⟩, rfl⟩, rfl, rfl⟩ := he
              clear hx5 hx7 hb5 ha5 HA4
              dsimp only
              go_upto_region 9 with (fail)
              obtain ⟨Y, hY, hYa, hYw⟩ : ∃ Y, Y = W5.alloc (.cells #[.bool s4, .bool x4.1, nv x4.2, nv p4, .slice A5 n5 d5, .slice A7 n7 d7] 59) ∧ Bk Y W5.heap.size 59 [.bool s4, .bool x4.1, nv x4.2, nv p4, .slice A5 n5 d5, .slice A7 n7 d7] ∧ Below W5.heap.size W5 Y := ⟨_, rfl, Bk.new W5 _ _, (Below.refl _ _).alloc (Nat.le_refl _) _⟩
              rw [← hY]
              clear hY
              have HV7 := Lib.hid (HV6.out.trans (hYw.mono HV6.out.size))
              have HX4 := Lib.hid ((HX4.out.below hYw).more hYw.size)
              have HX5 := Lib.hid ((HX5.out.below hYw).more hYw.size)
              have HX6 := Lib.hid ((HX6.out.below hYw).more hYw.size)
              have HX7 := Lib.hid ((HX7.out.below hYw).more hYw.size)
              have HZ := HZ.out.later hYw
              generalize W5.heap.size = gy at hYa ⊢
              have i0 := HZ.readT (Below.refl _ _) 0 rfl
              have j0 := hYa.readT (Below.refl _ _) 0 rfl
              have i1 := HZ.readT (Below.refl _ _) 1 rfl
              have j1 := hYa.readT (Below.refl _ _) 1 rfl
              have i2 := HZ.readT (Below.refl _ _) 2 rfl
              have j2 := hYa.readT (Below.refl _ _) 2 rfl
              have i3 := HZ.readT (Below.refl _ _) 3 rfl
              have j3 := hYa.readT (Below.refl _ _) 3 rfl
              have i4 := HZ.readT (Below.refl _ _) 4 rfl
              have j4 := hYa.readT (Below.refl _ _) 4 rfl
              have i5 := HZ.readT (Below.refl _ _) 5 rfl
              have j5 := hYa.readT (Below.refl _ _) 5 rfl
              clear hYa hYw HZ
              repeat (first | go_skip | go_guarded | go_step)
              refine (rSameRule_any s4 x4 p4 A4 n4 d4 l4 A6 n6 d6 R6 L6 s4 x4 p4 A5 n5 d5 l4 A7 n7 d7 R7 L6 Y HX4.out HX6.out HX5.out HX7.out (by omega) (by omega) (fun x hx => Nat.le_trans (hs7 x hx) (by omega))).mono ?_
              rintro e W6 ⟨rfl, hb6⟩
              have HV8 := Lib.hid (HV7.out.trans (hb6.mono HV7.out.size))
              clear hb6 i0 j0 i1 j1 i2 j2 i3 j3 i4 j4 i5 j5
              rw [decide_eq_true rfl]
              dsimp only
              repeat (first | go_skip | go_guarded | go_step)
              refine (wWorks_any ok _).mono ?_
              rintro e W7 ⟨rfl, hb7⟩
              have HV9 := Lib.hid (HV8.out.trans (hb7.mono HV8.out.size))
              clear hb7
              dsimp only
              repeat (first | go_skip | go_guarded | go_step)
              go_ret
              exact ⟨rfl, hhw ▸ HB.out.trans (HV9.out.mono HB.out.size)⟩
            exact AllReadyH.nil
          exact AllReadyH.nil
        exact AllReadyH.nil
      exact AllReadyH.nil

open Go.ChangeShapes Go.WideShapes Go.ChangeAt

set_option maxRecDepth 100000 in
theorem lifted (ok : WireOk) (os : Os) (started : os.Started) (H : Type) (enc : TypeId × Value → H) :
    ReturnsInHanded {} Try.checked os 5 .any (Rows.wireRulesSpec.pre6 enc Try.prog Try.f5 Rows.wireRulesRow.domain false) (Rows.wireRulesSpec.post enc Try.prog Try.f5 false true false false) := by
  refine returnsInHanded_of_change_sized (C := Try.checked) ownK started (by kernel_rfl) Try.func5
    (ChangeSpec.witness6 (enc := enc) (C := Try.checked) false ⟨#[], #[.slice none 0 0, .agg #[.bool false, .bool false, .int .u32 0, .int .u32 0, .slice none 0 0, .slice none 0 0], .slice none 0 0, .int .i64 0], []⟩ 8 (by kernel_rfl) (by kernel_rfl) (by kernel_rfl) (by kernel_rfl)) ?_
  intro W base args ds gs before hval0 hW hcnd hsz0 _
  have hsz : (DataW.weightsEach Try.prog (Try.f5.params.toList ++ Rows.wireRulesSpec.plain.varTypes Try.prog) (ds ++ gs)).all (· ≤ reachBytes) = true := hsz0
  have hval : ∀ (j : Nat) t v, Try.f5.params[j]? = some t → args[j]? = some v → Value.okWide Try.prog W .any base t v := hval0
  have hlt : ∀ x ∈ before, x.block < W.heap.size := fun x hx => by simpa using hW.lt x hx
  have hW' := hW
  obtain ⟨p, q, hA0, hV, rfl, hfz, hnd⟩ := hW
  have hA : DataW.TrodAll enc Try.prog W 0 (fun _ => true) true Try.f5.params.toList args.toList ds p := hA0
  rw [Try.params5] at hA hval hsz
  obtain ⟨v0, vs0, d0, ds0, p0, q0, hargs, rfl, rfl, h0, r0⟩ := trodAll_cons hA
  obtain ⟨v1, vs1, d1, ds1, p1, q1, rfl, rfl, rfl, h1, r1⟩ := trodAll_cons r0
  obtain ⟨v2, vs2, d2, ds2, p2, q2, rfl, rfl, rfl, h2, r2⟩ := trodAll_cons r1
  obtain ⟨v3, vs3, d3, ds3, p3, q3, rfl, rfl, rfl, h3, r3⟩ := trodAll_cons r2
  obtain ⟨rfl, rfl, rfl⟩ := trodAll_nil r3
  obtain rfl : args = #[v0, v1, v2, v3] := by cases args; simp_all
  obtain ⟨rfl, rfl⟩ := trodVars_none hV
  obtain ⟨A, n, c, bs, rfl, hk0, hm0, hr0⟩ := open_bytes (hval 0 22 v0 rfl rfl) h0 (fun x hx => hlt x (by simp [hx])) (fun elems spare e => by
    have := sized_slice hsz (j := 0) (t := 22) (e := 5) (elems := elems) (spare := spare) rfl (by rw [e]; rfl) Try.underlying22
    rw [bytes8] at this
    simp only [reachBytes] at this
    omega)
  obtain ⟨s0, x0, p, A1, n1, c1, l, A3, n3, c3, R3, L3, rfl, hk1, hm1, hk3, hm3, hr1, hr3⟩ := open_rule (hval 1 59 v1 rfl rfl) h1 (fun x hx => hlt x (by simp [hx]))
  obtain ⟨A2, n2, c2, bs2, rfl, hk2, hm2, hr2⟩ := open_bytes (hval 2 22 v2 rfl rfl) h2 (fun x hx => hlt x (by simp [hx])) (fun elems spare e => by
    have := sized_slice hsz (j := 2) (t := 22) (e := 5) (elems := elems) (spare := spare) rfl (by rw [e]; rfl) Try.underlying22
    rw [bytes8] at this
    simp only [reachBytes] at this
    omega)
  obtain ⟨t, rfl, rfl, rfl, wt⟩ := open_int Try.underlying3 (hval 3 3 v3 rfl rfl) h3
  have bt := i64_bdW wt
  have main : Calls Try.prog 5 #[.slice A n c, .agg #[.bool s0, .bool x0.1, nv x0.2, nv p, .slice A1 n1 c1, .slice A3 n3 c3], .slice A2 n2 c2, .int .i64 t] W fun e w' => e = .returned (.bool true) ∧ Below W.heap.size W w' := by
    exact walk ok A n c bs s0 x0 p A1 n1 c1 l A3 n3 c3 R3 L3 A2 n2 c2 bs2 t W hr0 hk0 hr1 hk1 hr3 hk3 hr2 hk2 bt.1 bt.2
  refine main.mono fun e W' ⟨he, hg⟩ => ?_
  subst he
  exact ⟨_, rfl, post_law laidOut rfl (by kernel_rfl) hW' hg rfl Try.underlying4 rfl rfl rfl⟩

theorem proved_of (ok : WireOk) : Rows.WireRulesSaid :=
  OpenClaim.holds_of_wide 5 Try.f5 rfl rfl rfl rfl rfl rfl rfl ⟨rfl, rfl, rfl, rfl, rfl⟩ rfl rfl rfl rfl rfl (by kernel_rfl) Try.func5 (by kernel_rfl)
    (of_decide_eq_true (by kernel_rfl)) (by unfold Func.isWrapper; first | (rw [if_pos (by decide +kernel)]; kernel_rfl) | (rw [if_neg (by decide +kernel)]; exact ⟨rfl, rfl⟩))
    (fun os started H enc _ => lifted ok os started H enc)
#print axioms proved_of
end Go.Proofs.Ytcoafgnbmgndeaa.wireRules
