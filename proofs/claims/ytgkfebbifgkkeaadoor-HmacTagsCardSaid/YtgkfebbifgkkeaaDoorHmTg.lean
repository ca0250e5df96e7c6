/- HmacTags: the tag of any key and any byte strings, at once and by a mac, again and again: the walks. -/
import Derived.Test.YtgkfebbifgkkeaaDoorHmR
set_option linter.unusedVariables false
set_option linter.unusedSimpArgs false
namespace Go.Proofs.YtgkfebbifgkkeaaDoor
open Go Go.RowKit

/-- string(..) of a row of bytes, in a drawn region. -/
theorem anyd_str {ops : Array Oper} {E : Prop} {o : Oper} {a : Act} {K : Act → World → Prop} {Q : Exit → Act → World → Prop} {w : World} (hwant : Region.wanted o (yielded ops a.tmps) = true) (x : Operand)
    (ho : o.op = .convert 22 9 x) (B : Nat) (A : Option Addr) (n c : Nat) (l : List UInt8) (hx : a.eval x = .slice A n c) (hr : Rd w B 1 A n (l.map bv))
    (h : K (a.put o.dst (strV l)) w) : if Region.wanted o (yielded ops a.tmps) = true then Oper.wp Tryd.prog o a w K Q else E := by
  rw [if_pos hwant]
  unfold Oper.wp execOp
  simp only [ho, hx, Sem.run_bind, Sem.run_pure, Result.andThen_ok, run_conv_str (P := Tryd.prog) w 22 9 5 Tryd.underlying22 Tryd.underlying5 Tryd.underlying9 B A n c l hr]
  exact h

namespace hmacTags
set_option maxRecDepth 100000 in
set_option maxHeartbeats 1000000 in
theorem walkVast (A0 A : Option Addr) (n0 c0 n c : Nat) (R : List RowA) (sl : List (List UInt8)) (w : World) (ht : Tab w) (hr : Rws w w.heap.size A n R sl) (hb : ∀ l ∈ sl, l.length ≤ 140737488351232) (hv : 2000 < n0 ∨ 60 < n ∨ 8192 < sl.flatten.length) :
    Calls Tryd.prog 3 #[.slice A0 n0 c0, .slice A n c] w fun e w' => e = .returned (.bool true) ∧ Below w.heap.size w w' := by
  have hvast : Calls Tryd.prog 6 #[.slice A0 n0 c0, .slice A n c] w fun e w' => e = .returned (.bool true) ∧ w = w' := by
    by_cases h : 2000 < n0
    · exact vast_key A0 n0 c0 A n c w h
    · by_cases h1 : 60 < n
      · exact vast_long A0 n0 c0 A n c w (by omega) h1
      · exact vast_any A0 n0 c0 A n c R sl w hr hb (by omega) (by omega) true (decide_eq_true (by omega))
  have HV := Lib.hid hvast
  clear hvast hv
  go_enter Tryd.func3, Tryd.ntmps3
  go_wp2_with (first
    | (go_at_call 6; refine HV.out.mono ?_; rintro e w1 ⟨rfl, rfl⟩)
    | (go_at_call 7; refine (works_any _ ht).mono ?_; rintro e w2 ⟨rfl, hb2⟩))
  go_ret
  exact ⟨rfl, hb2⟩

set_option maxRecDepth 100000 in
set_option maxHeartbeats 8000000 in
theorem walk (A0 A : Option Addr) (n0 c0 n c : Nat) (R : List RowA) (key : List UInt8) (sl : List (List UInt8)) (w : World) (ht : Tab w) (h0 : Rd w w.heap.size 1 A0 n0 (key.map bv)) (k0 : n0 ≤ c0) (hr : Rws w w.heap.size A n R sl) (hb : ∀ l ∈ sl, l.length ≤ 140737488351232)
    (hn0 : n0 ≤ 2000) (hn : n ≤ 60) (hv : sl.flatten.length ≤ 8192) :
    Calls Tryd.prog 3 #[.slice A0 n0 c0, .slice A n c] w fun e w' => e = .returned (.bool true) ∧ Below w.heap.size w w' := by
  have HV := Lib.hid (vast_any A0 n0 c0 A n c R sl w hr hb hn0 hn false (decide_eq_false (by omega)))
  have HT := Lib.hid ht
  have H0 := Lib.hid h0
  have HR := Lib.hid hr
  have HFL := Lib.hid hv
  have hl0 : key.length = n0 := by simpa using h0.len1
  have HL0 := Lib.hid hl0
  obtain ⟨fl, hfe⟩ : ∃ fl, sl.flatten = fl := ⟨_, rfl⟩
  have HFE := Lib.hid hfe
  clear ht h0 hr hb hv hl0 hfe
  go_enter Tryd.func3, Tryd.ntmps3
  go_wp2_with (go_at_call 6; refine HV.out.mono ?_; rintro e w1 ⟨rfl, rfl⟩)
  refine (join_any A n c R sl w HR.out (by have := HFL.out; omega) (by omega)).mono ?_
  rintro e W1 ⟨Ao, m, co, rfl, ho1, hb1⟩
  rw [HFE.out] at ho1
  have HM := Lib.hid ho1.len
  have hm8 : m ≤ 8192 := by rw [← HM.out, ← HFE.out]; exact HFL.out
  have hmo : m ≤ co := ho1.le
  have HZ1 := hb1.size
  dsimp only
  repeat go_step
  refine (rTag_any A0 Ao n0 c0 m co key fl W1 ((H0.out.below hb1).more HZ1) ho1.rd (by omega) (by omega)).mono ?_
  rintro e W2 ⟨rfl, hb2⟩
  have hlA := hmacL_len key fl
  have HLA := Lib.hid hlA
  unfold tagH
  obtain ⟨tA, HTA⟩ : ∃ tA, Hid (hmacL key fl = tA) := ⟨_, rfl⟩
  rw [HTA.out] at HLA ⊢
  obtain ⟨U1, hU, hAU, hbU⟩ : ∃ U, U = W2.alloc (.cells (tA.map bv).toArray 28) ∧ Bk U W2.heap.size 28 (tA.map bv) ∧ Below W1.heap.size W1 U :=
    ⟨_, rfl, Bk.new W2 _ _, hb2.alloc hb2.size _⟩
  have HU := Lib.hid hU
  have hZU1 := hbU.size
  have HAU := Lib.hid hAU
  have hwU := hb1.trans (hbU.mono HZ1)
  have hZw1 := hwU.size
  have HWU := Lib.hid hwU
  have HO1 := Lib.hid (ho1.below hbU (Nat.le_refl _))
  have h01 := H0.out.below hwU
  clear hU hb2 hlA hAU hbU hwU ho1 hb1
  dsimp only
  repeat (first
    | (refine wpList_store_new rfl 28 _ _ rfl W2 _ _ rfl rfl (tagSz _ HLA.out) (tag32 _ HLA.out) (bvOne _) ?_; rw [← HU.out])
    | (at_builtin; refine app8 _ rfl (.tmp 19) (.tmp 20) rfl U1.heap.size _ _ 0 [] rfl (owLit0 U1 _ (Nat.le_refl _)) w.heap.size A0 n0 c0 key rfl (h01.below ((Below.refl _ _).alloc hZw1 _)) (by omega) (by simp) ?_; intro A3 c3 W3 ho3 hb3 _)
    | go_step)
  rw [Nat.zero_add, List.nil_append] at ho3
  have hbw3 : Below U1.heap.size U1 W3 := ((Below.refl _ _).alloc (Nat.le_refl _) _).trans hb3
  have hZ3 := hbw3.size
  clear hb3 h01
  repeat go_step
  refine (newMac_any A3 n0 c3 key W3 ho3.rd ho3.le (by omega) (HT.out.below (HWU.out.trans (hbw3.mono hZw1)))).mono ?_
  rintro e W4 ⟨g, rfl, hg, hm4, hb4⟩
  have HO4 := Lib.hid (ho3.below hb4 (Nat.le_refl _))
  have hbw4 := hbw3.trans (hb4.mono hZ3)
  have hZ4 := hbw4.size
  have HM4 := Lib.hid hm4
  have HBW4 := Lib.hid hbw4
  have HOL := Lib.hid ho3.le
  clear ho3 hbw3 hb4 hm4 hbw4 hg
  dsimp only
  repeat go_step
  have hU4 : ∀ W : World, Below W4.heap.size W4 W → Below U1.heap.size U1 W := fun W h => HBW4.out.trans (h.mono hZ4)
  have hrg : ∀ (W : World), Below U1.heap.size U1 W → W.rangeAt W2.heap.size 0 (tA.map bv) := fun W h j v hv => by
    rw [Nat.zero_add, (HAU.out.later h).cell]
    exact hv
  have hsl : (Tryd.prog.info? 28).map (·.size) = some (tA.map bv).length := by rw [← HTA.out]; exact tagLen _ _
  have HSZ := Lib.hid hsl
  have hrw : ∀ (W : World), Below U1.heap.size U1 W → Rws W W.heap.size A n R sl := fun W h => (HR.out.below (HWU.out.trans (h.mono hZw1))).more (Nat.le_trans hZw1 h.size)
  have h0w : ∀ (W : World), Below U1.heap.size U1 W → Rd W W.heap.size 1 A0 n0 (key.map bv) := fun W h => (H0.out.below (HWU.out.trans (h.mono hZw1))).more (Nat.le_trans hZw1 h.size)
  have how : ∀ (W : World), Below U1.heap.size U1 W → Rd W W.heap.size 1 Ao m (fl.map bv) := fun W h => (HO1.out.rd.below h).more h.size
  have htw : ∀ (W : World), Below U1.heap.size U1 W → Tab W := fun W h => HT.out.below (HWU.out.trans (h.mono hZw1))
  have hoo : ∀ (W : World), Below W4.heap.size W4 W → Rd W W.heap.size 1 A3 n0 (key.map bv) := fun W h => (HO4.out.rd.below h).more h.size
  have eqA : ∀ W : World, (Op.equalIn 10000 28 (.agg (tA.map bv).toArray) (.agg (tA.map bv).toArray)).run Tryd.prog W = .ok true W := fun W => by rw [← HTA.out]; exact eqH _ _ _
  clear hsl
  refine wp_region_any (by kernel_rfl) ?_
  try (change wpAny _ _ _ _ _ _ _ (World.drew _))
  refine wpAny_meet (b := ?ad1) (fun V => Below W4.heap.size W4 V) ?cd1 ?rd1
  case rd1 =>
    intro hEnd
    have hf0 : Below W4.heap.size W4 W4.drew := belowDrewN (Below.refl _ _) 1
    refine wpAny_take (i := 0) (oi := ?oid2) (v := ?vd2) ?hod2 (by kernel_rfl) ?hfd2 ?hrd2 ?hQd2 ?hyd2 ?restd2
    case hod2 => (simp only [List.getElem?_toArray, List.getElem?_cons_succ, List.getElem?_cons_zero]; exact rfl)
    case hfd2 => kernel_rfl
    case hrd2 => kernel_rfl
    case hQd2 => exact fun _ _ _ h => h
    case hyd2 =>
      refine Or.inl ⟨by rfl, ?_⟩
      intro w
      go_simp
      (try with_reducible rfl)
    try simp only [Act.put, List.setIfInBounds_toArray, List.set_cons_zero, List.set_cons_succ]
    refine wpAny_take (i := 1) (oi := ?oid3) (v := ?vd3) ?hod3 (by kernel_rfl) ?hfd3 ?hrd3 ?hQd3 ?hyd3 ?restd3
    case hod3 => (simp only [List.getElem?_toArray, List.getElem?_cons_succ, List.getElem?_cons_zero]; exact rfl)
    case hfd3 => kernel_rfl
    case hrd3 => kernel_rfl
    case hQd3 => exact fun _ _ _ h => h
    case hyd3 =>
      refine Or.inl ⟨by rfl, ?_⟩
      intro w
      go_simp
      (try with_reducible rfl)
    try simp only [Act.put, List.setIfInBounds_toArray, List.set_cons_zero, List.set_cons_succ]
    refine wpAny_take (i := 2) (oi := ?oid4) (v := ?vd4) ?hod4 (by kernel_rfl) ?hfd4 ?hrd4 ?hQd4 ?hyd4 ?restd4
    case hod4 => (simp only [List.getElem?_toArray, List.getElem?_cons_succ, List.getElem?_cons_zero]; exact rfl)
    case hfd4 => kernel_rfl
    case hrd4 => kernel_rfl
    case hQd4 => exact fun _ _ _ h => h
    case hyd4 =>
      refine Or.inl ⟨by rfl, ?_⟩
      intro w
      go_simp
      (try with_reducible rfl)
    try simp only [Act.put, List.setIfInBounds_toArray, List.set_cons_zero, List.set_cons_succ]
    refine wpAny_take (i := 3) (oi := ?oid5) (v := ?vd5) ?hod5 (by kernel_rfl) ?hfd5 ?hrd5 ?hQd5 ?hyd5 ?restd5
    case hod5 => (simp only [List.getElem?_toArray, List.getElem?_cons_succ, List.getElem?_cons_zero]; exact rfl)
    case hfd5 => kernel_rfl
    case hrd5 => kernel_rfl
    case hQd5 => exact fun _ _ _ h => h
    case hyd5 =>
      refine Or.inl ⟨by rfl, ?_⟩
      intro w
      go_simp
      (try with_reducible rfl)
    try simp only [Act.put, List.setIfInBounds_toArray, List.set_cons_zero, List.set_cons_succ]
    refine wpAny_take (i := 4) (oi := ?oid6) (v := ?vd6) ?hod6 (by kernel_rfl) ?hfd6 ?hrd6 ?hQd6 ?hyd6 ?restd6
    case hod6 => (simp only [List.getElem?_toArray, List.getElem?_cons_succ, List.getElem?_cons_zero]; exact rfl)
    case hfd6 => kernel_rfl
    case hrd6 => kernel_rfl
    case hQd6 => exact fun _ _ _ h => h
    case hyd6 =>
      refine Or.inl ⟨by rfl, ?_⟩
      intro w
      go_simp
      (try with_reducible rfl)
    try simp only [Act.put, List.setIfInBounds_toArray, List.set_cons_zero, List.set_cons_succ]
    refine wpAny_ready (rs := [5, 6]) (by kernel_rfl) (by simp) ?_
    refine AllReady.cons (o := ?od7) ?hod7 (fun K hK => ?kd7) ?md7
    case hod7 => (simp only [List.getElem?_toArray, List.getElem?_cons_succ, List.getElem?_cons_zero]; exact rfl)
    case kd7 =>
      go_simp
      refine (hTag_any A3 Ao n0 c3 m co key fl _ (hoo _ (by exact hf0)) HOL.out (how _ (hU4 _ (by exact hf0))) hmo (by omega) (by omega) (htw _ (hU4 _ (by exact hf0)))).mono ?_
      rintro e Vd7 ⟨rfl, hvd7⟩
      unfold tagH
      rw [HTA.out]
      have hfd7 : Below W4.heap.size W4 Vd7 := Below.trans (by exact hf0) (hvd7.mono (hf0).size)
      (try dsimp only)
      refine hK _ _ ?_
      clear hK K
      try simp only [Act.put, List.setIfInBounds_toArray, List.set_cons_zero, List.set_cons_succ]
      refine wpAny_ready (rs := [6]) (by kernel_rfl) (by simp) ?_
      refine AllReady.cons (o := ?od8) ?hod8 (fun K hK => ?kd8) ?md8
      case hod8 => (simp only [List.getElem?_toArray, List.getElem?_cons_succ, List.getElem?_cons_zero]; exact rfl)
      case kd8 =>
        refine any_load_mid (by rfl) 28 (.tmp 6) rfl W2.heap.size 0 rfl (tA.map bv) _ (hrg _ (hU4 _ (by exact hfd7))) Tryd.underlying28 rfl HSZ.out ?_
        refine hK _ _ ?_
        clear hK K
        try simp only [Act.put, List.setIfInBounds_toArray, List.set_cons_zero, List.set_cons_succ]
        refine wpAny_take (i := 7) (oi := ?oid9) (v := ?vd9) ?hod9 (by kernel_rfl) ?hfd9 ?hrd9 ?hQd9 ?hyd9 ?restd9
        case hod9 => (simp only [List.getElem?_toArray, List.getElem?_cons_succ, List.getElem?_cons_zero]; exact rfl)
        case hfd9 => kernel_rfl
        case hrd9 => kernel_rfl
        case hQd9 => exact fun _ _ _ h => h
        case hyd9 =>
          refine Or.inl ⟨by rfl, ?_⟩
          intro w
          go_simp
          (try with_reducible rfl)
        try simp only [Act.put, List.setIfInBounds_toArray, List.set_cons_zero, List.set_cons_succ]
        refine wpAny_take (i := 8) (oi := ?oid10) (v := ?vd10) ?hod10 (by kernel_rfl) ?hfd10 ?hrd10 ?hQd10 ?hyd10 ?restd10
        case hod10 => (simp only [List.getElem?_toArray, List.getElem?_cons_succ, List.getElem?_cons_zero]; exact rfl)
        case hfd10 => kernel_rfl
        case hrd10 => kernel_rfl
        case hQd10 => exact fun _ _ _ h => h
        case hyd10 =>
          refine Or.inl ⟨by rfl, ?_⟩
          intro w
          go_simp
          (try with_reducible rfl)
        try simp only [Act.put, List.setIfInBounds_toArray, List.set_cons_zero, List.set_cons_succ]
        refine wpAny_take (i := 9) (oi := ?oid11) (v := ?vd11) ?hod11 (by kernel_rfl) ?hfd11 ?hrd11 ?hQd11 ?hyd11 ?restd11
        case hod11 => (simp only [List.getElem?_toArray, List.getElem?_cons_succ, List.getElem?_cons_zero]; exact rfl)
        case hfd11 => kernel_rfl
        case hrd11 => kernel_rfl
        case hQd11 => exact fun _ _ _ h => h
        case hyd11 =>
          refine Or.inl ⟨by rfl, ?_⟩
          intro w
          go_simp
          (try with_reducible rfl)
        try simp only [Act.put, List.setIfInBounds_toArray, List.set_cons_zero, List.set_cons_succ]
        refine wpAny_take (i := 10) (oi := ?oid12) (v := ?vd12) ?hod12 (by kernel_rfl) ?hfd12 ?hrd12 ?hQd12 ?hyd12 ?restd12
        case hod12 => (simp only [List.getElem?_toArray, List.getElem?_cons_succ, List.getElem?_cons_zero]; exact rfl)
        case hfd12 => kernel_rfl
        case hrd12 => kernel_rfl
        case hQd12 => exact fun _ _ _ h => h
        case hyd12 =>
          refine Or.inl ⟨by rfl, ?_⟩
          intro w
          go_simp
          (try with_reducible rfl)
        try simp only [Act.put, List.setIfInBounds_toArray, List.set_cons_zero, List.set_cons_succ]
        refine wpAny_take (i := 12) (oi := ?oid13) (v := ?vd13) ?hod13 (by kernel_rfl) ?hfd13 ?hrd13 ?hQd13 ?hyd13 ?restd13
        case hod13 => (simp only [List.getElem?_toArray, List.getElem?_cons_succ, List.getElem?_cons_zero]; exact rfl)
        case hfd13 => kernel_rfl
        case hrd13 => kernel_rfl
        case hQd13 => exact fun _ _ _ h => h
        case hyd13 =>
          refine Or.inl ⟨by rfl, ?_⟩
          intro w
          go_simp
          (try with_reducible rfl)
        try simp only [Act.put, List.setIfInBounds_toArray, List.set_cons_zero, List.set_cons_succ]
        refine wpAny_ready (rs := [11, 13]) (by kernel_rfl) (by simp) ?_
        refine AllReady.cons (o := ?od14) ?hod14 (fun K hK => ?kd14) ?md14
        case hod14 => (simp only [List.getElem?_toArray, List.getElem?_cons_succ, List.getElem?_cons_zero]; exact rfl)
        case kd14 =>
          refine anyd_str (by rfl) (.tmp 34) rfl _ _ _ _ key (by rfl) (hoo _ (by exact hfd7)) ?_
          refine hK _ _ ?_
          clear hK K
          try simp only [Act.put, List.setIfInBounds_toArray, List.set_cons_zero, List.set_cons_succ]
          refine wpAny_ready (rs := [13]) (by kernel_rfl) (by simp) ?_
          refine AllReady.cons (o := ?od15) ?hod15 (fun K hK => ?kd15) ?md15
          case hod15 => (simp only [List.getElem?_toArray, List.getElem?_cons_succ, List.getElem?_cons_zero]; exact rfl)
          case kd15 =>
            refine anyd_str (by rfl) (.tmp 36) rfl _ _ _ _ key (by rfl) (h0w _ (hU4 _ (by exact hfd7))) ?_
            refine hK _ _ ?_
            clear hK K
            try simp only [Act.put, List.setIfInBounds_toArray, List.set_cons_zero, List.set_cons_succ]
            refine wpAny_take (i := 14) (oi := ?oid16) (v := ?vd16) ?hod16 (by kernel_rfl) ?hfd16 ?hrd16 ?hQd16 ?hyd16 ?restd16
            case hod16 => (simp only [List.getElem?_toArray, List.getElem?_cons_succ, List.getElem?_cons_zero]; exact rfl)
            case hfd16 => kernel_rfl
            case hrd16 => kernel_rfl
            case hQd16 => exact fun _ _ _ h => h
            case hyd16 =>
              refine Or.inl ⟨by rfl, ?_⟩
              intro w
              go_simp
              (try with_reducible rfl)
            try simp only [Act.put, List.setIfInBounds_toArray, List.set_cons_zero, List.set_cons_succ]
            refine wpAny_take (i := 15) (oi := ?oid17) (v := ?vd17) ?hod17 (by kernel_rfl) ?hfd17 ?hrd17 ?hQd17 ?hyd17 ?restd17
            case hod17 => (simp only [List.getElem?_toArray, List.getElem?_cons_succ, List.getElem?_cons_zero]; exact rfl)
            case hfd17 => kernel_rfl
            case hrd17 => kernel_rfl
            case hQd17 => exact fun _ _ _ h => h
            case hyd17 =>
              refine Or.inl ⟨by rfl, ?_⟩
              intro w
              go_simp
              (try with_reducible rfl)
            try simp only [Act.put, List.setIfInBounds_toArray, List.set_cons_zero, List.set_cons_succ]
            exact wpAny_done (by kernel_rfl) (hEnd _ hfd7) _
          exact AllReady.nil
        refine AllReady.cons (o := ?od18) ?hod18 (fun K hK => ?kd18) ?md18
        case hod18 => (simp only [List.getElem?_toArray, List.getElem?_cons_succ, List.getElem?_cons_zero]; exact rfl)
        case kd18 =>
          refine anyd_str (by rfl) (.tmp 36) rfl _ _ _ _ key (by rfl) (h0w _ (hU4 _ (by exact hfd7))) ?_
          refine hK _ _ ?_
          clear hK K
          try simp only [Act.put, List.setIfInBounds_toArray, List.set_cons_zero, List.set_cons_succ]
          refine wpAny_ready (rs := [11]) (by kernel_rfl) (by simp) ?_
          refine AllReady.cons (o := ?od19) ?hod19 (fun K hK => ?kd19) ?md19
          case hod19 => (simp only [List.getElem?_toArray, List.getElem?_cons_succ, List.getElem?_cons_zero]; exact rfl)
          case kd19 =>
            refine anyd_str (by rfl) (.tmp 34) rfl _ _ _ _ key (by rfl) (hoo _ (by exact hfd7)) ?_
            refine hK _ _ ?_
            clear hK K
            try simp only [Act.put, List.setIfInBounds_toArray, List.set_cons_zero, List.set_cons_succ]
            refine wpAny_take (i := 14) (oi := ?oid20) (v := ?vd20) ?hod20 (by kernel_rfl) ?hfd20 ?hrd20 ?hQd20 ?hyd20 ?restd20
            case hod20 => (simp only [List.getElem?_toArray, List.getElem?_cons_succ, List.getElem?_cons_zero]; exact rfl)
            case hfd20 => kernel_rfl
            case hrd20 => kernel_rfl
            case hQd20 => exact fun _ _ _ h => h
            case hyd20 =>
              refine Or.inl ⟨by rfl, ?_⟩
              intro w
              go_simp
              (try with_reducible rfl)
            try simp only [Act.put, List.setIfInBounds_toArray, List.set_cons_zero, List.set_cons_succ]
            refine wpAny_take (i := 15) (oi := ?oid21) (v := ?vd21) ?hod21 (by kernel_rfl) ?hfd21 ?hrd21 ?hQd21 ?hyd21 ?restd21
            case hod21 => (simp only [List.getElem?_toArray, List.getElem?_cons_succ, List.getElem?_cons_zero]; exact rfl)
            case hfd21 => kernel_rfl
            case hrd21 => kernel_rfl
            case hQd21 => exact fun _ _ _ h => h
            case hyd21 =>
              refine Or.inl ⟨by rfl, ?_⟩
              intro w
              go_simp
              (try with_reducible rfl)
            try simp only [Act.put, List.setIfInBounds_toArray, List.set_cons_zero, List.set_cons_succ]
            exact wpAny_done (by kernel_rfl) (hEnd _ hfd7) _
          exact AllReady.nil
        exact AllReady.nil
      exact AllReady.nil
    refine AllReady.cons (o := ?od22) ?hod22 (fun K hK => ?kd22) ?md22
    case hod22 => (simp only [List.getElem?_toArray, List.getElem?_cons_succ, List.getElem?_cons_zero]; exact rfl)
    case kd22 =>
      refine any_load_mid (by rfl) 28 (.tmp 6) rfl W2.heap.size 0 rfl (tA.map bv) _ (hrg _ (hU4 _ (by exact hf0))) Tryd.underlying28 rfl HSZ.out ?_
      refine hK _ _ ?_
      clear hK K
      try simp only [Act.put, List.setIfInBounds_toArray, List.set_cons_zero, List.set_cons_succ]
      refine wpAny_ready (rs := [5]) (by kernel_rfl) (by simp) ?_
      refine AllReady.cons (o := ?od23) ?hod23 (fun K hK => ?kd23) ?md23
      case hod23 => (simp only [List.getElem?_toArray, List.getElem?_cons_succ, List.getElem?_cons_zero]; exact rfl)
      case kd23 =>
        go_simp
        refine (hTag_any A3 Ao n0 c3 m co key fl _ (hoo _ (by exact hf0)) HOL.out (how _ (hU4 _ (by exact hf0))) hmo (by omega) (by omega) (htw _ (hU4 _ (by exact hf0)))).mono ?_
        rintro e Vd23 ⟨rfl, hvd23⟩
        unfold tagH
        rw [HTA.out]
        have hfd23 : Below W4.heap.size W4 Vd23 := Below.trans (by exact hf0) (hvd23.mono (hf0).size)
        (try dsimp only)
        refine hK _ _ ?_
        clear hK K
        try simp only [Act.put, List.setIfInBounds_toArray, List.set_cons_zero, List.set_cons_succ]
        refine wpAny_take (i := 7) (oi := ?oid24) (v := ?vd24) ?hod24 (by kernel_rfl) ?hfd24 ?hrd24 ?hQd24 ?hyd24 ?restd24
        case hod24 => (simp only [List.getElem?_toArray, List.getElem?_cons_succ, List.getElem?_cons_zero]; exact rfl)
        case hfd24 => kernel_rfl
        case hrd24 => kernel_rfl
        case hQd24 => exact fun _ _ _ h => h
        case hyd24 =>
          refine Or.inl ⟨by rfl, ?_⟩
          intro w
          go_simp
          (try with_reducible rfl)
        try simp only [Act.put, List.setIfInBounds_toArray, List.set_cons_zero, List.set_cons_succ]
        refine wpAny_take (i := 8) (oi := ?oid25) (v := ?vd25) ?hod25 (by kernel_rfl) ?hfd25 ?hrd25 ?hQd25 ?hyd25 ?restd25
        case hod25 => (simp only [List.getElem?_toArray, List.getElem?_cons_succ, List.getElem?_cons_zero]; exact rfl)
        case hfd25 => kernel_rfl
        case hrd25 => kernel_rfl
        case hQd25 => exact fun _ _ _ h => h
        case hyd25 =>
          refine Or.inl ⟨by rfl, ?_⟩
          intro w
          go_simp
          (try with_reducible rfl)
        try simp only [Act.put, List.setIfInBounds_toArray, List.set_cons_zero, List.set_cons_succ]
        refine wpAny_take (i := 9) (oi := ?oid26) (v := ?vd26) ?hod26 (by kernel_rfl) ?hfd26 ?hrd26 ?hQd26 ?hyd26 ?restd26
        case hod26 => (simp only [List.getElem?_toArray, List.getElem?_cons_succ, List.getElem?_cons_zero]; exact rfl)
        case hfd26 => kernel_rfl
        case hrd26 => kernel_rfl
        case hQd26 => exact fun _ _ _ h => h
        case hyd26 =>
          refine Or.inl ⟨by rfl, ?_⟩
          intro w
          go_simp
          (try with_reducible rfl)
        try simp only [Act.put, List.setIfInBounds_toArray, List.set_cons_zero, List.set_cons_succ]
        refine wpAny_take (i := 10) (oi := ?oid27) (v := ?vd27) ?hod27 (by kernel_rfl) ?hfd27 ?hrd27 ?hQd27 ?hyd27 ?restd27
        case hod27 => (simp only [List.getElem?_toArray, List.getElem?_cons_succ, List.getElem?_cons_zero]; exact rfl)
        case hfd27 => kernel_rfl
        case hrd27 => kernel_rfl
        case hQd27 => exact fun _ _ _ h => h
        case hyd27 =>
          refine Or.inl ⟨by rfl, ?_⟩
          intro w
          go_simp
          (try with_reducible rfl)
        try simp only [Act.put, List.setIfInBounds_toArray, List.set_cons_zero, List.set_cons_succ]
        refine wpAny_take (i := 12) (oi := ?oid28) (v := ?vd28) ?hod28 (by kernel_rfl) ?hfd28 ?hrd28 ?hQd28 ?hyd28 ?restd28
        case hod28 => (simp only [List.getElem?_toArray, List.getElem?_cons_succ, List.getElem?_cons_zero]; exact rfl)
        case hfd28 => kernel_rfl
        case hrd28 => kernel_rfl
        case hQd28 => exact fun _ _ _ h => h
        case hyd28 =>
          refine Or.inl ⟨by rfl, ?_⟩
          intro w
          go_simp
          (try with_reducible rfl)
        try simp only [Act.put, List.setIfInBounds_toArray, List.set_cons_zero, List.set_cons_succ]
        refine wpAny_ready (rs := [11, 13]) (by kernel_rfl) (by simp) ?_
        refine AllReady.cons (o := ?od29) ?hod29 (fun K hK => ?kd29) ?md29
        case hod29 => (simp only [List.getElem?_toArray, List.getElem?_cons_succ, List.getElem?_cons_zero]; exact rfl)
        case kd29 =>
          refine anyd_str (by rfl) (.tmp 34) rfl _ _ _ _ key (by rfl) (hoo _ (by exact hfd23)) ?_
          refine hK _ _ ?_
          clear hK K
          try simp only [Act.put, List.setIfInBounds_toArray, List.set_cons_zero, List.set_cons_succ]
          refine wpAny_ready (rs := [13]) (by kernel_rfl) (by simp) ?_
          refine AllReady.cons (o := ?od30) ?hod30 (fun K hK => ?kd30) ?md30
          case hod30 => (simp only [List.getElem?_toArray, List.getElem?_cons_succ, List.getElem?_cons_zero]; exact rfl)
          case kd30 =>
            refine anyd_str (by rfl) (.tmp 36) rfl _ _ _ _ key (by rfl) (h0w _ (hU4 _ (by exact hfd23))) ?_
            refine hK _ _ ?_
            clear hK K
            try simp only [Act.put, List.setIfInBounds_toArray, List.set_cons_zero, List.set_cons_succ]
            refine wpAny_take (i := 14) (oi := ?oid31) (v := ?vd31) ?hod31 (by kernel_rfl) ?hfd31 ?hrd31 ?hQd31 ?hyd31 ?restd31
            case hod31 => (simp only [List.getElem?_toArray, List.getElem?_cons_succ, List.getElem?_cons_zero]; exact rfl)
            case hfd31 => kernel_rfl
            case hrd31 => kernel_rfl
            case hQd31 => exact fun _ _ _ h => h
            case hyd31 =>
              refine Or.inl ⟨by rfl, ?_⟩
              intro w
              go_simp
              (try with_reducible rfl)
            try simp only [Act.put, List.setIfInBounds_toArray, List.set_cons_zero, List.set_cons_succ]
            refine wpAny_take (i := 15) (oi := ?oid32) (v := ?vd32) ?hod32 (by kernel_rfl) ?hfd32 ?hrd32 ?hQd32 ?hyd32 ?restd32
            case hod32 => (simp only [List.getElem?_toArray, List.getElem?_cons_succ, List.getElem?_cons_zero]; exact rfl)
            case hfd32 => kernel_rfl
            case hrd32 => kernel_rfl
            case hQd32 => exact fun _ _ _ h => h
            case hyd32 =>
              refine Or.inl ⟨by rfl, ?_⟩
              intro w
              go_simp
              (try with_reducible rfl)
            try simp only [Act.put, List.setIfInBounds_toArray, List.set_cons_zero, List.set_cons_succ]
            exact wpAny_done (by kernel_rfl) (hEnd _ hfd23) _
          exact AllReady.nil
        refine AllReady.cons (o := ?od33) ?hod33 (fun K hK => ?kd33) ?md33
        case hod33 => (simp only [List.getElem?_toArray, List.getElem?_cons_succ, List.getElem?_cons_zero]; exact rfl)
        case kd33 =>
          refine anyd_str (by rfl) (.tmp 36) rfl _ _ _ _ key (by rfl) (h0w _ (hU4 _ (by exact hfd23))) ?_
          refine hK _ _ ?_
          clear hK K
          try simp only [Act.put, List.setIfInBounds_toArray, List.set_cons_zero, List.set_cons_succ]
          refine wpAny_ready (rs := [11]) (by kernel_rfl) (by simp) ?_
          refine AllReady.cons (o := ?od34) ?hod34 (fun K hK => ?kd34) ?md34
          case hod34 => (simp only [List.getElem?_toArray, List.getElem?_cons_succ, List.getElem?_cons_zero]; exact rfl)
          case kd34 =>
            refine anyd_str (by rfl) (.tmp 34) rfl _ _ _ _ key (by rfl) (hoo _ (by exact hfd23)) ?_
            refine hK _ _ ?_
            clear hK K
            try simp only [Act.put, List.setIfInBounds_toArray, List.set_cons_zero, List.set_cons_succ]
            refine wpAny_take (i := 14) (oi := ?oid35) (v := ?vd35) ?hod35 (by kernel_rfl) ?hfd35 ?hrd35 ?hQd35 ?hyd35 ?restd35
            case hod35 => (simp only [List.getElem?_toArray, List.getElem?_cons_succ, List.getElem?_cons_zero]; exact rfl)
            case hfd35 => kernel_rfl
            case hrd35 => kernel_rfl
            case hQd35 => exact fun _ _ _ h => h
            case hyd35 =>
              refine Or.inl ⟨by rfl, ?_⟩
              intro w
              go_simp
              (try with_reducible rfl)
            try simp only [Act.put, List.setIfInBounds_toArray, List.set_cons_zero, List.set_cons_succ]
            refine wpAny_take (i := 15) (oi := ?oid36) (v := ?vd36) ?hod36 (by kernel_rfl) ?hfd36 ?hrd36 ?hQd36 ?hyd36 ?restd36
            case hod36 => (simp only [List.getElem?_toArray, List.getElem?_cons_succ, List.getElem?_cons_zero]; exact rfl)
            case hfd36 => kernel_rfl
            case hrd36 => kernel_rfl
            case hQd36 => exact fun _ _ _ h => h
            case hyd36 =>
              refine Or.inl ⟨by rfl, ?_⟩
              intro w
              go_simp
              (try with_reducible rfl)
            try simp only [Act.put, List.setIfInBounds_toArray, List.set_cons_zero, List.set_cons_succ]
            exact wpAny_done (by kernel_rfl) (hEnd _ hfd23) _
          exact AllReady.nil
        exact AllReady.nil
      exact AllReady.nil
    exact AllReady.nil
  case cd1 =>
    intro V hV
    repeat go_step
    have hF3 := OwnF.of (HO4.out.below hV (Nat.le_refl _))
    have hmV := HM4.out.later hV
    have hbV := hU4 _ hV
    go_loopw [9] (fun p wr => ∃ k : Nat, k ≤ n0 ∧ p = .int .i64 (k : Int) ∧ OwnF wr U1.heap.size A3 n0 ∧ Mac wr g key ∧ Below U1.heap.size U1 wr) (fun p _ => n0 - (intOf p).toNat)
    case atStart => exact ⟨0, by omega, rfl, hF3, hmV, hbV⟩
    case round =>
      clear hF3 hmV hbV hV hoo hU4
      obtain ⟨k, hk, rfl, hF, hmr, hbk⟩ := hrel
      by_cases hlk : k < n0
      · obtain ⟨q, cur, rfl, hq, hbg, hcl, hx⟩ := hF (by omega)
        obtain ⟨x, hxk⟩ := hx k hlk
        have cx : wr.cell? ⟨q, k, none⟩ = some (.int .u8 (x.toNat : Int)) := by rw [hbg.cell, hxk]; rfl
        have fx := hbg.frozen k
        have hck : (k : Int) < (n0 : Int) := by omega
        obtain ⟨y, hy⟩ := xorB x 17 (by omega)
        rw [show ((17 : Nat) : Int) = 17 from rfl] at hy
        have HX := Lib.hid hx
        have HY := Lib.hid hy
        clear hx hxk hy
        have HF2 : Hid (OwnF (wr.setCell ⟨q, k, none⟩ (Value.int .u8 (bits .xor .u8 (x.toNat : Int) 17))) U1.heap.size (some ⟨q, 0, none⟩) n0) := by
          show OwnF _ _ _ _
          rw [HY.out]
          refine fun _ => ⟨q, cur.set k (bv y), rfl, hq, hbg.set_ k (bv y), by simpa using hcl, fun j hj => ?_⟩
          obtain ⟨z, hz⟩ := HX.out j hj
          rw [List.getElem?_set]
          by_cases hkj : k = j
          · rw [if_pos hkj, if_pos (by omega)]
            exact ⟨y, rfl⟩
          · rw [if_neg hkj]
            exact ⟨z, hz⟩
        have HM2 := Lib.hid (hmr.byte hbg k (Value.int .u8 (bits .xor .u8 (x.toNat : Int) 17)))
        have HB2 := Lib.hid (hbk.setCell (p := ⟨q, k, none⟩) hq (Value.int .u8 (bits .xor .u8 (x.toNat : Int) 17)))
        clear hbg hbk hmr hF hrg hrw h0w how htw eqA
        go_wp2
        go_roundw
        case rel => exact ⟨k + 1, by omega, by go_num, HF2.out, HM2.out, HB2.out⟩
        case measure => simp [intOf]; omega
      · obtain rfl : n0 = k := by omega
        rename World => X
        clear hF hlk hk
        have HMX := Lib.hid hmr
        have hX : ∀ W : World, Below X.heap.size X W → Below U1.heap.size U1 W := fun W h => hbk.trans (h.mono hbk.size)
        obtain ⟨tB, HTB⟩ : ∃ tB, Hid (hmacL key [] = tB) := ⟨_, rfl⟩
        have eqB : ∀ W : World, (Op.equalIn 10000 28 (.agg (tB.map bv).toArray) (.agg (tB.map bv).toArray)).run Tryd.prog W = .ok true W := fun W => by rw [← HTB.out]; exact eqH _ _ _
        clear hmr
        repeat go_step
        refine wp_region_any (by kernel_rfl) ?_
        try (change wpAny _ _ _ _ _ _ _ (World.drew _))
        have hf0 : Below X.heap.size X X.drew := belowDrewN (Below.refl _ _) 1
        refine wpAny_take (i := 0) (oi := ?oid38) (v := ?vd38) ?hod38 (by kernel_rfl) ?hfd38 ?hrd38 ?hQd38 ?hyd38 ?restd38
        case hod38 => (simp only [List.getElem?_toArray, List.getElem?_cons_succ, List.getElem?_cons_zero]; exact rfl)
        case hfd38 => kernel_rfl
        case hrd38 => kernel_rfl
        case hQd38 => exact fun _ _ _ h => h
        case hyd38 =>
          refine Or.inl ⟨by rfl, ?_⟩
          intro w
          go_simp
          (try with_reducible rfl)
        try simp only [Act.put, List.setIfInBounds_toArray, List.set_cons_zero, List.set_cons_succ]
        refine wpAny_take (i := 1) (oi := ?oid39) (v := ?vd39) ?hod39 (by kernel_rfl) ?hfd39 ?hrd39 ?hQd39 ?hyd39 ?restd39
        case hod39 => (simp only [List.getElem?_toArray, List.getElem?_cons_succ, List.getElem?_cons_zero]; exact rfl)
        case hfd39 => kernel_rfl
        case hrd39 => kernel_rfl
        case hQd39 => exact fun _ _ _ h => h
        case hyd39 =>
          refine Or.inl ⟨by rfl, ?_⟩
          intro w
          go_simp
          (try with_reducible rfl)
        try simp only [Act.put, List.setIfInBounds_toArray, List.set_cons_zero, List.set_cons_succ]
        refine wpAny_ready (rs := [2, 3]) (by kernel_rfl) (by simp) ?_
        refine AllReady.cons (o := ?od40) ?hod40 (fun K hK => ?kd40) ?md40
        case hod40 => (simp only [List.getElem?_toArray, List.getElem?_cons_succ, List.getElem?_cons_zero]; exact rfl)
        case kd40 =>
          go_simp
          refine (macTag_any g key A n c R sl _ (HMX.out.later (by exact hf0)) (hrw _ (hX _ (by exact hf0))) (by have := HFL.out; omega) (by omega) (htw _ (hX _ (by exact hf0)))).mono ?_
          rintro e Vd40 ⟨rfl, hvd40⟩
          rw [HFE.out]
          unfold tagH
          rw [HTA.out]
          have hfd40 : Below X.heap.size X Vd40 := Below.trans (by exact hf0) (hvd40.mono (hf0).size)
          (try dsimp only)
          refine hK _ _ ?_
          clear hK K
          try simp only [Act.put, List.setIfInBounds_toArray, List.set_cons_zero, List.set_cons_succ]
          refine wpAny_ready (rs := [3]) (by kernel_rfl) (by simp) ?_
          refine AllReady.cons (o := ?od41) ?hod41 (fun K hK => ?kd41) ?md41
          case hod41 => (simp only [List.getElem?_toArray, List.getElem?_cons_succ, List.getElem?_cons_zero]; exact rfl)
          case kd41 =>
            refine any_load_mid (by rfl) 28 (.tmp 6) rfl W2.heap.size 0 rfl (tA.map bv) _ (hrg _ (hX _ (by exact hfd40))) Tryd.underlying28 rfl HSZ.out ?_
            refine hK _ _ ?_
            clear hK K
            try simp only [Act.put, List.setIfInBounds_toArray, List.set_cons_zero, List.set_cons_succ]
            refine wpAny_take (i := 4) (oi := ?oid42) (v := ?vd42) ?hod42 (by kernel_rfl) ?hfd42 ?hrd42 ?hQd42 ?hyd42 ?restd42
            case hod42 => (simp only [List.getElem?_toArray, List.getElem?_cons_succ, List.getElem?_cons_zero]; exact rfl)
            case hfd42 => kernel_rfl
            case hrd42 => kernel_rfl
            case hQd42 => exact fun _ _ _ h => h
            case hyd42 =>
              refine Or.inl ⟨by rfl, ?_⟩
              intro w
              go_simp
              (try with_reducible rfl)
            try simp only [Act.put, List.setIfInBounds_toArray, List.set_cons_zero, List.set_cons_succ]
            refine wpAny_take (i := 5) (oi := ?oid43) (v := ?vd43) ?hod43 (by kernel_rfl) ?hfd43 ?hrd43 ?hQd43 ?hyd43 ?restd43
            case hod43 => (simp only [List.getElem?_toArray, List.getElem?_cons_succ, List.getElem?_cons_zero]; exact rfl)
            case hfd43 => kernel_rfl
            case hrd43 => kernel_rfl
            case hQd43 => exact fun _ _ _ h => h
            case hyd43 =>
              refine Or.inl ⟨by rfl, ?_⟩
              intro w
              go_simp
              (try with_reducible rfl)
            try simp only [Act.put, List.setIfInBounds_toArray, List.set_cons_zero, List.set_cons_succ]
            refine wpAny_take (i := 6) (oi := ?oid44) (v := ?vd44) ?hod44 (by kernel_rfl) ?hfd44 ?hrd44 ?hQd44 ?hyd44 ?restd44
            case hod44 => (simp only [List.getElem?_toArray, List.getElem?_cons_succ, List.getElem?_cons_zero]; exact rfl)
            case hfd44 => kernel_rfl
            case hrd44 => kernel_rfl
            case hQd44 => exact fun _ _ _ h => h
            case hyd44 =>
              refine Or.inl ⟨by rfl, ?_⟩
              intro w
              go_simp
              (try with_reducible rfl)
            try simp only [Act.put, List.setIfInBounds_toArray, List.set_cons_zero, List.set_cons_succ]
            refine wpAny_take (i := 8) (oi := ?oid45) (v := ?vd45) ?hod45 (by kernel_rfl) ?hfd45 ?hrd45 ?hQd45 ?hyd45 ?restd45
            case hod45 => (simp only [List.getElem?_toArray, List.getElem?_cons_succ, List.getElem?_cons_zero]; exact rfl)
            case hfd45 => kernel_rfl
            case hrd45 => kernel_rfl
            case hQd45 => exact fun _ _ _ h => h
            case hyd45 =>
              refine Or.inl ⟨by rfl, ?_⟩
              intro w
              go_simp
              (try with_reducible rfl)
            try simp only [Act.put, List.setIfInBounds_toArray, List.set_cons_zero, List.set_cons_succ]
            refine wpAny_ready (rs := [7]) (by kernel_rfl) (by simp) ?_
            refine AllReady.cons (o := ?od46) ?hod46 (fun K hK => ?kd46) ?md46
            case hod46 => (simp only [List.getElem?_toArray, List.getElem?_cons_succ, List.getElem?_cons_zero]; exact rfl)
            case kd46 =>
              go_simp
              refine (macTag_any g key none 0 0 [] [] _ (HMX.out.later (by exact hfd40)) Rws.zero (by simp) (by omega) (htw _ (hX _ (by exact hfd40)))).mono ?_
              rintro e Vd46 ⟨rfl, hvd46⟩
              rw [List.flatten_nil]
              unfold tagH
              rw [HTB.out]
              have hfd46 : Below X.heap.size X Vd46 := Below.trans (by exact hfd40) (hvd46.mono (hfd40).size)
              (try dsimp only)
              refine hK _ _ ?_
              clear hK K
              try simp only [Act.put, List.setIfInBounds_toArray, List.set_cons_zero, List.set_cons_succ]
              refine wpAny_ready (rs := [9]) (by kernel_rfl) (by simp) ?_
              refine AllReady.cons (o := ?od47) ?hod47 (fun K hK => ?kd47) ?md47
              case hod47 => (simp only [List.getElem?_toArray, List.getElem?_cons_succ, List.getElem?_cons_zero]; exact rfl)
              case kd47 =>
                go_simp
                refine (rTag_any A0 none n0 c0 0 0 key [] _ (h0w _ (hX _ (by exact hfd46))) Rd.nil (by omega) (by omega)).mono ?_
                rintro e Vd47 ⟨rfl, hvd47⟩
                unfold tagH
                rw [HTB.out]
                have hfd47 : Below X.heap.size X Vd47 := Below.trans (by exact hfd46) (hvd47.mono (hfd46).size)
                (try dsimp only)
                refine hK _ _ ?_
                clear hK K
                try simp only [Act.put, List.setIfInBounds_toArray, List.set_cons_zero, List.set_cons_succ]
                refine wpAny_take (i := 10) (oi := ?oid48) (v := ?vd48) ?hod48 (by kernel_rfl) ?hfd48 ?hrd48 ?hQd48 ?hyd48 ?restd48
                case hod48 => (simp only [List.getElem?_toArray, List.getElem?_cons_succ, List.getElem?_cons_zero]; exact rfl)
                case hfd48 => kernel_rfl
                case hrd48 => kernel_rfl
                case hQd48 => exact fun _ _ _ h => h
                case hyd48 =>
                  refine Or.inl ⟨by rfl, ?_⟩
                  intro w
                  go_simp
                  (try with_reducible rfl)
                try simp only [Act.put, List.setIfInBounds_toArray, List.set_cons_zero, List.set_cons_succ]
                refine wpAny_take (i := 11) (oi := ?oid49) (v := ?vd49) ?hod49 (by kernel_rfl) ?hfd49 ?hrd49 ?hQd49 ?hyd49 ?restd49
                case hod49 => (simp only [List.getElem?_toArray, List.getElem?_cons_succ, List.getElem?_cons_zero]; exact rfl)
                case hfd49 => kernel_rfl
                case hrd49 => kernel_rfl
                case hQd49 => exact fun _ _ _ h => h
                case hyd49 =>
                  refine Or.inl ⟨by rfl, ?_⟩
                  intro w
                  go_simp
                  (try with_reducible rfl)
                try simp only [Act.put, List.setIfInBounds_toArray, List.set_cons_zero, List.set_cons_succ]
                refine wpAny_take (i := 12) (oi := ?oid50) (v := ?vd50) ?hod50 (by kernel_rfl) ?hfd50 ?hrd50 ?hQd50 ?hyd50 ?restd50
                case hod50 => (simp only [List.getElem?_toArray, List.getElem?_cons_succ, List.getElem?_cons_zero]; exact rfl)
                case hfd50 => kernel_rfl
                case hrd50 => kernel_rfl
                case hQd50 => exact fun _ _ _ h => h
                case hyd50 =>
                  refine Or.inl ⟨by rfl, ?_⟩
                  intro w
                  go_simp
                  (try with_reducible rfl)
                try simp only [Act.put, List.setIfInBounds_toArray, List.set_cons_zero, List.set_cons_succ]
                refine wpAny_take (i := 13) (oi := ?oid51) (v := ?vd51) ?hod51 (by kernel_rfl) ?hfd51 ?hrd51 ?hQd51 ?hyd51 ?restd51
                case hod51 => (simp only [List.getElem?_toArray, List.getElem?_cons_succ, List.getElem?_cons_zero]; exact rfl)
                case hfd51 => kernel_rfl
                case hrd51 => kernel_rfl
                case hQd51 => exact fun _ _ _ h => h
                case hyd51 =>
                  refine Or.inl ⟨by rfl, ?_⟩
                  intro w
                  go_simp
                  (try with_reducible rfl)
                try simp only [Act.put, List.setIfInBounds_toArray, List.set_cons_zero, List.set_cons_succ]
                refine wpAny_take (i := 14) (oi := ?oid52) (v := ?vd52) ?hod52 (by kernel_rfl) ?hfd52 ?hrd52 ?hQd52 ?hyd52 ?restd52
                case hod52 => (simp only [List.getElem?_toArray, List.getElem?_cons_succ, List.getElem?_cons_zero]; exact rfl)
                case hfd52 => kernel_rfl
                case hrd52 => kernel_rfl
                case hQd52 => exact fun _ _ _ h => h
                case hyd52 =>
                  refine Or.inl ⟨by rfl, ?_⟩
                  intro w
                  go_simp
                  (try with_reducible rfl)
                try simp only [Act.put, List.setIfInBounds_toArray, List.set_cons_zero, List.set_cons_succ]
                refine wpAny_ready (rs := [15, 17]) (by kernel_rfl) (by simp) ?_
                refine AllReady.cons (o := ?od53) ?hod53 (fun K hK => ?kd53) ?md53
                case hod53 => (simp only [List.getElem?_toArray, List.getElem?_cons_succ, List.getElem?_cons_zero]; exact rfl)
                case kd53 =>
                  refine any_lit1 (by rfl) (.tmp 68) rfl _ _ _ fl (by rfl) (how _ (hX _ (by exact hfd47))) hmo ?_
                  intro Vd53 qq hrd hvd53
                  have hfd53 : Below X.heap.size X Vd53 := Below.trans (by exact hfd47) (hvd53.mono (hfd47).size)
                  (try dsimp only)
                  refine hK _ _ ?_
                  clear hK K
                  try simp only [Act.put, List.setIfInBounds_toArray, List.set_cons_zero, List.set_cons_succ]
                  refine wpAny_ready (rs := [16, 17]) (by kernel_rfl) (by simp) ?_
                  refine AllReady.cons (o := ?od54) ?hod54 (fun K hK => ?kd54) ?md54
                  case hod54 => (simp only [List.getElem?_toArray, List.getElem?_cons_succ, List.getElem?_cons_zero]; exact rfl)
                  case kd54 =>
                    go_simp
                    refine (macTag_any g key _ 1 1 _ [fl] _ (HMX.out.later (by exact hfd53)) (by exact hrd) (by have := HM.out; simp; omega) (by omega) (htw _ (hX _ (by exact hfd53)))).mono ?_
                    rintro e Vd54 ⟨rfl, hvd54⟩
                    rw [flat1]
                    unfold tagH
                    rw [HTA.out]
                    have hfd54 : Below X.heap.size X Vd54 := Below.trans (by exact hfd53) (hvd54.mono (hfd53).size)
                    (try dsimp only)
                    refine hK _ _ ?_
                    clear hK K
                    try simp only [Act.put, List.setIfInBounds_toArray, List.set_cons_zero, List.set_cons_succ]
                    refine wpAny_ready (rs := [17]) (by kernel_rfl) (by simp) ?_
                    refine AllReady.cons (o := ?od55) ?hod55 (fun K hK => ?kd55) ?md55
                    case hod55 => (simp only [List.getElem?_toArray, List.getElem?_cons_succ, List.getElem?_cons_zero]; exact rfl)
                    case kd55 =>
                      refine any_load_mid (by rfl) 28 (.tmp 6) rfl W2.heap.size 0 rfl (tA.map bv) _ (hrg _ (hX _ (by exact hfd54))) Tryd.underlying28 rfl HSZ.out ?_
                      refine hK _ _ ?_
                      clear hK K
                      try simp only [Act.put, List.setIfInBounds_toArray, List.set_cons_zero, List.set_cons_succ]
                      refine wpAny_take (i := 18) (oi := ?oid56) (v := ?vd56) ?hod56 (by kernel_rfl) ?hfd56 ?hrd56 ?hQd56 ?hyd56 ?restd56
                      case hod56 => (simp only [List.getElem?_toArray, List.getElem?_cons_succ, List.getElem?_cons_zero]; exact rfl)
                      case hfd56 => kernel_rfl
                      case hrd56 => kernel_rfl
                      case hQd56 => exact fun _ _ _ h => h
                      case hyd56 =>
                        refine Or.inl ⟨by rfl, ?_⟩
                        intro w
                        go_simp
                        (try with_reducible rfl)
                      try simp only [Act.put, List.setIfInBounds_toArray, List.set_cons_zero, List.set_cons_succ]
                      refine wpAny_take (i := 19) (oi := ?oid57) (v := ?vd57) ?hod57 (by kernel_rfl) ?hfd57 ?hrd57 ?hQd57 ?hyd57 ?restd57
                      case hod57 => (simp only [List.getElem?_toArray, List.getElem?_cons_succ, List.getElem?_cons_zero]; exact rfl)
                      case hfd57 => kernel_rfl
                      case hrd57 => kernel_rfl
                      case hQd57 => exact fun _ _ _ h => h
                      case hyd57 =>
                        refine Or.inl ⟨by rfl, ?_⟩
                        intro w
                        go_simp
                        (try with_reducible rfl)
                      try simp only [Act.put, List.setIfInBounds_toArray, List.set_cons_zero, List.set_cons_succ]
                      refine wpAny_take (i := 20) (oi := ?oid58) (v := ?vd58) ?hod58 (by kernel_rfl) ?hfd58 ?hrd58 ?hQd58 ?hyd58 ?restd58
                      case hod58 => (simp only [List.getElem?_toArray, List.getElem?_cons_succ, List.getElem?_cons_zero]; exact rfl)
                      case hfd58 => kernel_rfl
                      case hrd58 => kernel_rfl
                      case hQd58 => exact fun _ _ _ h => h
                      case hyd58 =>
                        refine Or.inl ⟨by rfl, ?_⟩
                        intro w
                        go_simp
                        (try with_reducible rfl)
                      try simp only [Act.put, List.setIfInBounds_toArray, List.set_cons_zero, List.set_cons_succ]
                      refine wpAny_ready (rs := [21]) (by kernel_rfl) (by simp) ?_
                      refine AllReady.cons (o := ?od59) ?hod59 (fun K hK => ?kd59) ?md59
                      case hod59 => (simp only [List.getElem?_toArray, List.getElem?_cons_succ, List.getElem?_cons_zero]; exact rfl)
                      case kd59 =>
                        go_simp
                        refine (works_any _ (htw _ (hX _ (by exact hfd54)))).mono ?_
                        rintro e Vd59 ⟨rfl, hvd59⟩
                        have hfd59 : Below X.heap.size X Vd59 := Below.trans (by exact hfd54) (hvd59.mono (hfd54).size)
                        (try dsimp only)
                        refine hK _ _ ?_
                        clear hK K
                        try simp only [Act.put, List.setIfInBounds_toArray, List.set_cons_zero, List.set_cons_succ]
                        refine wpAny_take (i := 22) (oi := ?oid60) (v := ?vd60) ?hod60 (by kernel_rfl) ?hfd60 ?hrd60 ?hQd60 ?hyd60 ?restd60
                        case hod60 => (simp only [List.getElem?_toArray, List.getElem?_cons_succ, List.getElem?_cons_zero]; exact rfl)
                        case hfd60 => kernel_rfl
                        case hrd60 => kernel_rfl
                        case hQd60 => exact fun _ _ _ h => h
                        case hyd60 =>
                          refine Or.inl ⟨by rfl, ?_⟩
                          intro w
                          go_simp
                          (try with_reducible rfl)
                        try simp only [Act.put, List.setIfInBounds_toArray, List.set_cons_zero, List.set_cons_succ]
                        refine wpAny_take (i := 23) (oi := ?oid61) (v := ?vd61) ?hod61 (by kernel_rfl) ?hfd61 ?hrd61 ?hQd61 ?hyd61 ?restd61
                        case hod61 => (simp only [List.getElem?_toArray, List.getElem?_cons_succ, List.getElem?_cons_zero]; exact rfl)
                        case hfd61 => kernel_rfl
                        case hrd61 => kernel_rfl
                        case hQd61 => exact fun _ _ _ h => h
                        case hyd61 =>
                          refine Or.inl ⟨by rfl, ?_⟩
                          intro w
                          go_simp
                          (try with_reducible rfl)
                        try simp only [Act.put, List.setIfInBounds_toArray, List.set_cons_zero, List.set_cons_succ]
                        refine wpAny_done (by kernel_rfl) ?_ _
                        repeat go_step
                        go_ret
                        exact ⟨rfl, HWU.out.trans (Below.mono (hX _ (by exact hfd59)) hZw1)⟩
                      exact AllReady.nil
                    exact AllReady.nil
                  refine AllReady.cons (o := ?od62) ?hod62 (fun K hK => ?kd62) ?md62
                  case hod62 => (simp only [List.getElem?_toArray, List.getElem?_cons_succ, List.getElem?_cons_zero]; exact rfl)
                  case kd62 =>
                    refine any_load_mid (by rfl) 28 (.tmp 6) rfl W2.heap.size 0 rfl (tA.map bv) _ (hrg _ (hX _ (by exact hfd53))) Tryd.underlying28 rfl HSZ.out ?_
                    refine hK _ _ ?_
                    clear hK K
                    try simp only [Act.put, List.setIfInBounds_toArray, List.set_cons_zero, List.set_cons_succ]
                    refine wpAny_ready (rs := [16]) (by kernel_rfl) (by simp) ?_
                    refine AllReady.cons (o := ?od63) ?hod63 (fun K hK => ?kd63) ?md63
                    case hod63 => (simp only [List.getElem?_toArray, List.getElem?_cons_succ, List.getElem?_cons_zero]; exact rfl)
                    case kd63 =>
                      go_simp
                      refine (macTag_any g key _ 1 1 _ [fl] _ (HMX.out.later (by exact hfd53)) (by exact hrd) (by have := HM.out; simp; omega) (by omega) (htw _ (hX _ (by exact hfd53)))).mono ?_
                      rintro e Vd63 ⟨rfl, hvd63⟩
                      rw [flat1]
                      unfold tagH
                      rw [HTA.out]
                      have hfd63 : Below X.heap.size X Vd63 := Below.trans (by exact hfd53) (hvd63.mono (hfd53).size)
                      (try dsimp only)
                      refine hK _ _ ?_
                      clear hK K
                      try simp only [Act.put, List.setIfInBounds_toArray, List.set_cons_zero, List.set_cons_succ]
                      refine wpAny_take (i := 18) (oi := ?oid64) (v := ?vd64) ?hod64 (by kernel_rfl) ?hfd64 ?hrd64 ?hQd64 ?hyd64 ?restd64
                      case hod64 => (simp only [List.getElem?_toArray, List.getElem?_cons_succ, List.getElem?_cons_zero]; exact rfl)
                      case hfd64 => kernel_rfl
                      case hrd64 => kernel_rfl
                      case hQd64 => exact fun _ _ _ h => h
                      case hyd64 =>
                        refine Or.inl ⟨by rfl, ?_⟩
                        intro w
                        go_simp
                        (try with_reducible rfl)
                      try simp only [Act.put, List.setIfInBounds_toArray, List.set_cons_zero, List.set_cons_succ]
                      refine wpAny_take (i := 19) (oi := ?oid65) (v := ?vd65) ?hod65 (by kernel_rfl) ?hfd65 ?hrd65 ?hQd65 ?hyd65 ?restd65
                      case hod65 => (simp only [List.getElem?_toArray, List.getElem?_cons_succ, List.getElem?_cons_zero]; exact rfl)
                      case hfd65 => kernel_rfl
                      case hrd65 => kernel_rfl
                      case hQd65 => exact fun _ _ _ h => h
                      case hyd65 =>
                        refine Or.inl ⟨by rfl, ?_⟩
                        intro w
                        go_simp
                        (try with_reducible rfl)
                      try simp only [Act.put, List.setIfInBounds_toArray, List.set_cons_zero, List.set_cons_succ]
                      refine wpAny_take (i := 20) (oi := ?oid66) (v := ?vd66) ?hod66 (by kernel_rfl) ?hfd66 ?hrd66 ?hQd66 ?hyd66 ?restd66
                      case hod66 => (simp only [List.getElem?_toArray, List.getElem?_cons_succ, List.getElem?_cons_zero]; exact rfl)
                      case hfd66 => kernel_rfl
                      case hrd66 => kernel_rfl
                      case hQd66 => exact fun _ _ _ h => h
                      case hyd66 =>
                        refine Or.inl ⟨by rfl, ?_⟩
                        intro w
                        go_simp
                        (try with_reducible rfl)
                      try simp only [Act.put, List.setIfInBounds_toArray, List.set_cons_zero, List.set_cons_succ]
                      refine wpAny_ready (rs := [21]) (by kernel_rfl) (by simp) ?_
                      refine AllReady.cons (o := ?od67) ?hod67 (fun K hK => ?kd67) ?md67
                      case hod67 => (simp only [List.getElem?_toArray, List.getElem?_cons_succ, List.getElem?_cons_zero]; exact rfl)
                      case kd67 =>
                        go_simp
                        refine (works_any _ (htw _ (hX _ (by exact hfd63)))).mono ?_
                        rintro e Vd67 ⟨rfl, hvd67⟩
                        have hfd67 : Below X.heap.size X Vd67 := Below.trans (by exact hfd63) (hvd67.mono (hfd63).size)
                        (try dsimp only)
                        refine hK _ _ ?_
                        clear hK K
                        try simp only [Act.put, List.setIfInBounds_toArray, List.set_cons_zero, List.set_cons_succ]
                        refine wpAny_take (i := 22) (oi := ?oid68) (v := ?vd68) ?hod68 (by kernel_rfl) ?hfd68 ?hrd68 ?hQd68 ?hyd68 ?restd68
                        case hod68 => (simp only [List.getElem?_toArray, List.getElem?_cons_succ, List.getElem?_cons_zero]; exact rfl)
                        case hfd68 => kernel_rfl
                        case hrd68 => kernel_rfl
                        case hQd68 => exact fun _ _ _ h => h
                        case hyd68 =>
                          refine Or.inl ⟨by rfl, ?_⟩
                          intro w
                          go_simp
                          (try with_reducible rfl)
                        try simp only [Act.put, List.setIfInBounds_toArray, List.set_cons_zero, List.set_cons_succ]
                        refine wpAny_take (i := 23) (oi := ?oid69) (v := ?vd69) ?hod69 (by kernel_rfl) ?hfd69 ?hrd69 ?hQd69 ?hyd69 ?restd69
                        case hod69 => (simp only [List.getElem?_toArray, List.getElem?_cons_succ, List.getElem?_cons_zero]; exact rfl)
                        case hfd69 => kernel_rfl
                        case hrd69 => kernel_rfl
                        case hQd69 => exact fun _ _ _ h => h
                        case hyd69 =>
                          refine Or.inl ⟨by rfl, ?_⟩
                          intro w
                          go_simp
                          (try with_reducible rfl)
                        try simp only [Act.put, List.setIfInBounds_toArray, List.set_cons_zero, List.set_cons_succ]
                        refine wpAny_done (by kernel_rfl) ?_ _
                        repeat go_step
                        go_ret
                        exact ⟨rfl, HWU.out.trans (Below.mono (hX _ (by exact hfd67)) hZw1)⟩
                      exact AllReady.nil
                    exact AllReady.nil
                  exact AllReady.nil
                refine AllReady.cons (o := ?od70) ?hod70 (fun K hK => ?kd70) ?md70
                case hod70 => (simp only [List.getElem?_toArray, List.getElem?_cons_succ, List.getElem?_cons_zero]; exact rfl)
                case kd70 =>
                  refine any_load_mid (by rfl) 28 (.tmp 6) rfl W2.heap.size 0 rfl (tA.map bv) _ (hrg _ (hX _ (by exact hfd47))) Tryd.underlying28 rfl HSZ.out ?_
                  refine hK _ _ ?_
                  clear hK K
                  try simp only [Act.put, List.setIfInBounds_toArray, List.set_cons_zero, List.set_cons_succ]
                  refine wpAny_ready (rs := [15]) (by kernel_rfl) (by simp) ?_
                  refine AllReady.cons (o := ?od71) ?hod71 (fun K hK => ?kd71) ?md71
                  case hod71 => (simp only [List.getElem?_toArray, List.getElem?_cons_succ, List.getElem?_cons_zero]; exact rfl)
                  case kd71 =>
                    refine any_lit1 (by rfl) (.tmp 68) rfl _ _ _ fl (by rfl) (how _ (hX _ (by exact hfd47))) hmo ?_
                    intro Vd71 qq hrd hvd71
                    have hfd71 : Below X.heap.size X Vd71 := Below.trans (by exact hfd47) (hvd71.mono (hfd47).size)
                    (try dsimp only)
                    refine hK _ _ ?_
                    clear hK K
                    try simp only [Act.put, List.setIfInBounds_toArray, List.set_cons_zero, List.set_cons_succ]
                    refine wpAny_ready (rs := [16]) (by kernel_rfl) (by simp) ?_
                    refine AllReady.cons (o := ?od72) ?hod72 (fun K hK => ?kd72) ?md72
                    case hod72 => (simp only [List.getElem?_toArray, List.getElem?_cons_succ, List.getElem?_cons_zero]; exact rfl)
                    case kd72 =>
                      go_simp
                      refine (macTag_any g key _ 1 1 _ [fl] _ (HMX.out.later (by exact hfd71)) (by exact hrd) (by have := HM.out; simp; omega) (by omega) (htw _ (hX _ (by exact hfd71)))).mono ?_
                      rintro e Vd72 ⟨rfl, hvd72⟩
                      rw [flat1]
                      unfold tagH
                      rw [HTA.out]
                      have hfd72 : Below X.heap.size X Vd72 := Below.trans (by exact hfd71) (hvd72.mono (hfd71).size)
                      (try dsimp only)
                      refine hK _ _ ?_
                      clear hK K
                      try simp only [Act.put, List.setIfInBounds_toArray, List.set_cons_zero, List.set_cons_succ]
                      refine wpAny_take (i := 18) (oi := ?oid73) (v := ?vd73) ?hod73 (by kernel_rfl) ?hfd73 ?hrd73 ?hQd73 ?hyd73 ?restd73
                      case hod73 => (simp only [List.getElem?_toArray, List.getElem?_cons_succ, List.getElem?_cons_zero]; exact rfl)
                      case hfd73 => kernel_rfl
                      case hrd73 => kernel_rfl
                      case hQd73 => exact fun _ _ _ h => h
                      case hyd73 =>
                        refine Or.inl ⟨by rfl, ?_⟩
                        intro w
                        go_simp
                        (try with_reducible rfl)
                      try simp only [Act.put, List.setIfInBounds_toArray, List.set_cons_zero, List.set_cons_succ]
                      refine wpAny_take (i := 19) (oi := ?oid74) (v := ?vd74) ?hod74 (by kernel_rfl) ?hfd74 ?hrd74 ?hQd74 ?hyd74 ?restd74
                      case hod74 => (simp only [List.getElem?_toArray, List.getElem?_cons_succ, List.getElem?_cons_zero]; exact rfl)
                      case hfd74 => kernel_rfl
                      case hrd74 => kernel_rfl
                      case hQd74 => exact fun _ _ _ h => h
                      case hyd74 =>
                        refine Or.inl ⟨by rfl, ?_⟩
                        intro w
                        go_simp
                        (try with_reducible rfl)
                      try simp only [Act.put, List.setIfInBounds_toArray, List.set_cons_zero, List.set_cons_succ]
                      refine wpAny_take (i := 20) (oi := ?oid75) (v := ?vd75) ?hod75 (by kernel_rfl) ?hfd75 ?hrd75 ?hQd75 ?hyd75 ?restd75
                      case hod75 => (simp only [List.getElem?_toArray, List.getElem?_cons_succ, List.getElem?_cons_zero]; exact rfl)
                      case hfd75 => kernel_rfl
                      case hrd75 => kernel_rfl
                      case hQd75 => exact fun _ _ _ h => h
                      case hyd75 =>
                        refine Or.inl ⟨by rfl, ?_⟩
                        intro w
                        go_simp
                        (try with_reducible rfl)
                      try simp only [Act.put, List.setIfInBounds_toArray, List.set_cons_zero, List.set_cons_succ]
                      refine wpAny_ready (rs := [21]) (by kernel_rfl) (by simp) ?_
                      refine AllReady.cons (o := ?od76) ?hod76 (fun K hK => ?kd76) ?md76
                      case hod76 => (simp only [List.getElem?_toArray, List.getElem?_cons_succ, List.getElem?_cons_zero]; exact rfl)
                      case kd76 =>
                        go_simp
                        refine (works_any _ (htw _ (hX _ (by exact hfd72)))).mono ?_
                        rintro e Vd76 ⟨rfl, hvd76⟩
                        have hfd76 : Below X.heap.size X Vd76 := Below.trans (by exact hfd72) (hvd76.mono (hfd72).size)
                        (try dsimp only)
                        refine hK _ _ ?_
                        clear hK K
                        try simp only [Act.put, List.setIfInBounds_toArray, List.set_cons_zero, List.set_cons_succ]
                        refine wpAny_take (i := 22) (oi := ?oid77) (v := ?vd77) ?hod77 (by kernel_rfl) ?hfd77 ?hrd77 ?hQd77 ?hyd77 ?restd77
                        case hod77 => (simp only [List.getElem?_toArray, List.getElem?_cons_succ, List.getElem?_cons_zero]; exact rfl)
                        case hfd77 => kernel_rfl
                        case hrd77 => kernel_rfl
                        case hQd77 => exact fun _ _ _ h => h
                        case hyd77 =>
                          refine Or.inl ⟨by rfl, ?_⟩
                          intro w
                          go_simp
                          (try with_reducible rfl)
                        try simp only [Act.put, List.setIfInBounds_toArray, List.set_cons_zero, List.set_cons_succ]
                        refine wpAny_take (i := 23) (oi := ?oid78) (v := ?vd78) ?hod78 (by kernel_rfl) ?hfd78 ?hrd78 ?hQd78 ?hyd78 ?restd78
                        case hod78 => (simp only [List.getElem?_toArray, List.getElem?_cons_succ, List.getElem?_cons_zero]; exact rfl)
                        case hfd78 => kernel_rfl
                        case hrd78 => kernel_rfl
                        case hQd78 => exact fun _ _ _ h => h
                        case hyd78 =>
                          refine Or.inl ⟨by rfl, ?_⟩
                          intro w
                          go_simp
                          (try with_reducible rfl)
                        try simp only [Act.put, List.setIfInBounds_toArray, List.set_cons_zero, List.set_cons_succ]
                        refine wpAny_done (by kernel_rfl) ?_ _
                        repeat go_step
                        go_ret
                        exact ⟨rfl, HWU.out.trans (Below.mono (hX _ (by exact hfd76)) hZw1)⟩
                      exact AllReady.nil
                    exact AllReady.nil
                  exact AllReady.nil
                exact AllReady.nil
              exact AllReady.nil
            exact AllReady.nil
          exact AllReady.nil
        refine AllReady.cons (o := ?od79) ?hod79 (fun K hK => ?kd79) ?md79
        case hod79 => (simp only [List.getElem?_toArray, List.getElem?_cons_succ, List.getElem?_cons_zero]; exact rfl)
        case kd79 =>
          refine any_load_mid (by rfl) 28 (.tmp 6) rfl W2.heap.size 0 rfl (tA.map bv) _ (hrg _ (hX _ (by exact hf0))) Tryd.underlying28 rfl HSZ.out ?_
          refine hK _ _ ?_
          clear hK K
          try simp only [Act.put, List.setIfInBounds_toArray, List.set_cons_zero, List.set_cons_succ]
          refine wpAny_ready (rs := [2]) (by kernel_rfl) (by simp) ?_
          refine AllReady.cons (o := ?od80) ?hod80 (fun K hK => ?kd80) ?md80
          case hod80 => (simp only [List.getElem?_toArray, List.getElem?_cons_succ, List.getElem?_cons_zero]; exact rfl)
          case kd80 =>
            go_simp
            refine (macTag_any g key A n c R sl _ (HMX.out.later (by exact hf0)) (hrw _ (hX _ (by exact hf0))) (by have := HFL.out; omega) (by omega) (htw _ (hX _ (by exact hf0)))).mono ?_
            rintro e Vd80 ⟨rfl, hvd80⟩
            rw [HFE.out]
            unfold tagH
            rw [HTA.out]
            have hfd80 : Below X.heap.size X Vd80 := Below.trans (by exact hf0) (hvd80.mono (hf0).size)
            (try dsimp only)
            refine hK _ _ ?_
            clear hK K
            try simp only [Act.put, List.setIfInBounds_toArray, List.set_cons_zero, List.set_cons_succ]
            refine wpAny_take (i := 4) (oi := ?oid81) (v := ?vd81) ?hod81 (by kernel_rfl) ?hfd81 ?hrd81 ?hQd81 ?hyd81 ?restd81
            case hod81 => (simp only [List.getElem?_toArray, List.getElem?_cons_succ, List.getElem?_cons_zero]; exact rfl)
            case hfd81 => kernel_rfl
            case hrd81 => kernel_rfl
            case hQd81 => exact fun _ _ _ h => h
            case hyd81 =>
              refine Or.inl ⟨by rfl, ?_⟩
              intro w
              go_simp
              (try with_reducible rfl)
            try simp only [Act.put, List.setIfInBounds_toArray, List.set_cons_zero, List.set_cons_succ]
            refine wpAny_take (i := 5) (oi := ?oid82) (v := ?vd82) ?hod82 (by kernel_rfl) ?hfd82 ?hrd82 ?hQd82 ?hyd82 ?restd82
            case hod82 => (simp only [List.getElem?_toArray, List.getElem?_cons_succ, List.getElem?_cons_zero]; exact rfl)
            case hfd82 => kernel_rfl
            case hrd82 => kernel_rfl
            case hQd82 => exact fun _ _ _ h => h
            case hyd82 =>
              refine Or.inl ⟨by rfl, ?_⟩
              intro w
              go_simp
              (try with_reducible rfl)
            try simp only [Act.put, List.setIfInBounds_toArray, List.set_cons_zero, List.set_cons_succ]
            refine wpAny_take (i := 6) (oi := ?oid83) (v := ?vd83) ?hod83 (by kernel_rfl) ?hfd83 ?hrd83 ?hQd83 ?hyd83 ?restd83
            case hod83 => (simp only [List.getElem?_toArray, List.getElem?_cons_succ, List.getElem?_cons_zero]; exact rfl)
            case hfd83 => kernel_rfl
            case hrd83 => kernel_rfl
            case hQd83 => exact fun _ _ _ h => h
            case hyd83 =>
              refine Or.inl ⟨by rfl, ?_⟩
              intro w
              go_simp
              (try with_reducible rfl)
            try simp only [Act.put, List.setIfInBounds_toArray, List.set_cons_zero, List.set_cons_succ]
            refine wpAny_take (i := 8) (oi := ?oid84) (v := ?vd84) ?hod84 (by kernel_rfl) ?hfd84 ?hrd84 ?hQd84 ?hyd84 ?restd84
            case hod84 => (simp only [List.getElem?_toArray, List.getElem?_cons_succ, List.getElem?_cons_zero]; exact rfl)
            case hfd84 => kernel_rfl
            case hrd84 => kernel_rfl
            case hQd84 => exact fun _ _ _ h => h
            case hyd84 =>
              refine Or.inl ⟨by rfl, ?_⟩
              intro w
              go_simp
              (try with_reducible rfl)
            try simp only [Act.put, List.setIfInBounds_toArray, List.set_cons_zero, List.set_cons_succ]
            refine wpAny_ready (rs := [7]) (by kernel_rfl) (by simp) ?_
            refine AllReady.cons (o := ?od85) ?hod85 (fun K hK => ?kd85) ?md85
            case hod85 => (simp only [List.getElem?_toArray, List.getElem?_cons_succ, List.getElem?_cons_zero]; exact rfl)
            case kd85 =>
              go_simp
              refine (macTag_any g key none 0 0 [] [] _ (HMX.out.later (by exact hfd80)) Rws.zero (by simp) (by omega) (htw _ (hX _ (by exact hfd80)))).mono ?_
              rintro e Vd85 ⟨rfl, hvd85⟩
              rw [List.flatten_nil]
              unfold tagH
              rw [HTB.out]
              have hfd85 : Below X.heap.size X Vd85 := Below.trans (by exact hfd80) (hvd85.mono (hfd80).size)
              (try dsimp only)
              refine hK _ _ ?_
              clear hK K
              try simp only [Act.put, List.setIfInBounds_toArray, List.set_cons_zero, List.set_cons_succ]
              refine wpAny_ready (rs := [9]) (by kernel_rfl) (by simp) ?_
              refine AllReady.cons (o := ?od86) ?hod86 (fun K hK => ?kd86) ?md86
              case hod86 => (simp only [List.getElem?_toArray, List.getElem?_cons_succ, List.getElem?_cons_zero]; exact rfl)
              case kd86 =>
                go_simp
                refine (rTag_any A0 none n0 c0 0 0 key [] _ (h0w _ (hX _ (by exact hfd85))) Rd.nil (by omega) (by omega)).mono ?_
                rintro e Vd86 ⟨rfl, hvd86⟩
                unfold tagH
                rw [HTB.out]
                have hfd86 : Below X.heap.size X Vd86 := Below.trans (by exact hfd85) (hvd86.mono (hfd85).size)
                (try dsimp only)
                refine hK _ _ ?_
                clear hK K
                try simp only [Act.put, List.setIfInBounds_toArray, List.set_cons_zero, List.set_cons_succ]
                refine wpAny_take (i := 10) (oi := ?oid87) (v := ?vd87) ?hod87 (by kernel_rfl) ?hfd87 ?hrd87 ?hQd87 ?hyd87 ?restd87
                case hod87 => (simp only [List.getElem?_toArray, List.getElem?_cons_succ, List.getElem?_cons_zero]; exact rfl)
                case hfd87 => kernel_rfl
                case hrd87 => kernel_rfl
                case hQd87 => exact fun _ _ _ h => h
                case hyd87 =>
                  refine Or.inl ⟨by rfl, ?_⟩
                  intro w
                  go_simp
                  (try with_reducible rfl)
                try simp only [Act.put, List.setIfInBounds_toArray, List.set_cons_zero, List.set_cons_succ]
                refine wpAny_take (i := 11) (oi := ?oid88) (v := ?vd88) ?hod88 (by kernel_rfl) ?hfd88 ?hrd88 ?hQd88 ?hyd88 ?restd88
                case hod88 => (simp only [List.getElem?_toArray, List.getElem?_cons_succ, List.getElem?_cons_zero]; exact rfl)
                case hfd88 => kernel_rfl
                case hrd88 => kernel_rfl
                case hQd88 => exact fun _ _ _ h => h
                case hyd88 =>
                  refine Or.inl ⟨by rfl, ?_⟩
                  intro w
                  go_simp
                  (try with_reducible rfl)
                try simp only [Act.put, List.setIfInBounds_toArray, List.set_cons_zero, List.set_cons_succ]
                refine wpAny_take (i := 12) (oi := ?oid89) (v := ?vd89) ?hod89 (by kernel_rfl) ?hfd89 ?hrd89 ?hQd89 ?hyd89 ?restd89
                case hod89 => (simp only [List.getElem?_toArray, List.getElem?_cons_succ, List.getElem?_cons_zero]; exact rfl)
                case hfd89 => kernel_rfl
                case hrd89 => kernel_rfl
                case hQd89 => exact fun _ _ _ h => h
                case hyd89 =>
                  refine Or.inl ⟨by rfl, ?_⟩
                  intro w
                  go_simp
                  (try with_reducible rfl)
                try simp only [Act.put, List.setIfInBounds_toArray, List.set_cons_zero, List.set_cons_succ]
                refine wpAny_take (i := 13) (oi := ?oid90) (v := ?vd90) ?hod90 (by kernel_rfl) ?hfd90 ?hrd90 ?hQd90 ?hyd90 ?restd90
                case hod90 => (simp only [List.getElem?_toArray, List.getElem?_cons_succ, List.getElem?_cons_zero]; exact rfl)
                case hfd90 => kernel_rfl
                case hrd90 => kernel_rfl
                case hQd90 => exact fun _ _ _ h => h
                case hyd90 =>
                  refine Or.inl ⟨by rfl, ?_⟩
                  intro w
                  go_simp
                  (try with_reducible rfl)
                try simp only [Act.put, List.setIfInBounds_toArray, List.set_cons_zero, List.set_cons_succ]
                refine wpAny_take (i := 14) (oi := ?oid91) (v := ?vd91) ?hod91 (by kernel_rfl) ?hfd91 ?hrd91 ?hQd91 ?hyd91 ?restd91
                case hod91 => (simp only [List.getElem?_toArray, List.getElem?_cons_succ, List.getElem?_cons_zero]; exact rfl)
                case hfd91 => kernel_rfl
                case hrd91 => kernel_rfl
                case hQd91 => exact fun _ _ _ h => h
                case hyd91 =>
                  refine Or.inl ⟨by rfl, ?_⟩
                  intro w
                  go_simp
                  (try with_reducible rfl)
                try simp only [Act.put, List.setIfInBounds_toArray, List.set_cons_zero, List.set_cons_succ]
                refine wpAny_ready (rs := [15, 17]) (by kernel_rfl) (by simp) ?_
                refine AllReady.cons (o := ?od92) ?hod92 (fun K hK => ?kd92) ?md92
                case hod92 => (simp only [List.getElem?_toArray, List.getElem?_cons_succ, List.getElem?_cons_zero]; exact rfl)
                case kd92 =>
                  refine any_lit1 (by rfl) (.tmp 68) rfl _ _ _ fl (by rfl) (how _ (hX _ (by exact hfd86))) hmo ?_
                  intro Vd92 qq hrd hvd92
                  have hfd92 : Below X.heap.size X Vd92 := Below.trans (by exact hfd86) (hvd92.mono (hfd86).size)
                  (try dsimp only)
                  refine hK _ _ ?_
                  clear hK K
                  try simp only [Act.put, List.setIfInBounds_toArray, List.set_cons_zero, List.set_cons_succ]
                  refine wpAny_ready (rs := [16, 17]) (by kernel_rfl) (by simp) ?_
                  refine AllReady.cons (o := ?od93) ?hod93 (fun K hK => ?kd93) ?md93
                  case hod93 => (simp only [List.getElem?_toArray, List.getElem?_cons_succ, List.getElem?_cons_zero]; exact rfl)
                  case kd93 =>
                    go_simp
                    refine (macTag_any g key _ 1 1 _ [fl] _ (HMX.out.later (by exact hfd92)) (by exact hrd) (by have := HM.out; simp; omega) (by omega) (htw _ (hX _ (by exact hfd92)))).mono ?_
                    rintro e Vd93 ⟨rfl, hvd93⟩
                    rw [flat1]
                    unfold tagH
                    rw [HTA.out]
                    have hfd93 : Below X.heap.size X Vd93 := Below.trans (by exact hfd92) (hvd93.mono (hfd92).size)
                    (try dsimp only)
                    refine hK _ _ ?_
                    clear hK K
                    try simp only [Act.put, List.setIfInBounds_toArray, List.set_cons_zero, List.set_cons_succ]
                    refine wpAny_ready (rs := [17]) (by kernel_rfl) (by simp) ?_
                    refine AllReady.cons (o := ?od94) ?hod94 (fun K hK => ?kd94) ?md94
                    case hod94 => (simp only [List.getElem?_toArray, List.getElem?_cons_succ, List.getElem?_cons_zero]; exact rfl)
                    case kd94 =>
                      refine any_load_mid (by rfl) 28 (.tmp 6) rfl W2.heap.size 0 rfl (tA.map bv) _ (hrg _ (hX _ (by exact hfd93))) Tryd.underlying28 rfl HSZ.out ?_
                      refine hK _ _ ?_
                      clear hK K
                      try simp only [Act.put, List.setIfInBounds_toArray, List.set_cons_zero, List.set_cons_succ]
                      refine wpAny_take (i := 18) (oi := ?oid95) (v := ?vd95) ?hod95 (by kernel_rfl) ?hfd95 ?hrd95 ?hQd95 ?hyd95 ?restd95
                      case hod95 => (simp only [List.getElem?_toArray, List.getElem?_cons_succ, List.getElem?_cons_zero]; exact rfl)
                      case hfd95 => kernel_rfl
                      case hrd95 => kernel_rfl
                      case hQd95 => exact fun _ _ _ h => h
                      case hyd95 =>
                        refine Or.inl ⟨by rfl, ?_⟩
                        intro w
                        go_simp
                        (try with_reducible rfl)
                      try simp only [Act.put, List.setIfInBounds_toArray, List.set_cons_zero, List.set_cons_succ]
                      refine wpAny_take (i := 19) (oi := ?oid96) (v := ?vd96) ?hod96 (by kernel_rfl) ?hfd96 ?hrd96 ?hQd96 ?hyd96 ?restd96
                      case hod96 => (simp only [List.getElem?_toArray, List.getElem?_cons_succ, List.getElem?_cons_zero]; exact rfl)
                      case hfd96 => kernel_rfl
                      case hrd96 => kernel_rfl
                      case hQd96 => exact fun _ _ _ h => h
                      case hyd96 =>
                        refine Or.inl ⟨by rfl, ?_⟩
                        intro w
                        go_simp
                        (try with_reducible rfl)
                      try simp only [Act.put, List.setIfInBounds_toArray, List.set_cons_zero, List.set_cons_succ]
                      refine wpAny_take (i := 20) (oi := ?oid97) (v := ?vd97) ?hod97 (by kernel_rfl) ?hfd97 ?hrd97 ?hQd97 ?hyd97 ?restd97
                      case hod97 => (simp only [List.getElem?_toArray, List.getElem?_cons_succ, List.getElem?_cons_zero]; exact rfl)
                      case hfd97 => kernel_rfl
                      case hrd97 => kernel_rfl
                      case hQd97 => exact fun _ _ _ h => h
                      case hyd97 =>
                        refine Or.inl ⟨by rfl, ?_⟩
                        intro w
                        go_simp
                        (try with_reducible rfl)
                      try simp only [Act.put, List.setIfInBounds_toArray, List.set_cons_zero, List.set_cons_succ]
                      refine wpAny_ready (rs := [21]) (by kernel_rfl) (by simp) ?_
                      refine AllReady.cons (o := ?od98) ?hod98 (fun K hK => ?kd98) ?md98
                      case hod98 => (simp only [List.getElem?_toArray, List.getElem?_cons_succ, List.getElem?_cons_zero]; exact rfl)
                      case kd98 =>
                        go_simp
                        refine (works_any _ (htw _ (hX _ (by exact hfd93)))).mono ?_
                        rintro e Vd98 ⟨rfl, hvd98⟩
                        have hfd98 : Below X.heap.size X Vd98 := Below.trans (by exact hfd93) (hvd98.mono (hfd93).size)
                        (try dsimp only)
                        refine hK _ _ ?_
                        clear hK K
                        try simp only [Act.put, List.setIfInBounds_toArray, List.set_cons_zero, List.set_cons_succ]
                        refine wpAny_take (i := 22) (oi := ?oid99) (v := ?vd99) ?hod99 (by kernel_rfl) ?hfd99 ?hrd99 ?hQd99 ?hyd99 ?restd99
                        case hod99 => (simp only [List.getElem?_toArray, List.getElem?_cons_succ, List.getElem?_cons_zero]; exact rfl)
                        case hfd99 => kernel_rfl
                        case hrd99 => kernel_rfl
                        case hQd99 => exact fun _ _ _ h => h
                        case hyd99 =>
                          refine Or.inl ⟨by rfl, ?_⟩
                          intro w
                          go_simp
                          (try with_reducible rfl)
                        try simp only [Act.put, List.setIfInBounds_toArray, List.set_cons_zero, List.set_cons_succ]
                        refine wpAny_take (i := 23) (oi := ?oid100) (v := ?vd100) ?hod100 (by kernel_rfl) ?hfd100 ?hrd100 ?hQd100 ?hyd100 ?restd100
                        case hod100 => (simp only [List.getElem?_toArray, List.getElem?_cons_succ, List.getElem?_cons_zero]; exact rfl)
                        case hfd100 => kernel_rfl
                        case hrd100 => kernel_rfl
                        case hQd100 => exact fun _ _ _ h => h
                        case hyd100 =>
                          refine Or.inl ⟨by rfl, ?_⟩
                          intro w
                          go_simp
                          (try with_reducible rfl)
                        try simp only [Act.put, List.setIfInBounds_toArray, List.set_cons_zero, List.set_cons_succ]
                        refine wpAny_done (by kernel_rfl) ?_ _
                        repeat go_step
                        go_ret
                        exact ⟨rfl, HWU.out.trans (Below.mono (hX _ (by exact hfd98)) hZw1)⟩
                      exact AllReady.nil
                    exact AllReady.nil
                  refine AllReady.cons (o := ?od101) ?hod101 (fun K hK => ?kd101) ?md101
                  case hod101 => (simp only [List.getElem?_toArray, List.getElem?_cons_succ, List.getElem?_cons_zero]; exact rfl)
                  case kd101 =>
                    refine any_load_mid (by rfl) 28 (.tmp 6) rfl W2.heap.size 0 rfl (tA.map bv) _ (hrg _ (hX _ (by exact hfd92))) Tryd.underlying28 rfl HSZ.out ?_
                    refine hK _ _ ?_
                    clear hK K
                    try simp only [Act.put, List.setIfInBounds_toArray, List.set_cons_zero, List.set_cons_succ]
                    refine wpAny_ready (rs := [16]) (by kernel_rfl) (by simp) ?_
                    refine AllReady.cons (o := ?od102) ?hod102 (fun K hK => ?kd102) ?md102
                    case hod102 => (simp only [List.getElem?_toArray, List.getElem?_cons_succ, List.getElem?_cons_zero]; exact rfl)
                    case kd102 =>
                      go_simp
                      refine (macTag_any g key _ 1 1 _ [fl] _ (HMX.out.later (by exact hfd92)) (by exact hrd) (by have := HM.out; simp; omega) (by omega) (htw _ (hX _ (by exact hfd92)))).mono ?_
                      rintro e Vd102 ⟨rfl, hvd102⟩
                      rw [flat1]
                      unfold tagH
                      rw [HTA.out]
                      have hfd102 : Below X.heap.size X Vd102 := Below.trans (by exact hfd92) (hvd102.mono (hfd92).size)
                      (try dsimp only)
                      refine hK _ _ ?_
                      clear hK K
                      try simp only [Act.put, List.setIfInBounds_toArray, List.set_cons_zero, List.set_cons_succ]
                      refine wpAny_take (i := 18) (oi := ?oid103) (v := ?vd103) ?hod103 (by kernel_rfl) ?hfd103 ?hrd103 ?hQd103 ?hyd103 ?restd103
                      case hod103 => (simp only [List.getElem?_toArray, List.getElem?_cons_succ, List.getElem?_cons_zero]; exact rfl)
                      case hfd103 => kernel_rfl
                      case hrd103 => kernel_rfl
                      case hQd103 => exact fun _ _ _ h => h
                      case hyd103 =>
                        refine Or.inl ⟨by rfl, ?_⟩
                        intro w
                        go_simp
                        (try with_reducible rfl)
                      try simp only [Act.put, List.setIfInBounds_toArray, List.set_cons_zero, List.set_cons_succ]
                      refine wpAny_take (i := 19) (oi := ?oid104) (v := ?vd104) ?hod104 (by kernel_rfl) ?hfd104 ?hrd104 ?hQd104 ?hyd104 ?restd104
                      case hod104 => (simp only [List.getElem?_toArray, List.getElem?_cons_succ, List.getElem?_cons_zero]; exact rfl)
                      case hfd104 => kernel_rfl
                      case hrd104 => kernel_rfl
                      case hQd104 => exact fun _ _ _ h => h
                      case hyd104 =>
                        refine Or.inl ⟨by rfl, ?_⟩
                        intro w
                        go_simp
                        (try with_reducible rfl)
                      try simp only [Act.put, List.setIfInBounds_toArray, List.set_cons_zero, List.set_cons_succ]
                      refine wpAny_take (i := 20) (oi := ?oid105) (v := ?vd105) ?hod105 (by kernel_rfl) ?hfd105 ?hrd105 ?hQd105 ?hyd105 ?restd105
                      case hod105 => (simp only [List.getElem?_toArray, List.getElem?_cons_succ, List.getElem?_cons_zero]; exact rfl)
                      case hfd105 => kernel_rfl
                      case hrd105 => kernel_rfl
                      case hQd105 => exact fun _ _ _ h => h
                      case hyd105 =>
                        refine Or.inl ⟨by rfl, ?_⟩
                        intro w
                        go_simp
                        (try with_reducible rfl)
                      try simp only [Act.put, List.setIfInBounds_toArray, List.set_cons_zero, List.set_cons_succ]
                      refine wpAny_ready (rs := [21]) (by kernel_rfl) (by simp) ?_
                      refine AllReady.cons (o := ?od106) ?hod106 (fun K hK => ?kd106) ?md106
                      case hod106 => (simp only [List.getElem?_toArray, List.getElem?_cons_succ, List.getElem?_cons_zero]; exact rfl)
                      case kd106 =>
                        go_simp
                        refine (works_any _ (htw _ (hX _ (by exact hfd102)))).mono ?_
                        rintro e Vd106 ⟨rfl, hvd106⟩
                        have hfd106 : Below X.heap.size X Vd106 := Below.trans (by exact hfd102) (hvd106.mono (hfd102).size)
                        (try dsimp only)
                        refine hK _ _ ?_
                        clear hK K
                        try simp only [Act.put, List.setIfInBounds_toArray, List.set_cons_zero, List.set_cons_succ]
                        refine wpAny_take (i := 22) (oi := ?oid107) (v := ?vd107) ?hod107 (by kernel_rfl) ?hfd107 ?hrd107 ?hQd107 ?hyd107 ?restd107
                        case hod107 => (simp only [List.getElem?_toArray, List.getElem?_cons_succ, List.getElem?_cons_zero]; exact rfl)
                        case hfd107 => kernel_rfl
                        case hrd107 => kernel_rfl
                        case hQd107 => exact fun _ _ _ h => h
                        case hyd107 =>
                          refine Or.inl ⟨by rfl, ?_⟩
                          intro w
                          go_simp
                          (try with_reducible rfl)
                        try simp only [Act.put, List.setIfInBounds_toArray, List.set_cons_zero, List.set_cons_succ]
                        refine wpAny_take (i := 23) (oi := ?oid108) (v := ?vd108) ?hod108 (by kernel_rfl) ?hfd108 ?hrd108 ?hQd108 ?hyd108 ?restd108
                        case hod108 => (simp only [List.getElem?_toArray, List.getElem?_cons_succ, List.getElem?_cons_zero]; exact rfl)
                        case hfd108 => kernel_rfl
                        case hrd108 => kernel_rfl
                        case hQd108 => exact fun _ _ _ h => h
                        case hyd108 =>
                          refine Or.inl ⟨by rfl, ?_⟩
                          intro w
                          go_simp
                          (try with_reducible rfl)
                        try simp only [Act.put, List.setIfInBounds_toArray, List.set_cons_zero, List.set_cons_succ]
                        refine wpAny_done (by kernel_rfl) ?_ _
                        repeat go_step
                        go_ret
                        exact ⟨rfl, HWU.out.trans (Below.mono (hX _ (by exact hfd106)) hZw1)⟩
                      exact AllReady.nil
                    exact AllReady.nil
                  exact AllReady.nil
                refine AllReady.cons (o := ?od109) ?hod109 (fun K hK => ?kd109) ?md109
                case hod109 => (simp only [List.getElem?_toArray, List.getElem?_cons_succ, List.getElem?_cons_zero]; exact rfl)
                case kd109 =>
                  refine any_load_mid (by rfl) 28 (.tmp 6) rfl W2.heap.size 0 rfl (tA.map bv) _ (hrg _ (hX _ (by exact hfd86))) Tryd.underlying28 rfl HSZ.out ?_
                  refine hK _ _ ?_
                  clear hK K
                  try simp only [Act.put, List.setIfInBounds_toArray, List.set_cons_zero, List.set_cons_succ]
                  refine wpAny_ready (rs := [15]) (by kernel_rfl) (by simp) ?_
                  refine AllReady.cons (o := ?od110) ?hod110 (fun K hK => ?kd110) ?md110
                  case hod110 => (simp only [List.getElem?_toArray, List.getElem?_cons_succ, List.getElem?_cons_zero]; exact rfl)
                  case kd110 =>
                    refine any_lit1 (by rfl) (.tmp 68) rfl _ _ _ fl (by rfl) (how _ (hX _ (by exact hfd86))) hmo ?_
                    intro Vd110 qq hrd hvd110
                    have hfd110 : Below X.heap.size X Vd110 := Below.trans (by exact hfd86) (hvd110.mono (hfd86).size)
                    (try dsimp only)
                    refine hK _ _ ?_
                    clear hK K
                    try simp only [Act.put, List.setIfInBounds_toArray, List.set_cons_zero, List.set_cons_succ]
                    refine wpAny_ready (rs := [16]) (by kernel_rfl) (by simp) ?_
                    refine AllReady.cons (o := ?od111) ?hod111 (fun K hK => ?kd111) ?md111
                    case hod111 => (simp only [List.getElem?_toArray, List.getElem?_cons_succ, List.getElem?_cons_zero]; exact rfl)
                    case kd111 =>
                      go_simp
                      refine (macTag_any g key _ 1 1 _ [fl] _ (HMX.out.later (by exact hfd110)) (by exact hrd) (by have := HM.out; simp; omega) (by omega) (htw _ (hX _ (by exact hfd110)))).mono ?_
                      rintro e Vd111 ⟨rfl, hvd111⟩
                      rw [flat1]
                      unfold tagH
                      rw [HTA.out]
                      have hfd111 : Below X.heap.size X Vd111 := Below.trans (by exact hfd110) (hvd111.mono (hfd110).size)
                      (try dsimp only)
                      refine hK _ _ ?_
                      clear hK K
                      try simp only [Act.put, List.setIfInBounds_toArray, List.set_cons_zero, List.set_cons_succ]
                      refine wpAny_take (i := 18) (oi := ?oid112) (v := ?vd112) ?hod112 (by kernel_rfl) ?hfd112 ?hrd112 ?hQd112 ?hyd112 ?restd112
                      case hod112 => (simp only [List.getElem?_toArray, List.getElem?_cons_succ, List.getElem?_cons_zero]; exact rfl)
                      case hfd112 => kernel_rfl
                      case hrd112 => kernel_rfl
                      case hQd112 => exact fun _ _ _ h => h
                      case hyd112 =>
                        refine Or.inl ⟨by rfl, ?_⟩
                        intro w
                        go_simp
                        (try with_reducible rfl)
                      try simp only [Act.put, List.setIfInBounds_toArray, List.set_cons_zero, List.set_cons_succ]
                      refine wpAny_take (i := 19) (oi := ?oid113) (v := ?vd113) ?hod113 (by kernel_rfl) ?hfd113 ?hrd113 ?hQd113 ?hyd113 ?restd113
                      case hod113 => (simp only [List.getElem?_toArray, List.getElem?_cons_succ, List.getElem?_cons_zero]; exact rfl)
                      case hfd113 => kernel_rfl
                      case hrd113 => kernel_rfl
                      case hQd113 => exact fun _ _ _ h => h
                      case hyd113 =>
                        refine Or.inl ⟨by rfl, ?_⟩
                        intro w
                        go_simp
                        (try with_reducible rfl)
                      try simp only [Act.put, List.setIfInBounds_toArray, List.set_cons_zero, List.set_cons_succ]
                      refine wpAny_take (i := 20) (oi := ?oid114) (v := ?vd114) ?hod114 (by kernel_rfl) ?hfd114 ?hrd114 ?hQd114 ?hyd114 ?restd114
                      case hod114 => (simp only [List.getElem?_toArray, List.getElem?_cons_succ, List.getElem?_cons_zero]; exact rfl)
                      case hfd114 => kernel_rfl
                      case hrd114 => kernel_rfl
                      case hQd114 => exact fun _ _ _ h => h
                      case hyd114 =>
                        refine Or.inl ⟨by rfl, ?_⟩
                        intro w
                        go_simp
                        (try with_reducible rfl)
                      try simp only [Act.put, List.setIfInBounds_toArray, List.set_cons_zero, List.set_cons_succ]
                      refine wpAny_ready (rs := [21]) (by kernel_rfl) (by simp) ?_
                      refine AllReady.cons (o := ?od115) ?hod115 (fun K hK => ?kd115) ?md115
                      case hod115 => (simp only [List.getElem?_toArray, List.getElem?_cons_succ, List.getElem?_cons_zero]; exact rfl)
                      case kd115 =>
                        go_simp
                        refine (works_any _ (htw _ (hX _ (by exact hfd111)))).mono ?_
                        rintro e Vd115 ⟨rfl, hvd115⟩
                        have hfd115 : Below X.heap.size X Vd115 := Below.trans (by exact hfd111) (hvd115.mono (hfd111).size)
                        (try dsimp only)
                        refine hK _ _ ?_
                        clear hK K
                        try simp only [Act.put, List.setIfInBounds_toArray, List.set_cons_zero, List.set_cons_succ]
                        refine wpAny_take (i := 22) (oi := ?oid116) (v := ?vd116) ?hod116 (by kernel_rfl) ?hfd116 ?hrd116 ?hQd116 ?hyd116 ?restd116
                        case hod116 => (simp only [List.getElem?_toArray, List.getElem?_cons_succ, List.getElem?_cons_zero]; exact rfl)
                        case hfd116 => kernel_rfl
                        case hrd116 => kernel_rfl
                        case hQd116 => exact fun _ _ _ h => h
                        case hyd116 =>
                          refine Or.inl ⟨by rfl, ?_⟩
                          intro w
                          go_simp
                          (try with_reducible rfl)
                        try simp only [Act.put, List.setIfInBounds_toArray, List.set_cons_zero, List.set_cons_succ]
                        refine wpAny_take (i := 23) (oi := ?oid117) (v := ?vd117) ?hod117 (by kernel_rfl) ?hfd117 ?hrd117 ?hQd117 ?hyd117 ?restd117
                        case hod117 => (simp only [List.getElem?_toArray, List.getElem?_cons_succ, List.getElem?_cons_zero]; exact rfl)
                        case hfd117 => kernel_rfl
                        case hrd117 => kernel_rfl
                        case hQd117 => exact fun _ _ _ h => h
                        case hyd117 =>
                          refine Or.inl ⟨by rfl, ?_⟩
                          intro w
                          go_simp
                          (try with_reducible rfl)
                        try simp only [Act.put, List.setIfInBounds_toArray, List.set_cons_zero, List.set_cons_succ]
                        refine wpAny_done (by kernel_rfl) ?_ _
                        repeat go_step
                        go_ret
                        exact ⟨rfl, HWU.out.trans (Below.mono (hX _ (by exact hfd115)) hZw1)⟩
                      exact AllReady.nil
                    exact AllReady.nil
                  exact AllReady.nil
                exact AllReady.nil
              exact AllReady.nil
            exact AllReady.nil
          exact AllReady.nil
        exact AllReady.nil
end hmacTags
end Go.Proofs.YtgkfebbifgkkeaaDoor
