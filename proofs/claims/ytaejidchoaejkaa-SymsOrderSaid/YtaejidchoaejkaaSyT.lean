/- Layer 4 (syms): the program's table in memory; add, Find. -/
import Derived.Test.YtaejidchoaejkaaSyB
import Derived.Test.YtaejidchoaejkaaSyC
import Derived.Test.YtaejidchoaejkaaSyP
import Derived.Test.YtaejidchoaejkaaSyV
import Derived.WalkSpells
set_option linter.unusedVariables false
set_option linter.unusedSimpArgs false
namespace Go.Proofs.Ytaejidchoaejkaa
open Go Go.RowKit

/-- The map, if there is one, tells of each name its number; where there is none there is no name. -/
def MapO (w : World) (M : Option Nat) (l : List ByteArray) : Prop := (M = none ∧ l = []) ∨ ∃ m, M = some m ∧ MapIs w m l
/-- The program's table at block g: names l in a row of its own in block X, their numbers in the map at block M. -/
def ST (w : World) (g : Nat) (X M : Option Nat) (l : List ByteArray) : Prop :=
  ∃ A c, Bk w g 56 [.slice A l.length c, .map M] ∧ OwS w 0 A c l.length l ∧ MapO w M l ∧ X = (Value.slice A l.length c).ownBlock ∧ X ≠ some g ∧ ∀ m, M = some m → X ≠ some m ∧ m ≠ g
def Fp2 (g : Nat) (X M : Option Nat) (k : Nat) : Prop := k = g ∨ X = some k ∨ M = some k
theorem MapO.turn {G : Nat → Prop} {w w' : World} {M : Option Nat} {l : List ByteArray} (h : MapO w M l) (ht : Turn G w w') (hn : ∀ m, M = some m → ¬ G m) : MapO w' M l := by
  rcases h with h | ⟨m, h1, h2⟩
  · exact .inl h
  · exact .inr ⟨m, h1, h2.turn ht (hn m h1)⟩
theorem ST.turn {G : Nat → Prop} {w w' : World} {g : Nat} {X M : Option Nat} {l : List ByteArray} (h : ST w g X M l) (ht : Turn G w w') (hn : ∀ k, Fp2 g X M k → ¬ G k) : ST w' g X M l := by
  obtain ⟨A, c, h1, h2, h3, h4, h5⟩ := h
  exact ⟨A, c, ht.bk h1 (hn g (.inl rfl)), ht.own h2 (fun k hk => hn k (.inr (.inl (h4.trans hk)))), h3.turn ht (fun m hm => hn m (.inr (.inr hm))), h4, h5⟩
theorem ST.lt {w : World} {g : Nat} {X M : Option Nat} {l : List ByteArray} (h : ST w g X M l) : ∀ k, Fp2 g X M k → k < w.heap.size := by
  obtain ⟨A, c, h1, h2, h3, h4, h5⟩ := h
  rintro k (rfl | hk | hk)
  · exact h1.lt
  · exact (World.ownsRow.lt h2 k (h4.symm.trans hk)).2
  · rcases h3 with ⟨h, _⟩ | ⟨m, h, h6⟩
    · rw [h] at hk
      cases hk
    · rw [h] at hk
      cases hk
      exact h6.lt
theorem anyd_load1 (ty : TypeId) {ops : Array Oper} {E : Prop} {o : Oper} {a : Act} {K : Act → World → Prop} {Q : Exit → Act → World → Prop} {w : World} (hwant : Region.wanted o (yielded ops a.tmps) = true) (x : Operand)
    (hty : ty = 22) (ho : o.op = .load ty x) (b i : Nat) (v : Value) (hx : a.eval x = .pointer (some ⟨b, i, none⟩)) (hc : w.cell? ⟨b, i, none⟩ = some v)
    (h : K (a.put o.dst v) w) : if Region.wanted o (yielded ops a.tmps) = true then Oper.wp Try.prog o a w K Q else E := by
  subst hty
  rw [if_pos hwant]
  unfold Oper.wp execOp
  simp only [ho, hx]
  go_simp
  exact h
/-- 'n, is := m[name]' of no map. -/
theorem look_none {ops : Array Oper} {rest : List Oper} {o : Oper} {a : Act} {Q : Exit → Act → World → Prop} (w : World) (hg : o.guard = none) (m x : Operand) (hop : o.op = Op.lookup 54 m x true)
    (s : ByteArray) (hm : a.eval m = .map none) (hx : a.eval x = sv s) (hs : s.size ≤ maxLen)
    (hK : wpList Try.prog ops Q rest (a.put o.dst (.tuple #[.int .u32 0, .bool false])) w) : wpList Try.prog ops Q (o :: rest) a w := by
  refine wpList_plain hg fun K hK' => ?_
  have hr := Go.Maps.look_nil (P := Try.prog) (w := w) true key_law Try.underlying54 (zero_u32 w) (key_of hs)
  unfold Oper.wp
  simp [execOp, hop, hm, hx, hr, Result.andThen]
  exact hK' _ _ hK

theorem mk_map (w : World) : (Instr.makeMap 54 none).run Try.prog w = .ok (.map (some w.heap.size)) (w.alloc (.map #[] 0)) := by kernel_rfl

set_option maxRecDepth 100000 in
set_option maxHeartbeats 1000000 in
theorem find_any (g : Nat) (X M : Option Nat) (l : List ByteArray) (s : ByteArray) (w : World) (h : ST w g X M l) (hs : s.size ≤ maxLen) :
    Calls Try.prog 19 #[.pointer (some ⟨g, 0, none⟩), sv s] w fun e w' => e = .returned (.tuple #[.int .u32 (((findO l s).getD 0 : Nat) : Int), .bool (findO l s).isSome]) ∧ w = w' := by
  obtain ⟨A, c, hb, ho, hM, hX, hg, hXM⟩ := id h
  have cm := hb.cell 1
  rw [show [Value.slice A l.length c, .map M][1]? = some (Value.map M) from rfl] at cm
  clear hb ho hX hg hXM h
  rcases hM with ⟨rfl, rfl⟩ | ⟨m, rfl, hm⟩
  · go_enter Try.func19, Try.ntmps19
    repeat (first | (at_lookup; refine look_none w rfl _ _ rfl s rfl rfl hs ?_) | go_step)
    go_ret2
    exact ⟨rfl, rfl⟩
  · have HM := Lib.hid hm
    clear hm
    cases hf : findO l s with
    | some k =>
      have HF := Lib.hid hf
      clear hf
      go_enter Try.func19, Try.ntmps19
      repeat (first | (at_lookup; refine look_is w rfl _ _ rfl m l s k rfl rfl hs HM.out HF.out ?_) | go_step)
      go_ret2
      exact ⟨rfl, rfl⟩
    | none =>
      have HF := Lib.hid hf
      clear hf
      go_enter Try.func19, Try.ntmps19
      repeat (first | (at_lookup; refine look_not w rfl _ _ rfl m l s rfl rfl hs HM.out HF.out ?_) | go_step)
      go_ret2
      exact ⟨rfl, rfl⟩

set_option maxRecDepth 100000 in
set_option maxHeartbeats 1000000 in
theorem add_some : ∀ (g : Nat) (X M : Option Nat) (l : List ByteArray) (s : ByteArray) (w : World) (h : ST w g X M l) (hM0 : ∃ m, M = some m) (hl : l.length < 4096) (hs : s.size ≤ 1099511627776) (hf : findO l s = none),
    Calls Try.prog 24 #[.pointer (some ⟨g, 0, none⟩), sv s] w fun e w' => e = .returned (.int .u32 (l.length : Int)) ∧
      ∃ X' M', ST w' g X' M' (l ++ [s]) ∧ Turn (Fp2 g X M) w w' ∧ (∀ k, X' = some k → X = some k ∨ w.heap.size ≤ k) ∧ ∀ k, M' = some k → M = some k ∨ w.heap.size ≤ k := by
  intro g X M l s w h hM0 hl hs hf
  obtain ⟨A, c, hb, ho, hM, hX, hg, hXM⟩ := id h
  have hlt := h.lt
  have hgl := hb.lt
  have HLT := Lib.hid hlt
  have HX := Lib.hid hX
  have HG := Lib.hid hg
  have HF := Lib.hid hf
  have hlw : IntKind.u32.wrap (l.length : Int) = (l.length : Int) := by rw [IntKind.wrap_u32]; omega
  clear hlt hX hg hf h
  obtain ⟨m, rfl⟩ := hM0
  obtain ⟨m', hm', hmi⟩ : ∃ m', some m = some m' ∧ MapIs w m' l := by
    rcases hM with ⟨h, _⟩ | h
    · cases h
    · exact h
  cases hm'
  obtain ⟨hXm, hmg⟩ := hXM m rfl
  have cm := hb.cell 1
  rw [show [Value.slice A l.length c, .map (some m)][1]? = some (Value.map (some m)) from rfl] at cm
  have HB := Lib.hid hb
  have HO := Lib.hid ho
  have HMI := Lib.hid hmi
  have HXm := Lib.hid hXm
  have HMg := Lib.hid hmg
  have HT0 := Lib.hid (Turn.refl (Fp2 g X (some m)) w)
  have hq := run_eql_map_nil (P := Try.prog) w 54 9 35 (some m) Try.underlying54
  simp only [Option.isNone] at hq
  have HML := Lib.hid (show (some m = some m ∨ w.heap.size ≤ m) from .inl rfl)
  have HXM := Lib.hid (show ∀ k, X = some k → k ≠ m from fun k hk e => hXm (by rw [hk, e]))
  have HXl := Lib.hid (show ∀ k, X = some k → k < w.heap.size from fun k hk => HLT.out k (.inr (.inl hk)))
  have hsz := Nat.le_refl w.heap.size
  clear hb ho hM hXM hmi hXm hmg
  obtain ⟨W, hW⟩ : ∃ W, W = w := ⟨_, rfl⟩
  subst hW
  go_enter Try.func24, Try.ntmps24
  repeat go_step
  have cg : ∀ V : World, Below W.heap.size W V → V.cell? ⟨g, 0, none⟩ = some (.slice A l.length c) := fun V hV => by
    have h := (HB.out.later hV).cell 0
    rw [h]
    rfl
  have CG := Lib.hid cg
  clear cg
  refine wp_region_any (by kernel_rfl) ?_
  try (change wpAny _ _ _ _ _ _ _ (World.drew _))
  refine wpAny_meet (b := ?ad1) (fun V => Below W.heap.size W V) ?cd1 ?rd1
  case rd1 =>
    intro hEnd
    have hf0 : Below W.heap.size W W.drew := belowDrews (Below.refl _ W) 1
    refine wpAny_take (i := 0) (oi := ?oid2) (v := ?vd2) ?hod2 (by kernel_rfl) ?hfd2 ?hrd2 ?hQd2 ?hyd2 ?restd2
    case hod2 => (simp only [List.getElem?_toArray, List.getElem?_cons_succ, List.getElem?_cons_zero]; exact rfl)
    case hfd2 => kernel_rfl
    case hrd2 => kernel_rfl
    case hQd2 => exact fun _ _ _ h => h
    case hyd2 =>
      refine Or.inl ⟨by rfl, ?_⟩
      intro w
      go_simp
      (try with_reducible rfl)
    try simp only [Act.put, List.setIfInBounds_toArray, List.set_cons_zero, List.set_cons_succ]
    refine wpAny_take (i := 1) (oi := ?oid3) (v := ?vd3) ?hod3 (by kernel_rfl) ?hfd3 ?hrd3 ?hQd3 ?hyd3 ?restd3
    case hod3 => (simp only [List.getElem?_toArray, List.getElem?_cons_succ, List.getElem?_cons_zero]; exact rfl)
    case hfd3 => kernel_rfl
    case hrd3 => kernel_rfl
    case hQd3 => exact fun _ _ _ h => h
    case hyd3 =>
      refine Or.inl ⟨by rfl, ?_⟩
      intro w
      go_simp
      (try with_reducible rfl)
    try simp only [Act.put, List.setIfInBounds_toArray, List.set_cons_zero, List.set_cons_succ]
    refine wpAny_take (i := 2) (oi := ?oid4) (v := ?vd4) ?hod4 (by kernel_rfl) ?hfd4 ?hrd4 ?hQd4 ?hyd4 ?restd4
    case hod4 => (simp only [List.getElem?_toArray, List.getElem?_cons_succ, List.getElem?_cons_zero]; exact rfl)
    case hfd4 => kernel_rfl
    case hrd4 => kernel_rfl
    case hQd4 => exact fun _ _ _ h => h
    case hyd4 =>
      refine Or.inl ⟨by rfl, ?_⟩
      intro w
      go_simp
      (try with_reducible rfl)
    try simp only [Act.put, List.setIfInBounds_toArray, List.set_cons_zero, List.set_cons_succ]
    refine wpAny_take (i := 6) (oi := ?oid5) (v := ?vd5) ?hod5 (by kernel_rfl) ?hfd5 ?hrd5 ?hQd5 ?hyd5 ?restd5
    case hod5 => (simp only [List.getElem?_toArray, List.getElem?_cons_succ, List.getElem?_cons_zero]; exact rfl)
    case hfd5 => kernel_rfl
    case hrd5 => kernel_rfl
    case hQd5 => exact fun _ _ _ h => h
    case hyd5 =>
      refine Or.inl ⟨by rfl, ?_⟩
      intro w
      go_simp
      (try with_reducible rfl)
    try simp only [Act.put, List.setIfInBounds_toArray, List.set_cons_zero, List.set_cons_succ]
    refine wpAny_ready (rs := [3, 7]) (by kernel_rfl) (by simp) ?_
    refine AllReady.cons (o := ?od6) ?hod6 (fun K hK => ?kd6) ?md6
    case hod6 => (simp only [List.getElem?_toArray, List.getElem?_cons_succ, List.getElem?_cons_zero]; exact rfl)
    case kd6 =>
      refine anyd_load1 _ (by rfl) (.tmp 17) rfl rfl g 0 _ (by rfl) (CG.out _ (by exact hf0)) ?_
      refine hK _ _ ?_
      clear hK K
      try simp only [Act.put, List.setIfInBounds_toArray, List.set_cons_zero, List.set_cons_succ]
      refine wpAny_take (i := 4) (oi := ?oid7) (v := ?vd7) ?hod7 (by kernel_rfl) ?hfd7 ?hrd7 ?hQd7 ?hyd7 ?restd7
      case hod7 => (simp only [List.getElem?_toArray, List.getElem?_cons_succ, List.getElem?_cons_zero]; exact rfl)
      case hfd7 => kernel_rfl
      case hrd7 => kernel_rfl
      case hQd7 => exact fun _ _ _ h => h
      case hyd7 =>
        refine Or.inl ⟨by rfl, ?_⟩
        intro w
        go_simp
        (try with_reducible rfl)
      try simp only [Act.put, List.setIfInBounds_toArray, List.set_cons_zero, List.set_cons_succ]
      refine wpAny_take (i := 5) (oi := ?oid8) (v := ?vd8) ?hod8 (by kernel_rfl) ?hfd8 ?hrd8 ?hQd8 ?hyd8 ?restd8
      case hod8 => (simp only [List.getElem?_toArray, List.getElem?_cons_succ, List.getElem?_cons_zero]; exact rfl)
      case hfd8 => kernel_rfl
      case hrd8 => kernel_rfl
      case hQd8 => exact fun _ _ _ h => h
      case hyd8 =>
        refine Or.inl ⟨by rfl, ?_⟩
        intro w
        go_simp
        (try with_reducible rfl)
      try simp only [Act.put, List.setIfInBounds_toArray, List.set_cons_zero, List.set_cons_succ]
      refine wpAny_ready (rs := [7]) (by kernel_rfl) (by simp) ?_
      refine AllReady.cons (o := ?od9) ?hod9 (fun K hK => ?kd9) ?md9
      case hod9 => (simp only [List.getElem?_toArray, List.getElem?_cons_succ, List.getElem?_cons_zero]; exact rfl)
      case kd9 =>
        go_simp
        refine (sclone_any s _ hs).mono ?_
        rintro e Vd9 ⟨rfl, hvd9⟩
        have hfd9 : Below W.heap.size W Vd9 := Below.trans (by exact hf0) (hvd9.mono (hf0).size)
        (try dsimp only)
        refine hK _ _ ?_
        clear hK K
        try simp only [Act.put, List.setIfInBounds_toArray, List.set_cons_zero, List.set_cons_succ]
        refine wpAny_take (i := 8) (oi := ?oid10) (v := ?vd10) ?hod10 (by kernel_rfl) ?hfd10 ?hrd10 ?hQd10 ?hyd10 ?restd10
        case hod10 => (simp only [List.getElem?_toArray, List.getElem?_cons_succ, List.getElem?_cons_zero]; exact rfl)
        case hfd10 => kernel_rfl
        case hrd10 => kernel_rfl
        case hQd10 => exact fun _ _ _ h => h
        case hyd10 =>
          refine Or.inl ⟨by rfl, ?_⟩
          intro w
          go_simp
          (try with_reducible rfl)
        try simp only [Act.put, List.setIfInBounds_toArray, List.set_cons_zero, List.set_cons_succ]
        refine wpAny_take (i := 9) (oi := ?oid11) (v := ?vd11) ?hod11 (by kernel_rfl) ?hfd11 ?hrd11 ?hQd11 ?hyd11 ?restd11
        case hod11 => (simp only [List.getElem?_toArray, List.getElem?_cons_succ, List.getElem?_cons_zero]; exact rfl)
        case hfd11 => kernel_rfl
        case hrd11 => kernel_rfl
        case hQd11 => exact fun _ _ _ h => h
        case hyd11 =>
          refine Or.inl ⟨by rfl, ?_⟩
          intro w
          go_simp
          (try with_reducible rfl)
        try simp only [Act.put, List.setIfInBounds_toArray, List.set_cons_zero, List.set_cons_succ]
        exact wpAny_done (by kernel_rfl) (hEnd _ hfd9) _
      exact AllReady.nil
    refine AllReady.cons (o := ?od12) ?hod12 (fun K hK => ?kd12) ?md12
    case hod12 => (simp only [List.getElem?_toArray, List.getElem?_cons_succ, List.getElem?_cons_zero]; exact rfl)
    case kd12 =>
      go_simp
      refine (sclone_any s _ hs).mono ?_
      rintro e Vd12 ⟨rfl, hvd12⟩
      have hfd12 : Below W.heap.size W Vd12 := Below.trans (by exact hf0) (hvd12.mono (hf0).size)
      (try dsimp only)
      refine hK _ _ ?_
      clear hK K
      try simp only [Act.put, List.setIfInBounds_toArray, List.set_cons_zero, List.set_cons_succ]
      refine wpAny_ready (rs := [3]) (by kernel_rfl) (by simp) ?_
      refine AllReady.cons (o := ?od13) ?hod13 (fun K hK => ?kd13) ?md13
      case hod13 => (simp only [List.getElem?_toArray, List.getElem?_cons_succ, List.getElem?_cons_zero]; exact rfl)
      case kd13 =>
        refine anyd_load1 _ (by rfl) (.tmp 17) rfl rfl g 0 _ (by rfl) (CG.out _ (by exact hfd12)) ?_
        refine hK _ _ ?_
        clear hK K
        try simp only [Act.put, List.setIfInBounds_toArray, List.set_cons_zero, List.set_cons_succ]
        refine wpAny_take (i := 4) (oi := ?oid14) (v := ?vd14) ?hod14 (by kernel_rfl) ?hfd14 ?hrd14 ?hQd14 ?hyd14 ?restd14
        case hod14 => (simp only [List.getElem?_toArray, List.getElem?_cons_succ, List.getElem?_cons_zero]; exact rfl)
        case hfd14 => kernel_rfl
        case hrd14 => kernel_rfl
        case hQd14 => exact fun _ _ _ h => h
        case hyd14 =>
          refine Or.inl ⟨by rfl, ?_⟩
          intro w
          go_simp
          (try with_reducible rfl)
        try simp only [Act.put, List.setIfInBounds_toArray, List.set_cons_zero, List.set_cons_succ]
        refine wpAny_take (i := 5) (oi := ?oid15) (v := ?vd15) ?hod15 (by kernel_rfl) ?hfd15 ?hrd15 ?hQd15 ?hyd15 ?restd15
        case hod15 => (simp only [List.getElem?_toArray, List.getElem?_cons_succ, List.getElem?_cons_zero]; exact rfl)
        case hfd15 => kernel_rfl
        case hrd15 => kernel_rfl
        case hQd15 => exact fun _ _ _ h => h
        case hyd15 =>
          refine Or.inl ⟨by rfl, ?_⟩
          intro w
          go_simp
          (try with_reducible rfl)
        try simp only [Act.put, List.setIfInBounds_toArray, List.set_cons_zero, List.set_cons_succ]
        refine wpAny_take (i := 8) (oi := ?oid16) (v := ?vd16) ?hod16 (by kernel_rfl) ?hfd16 ?hrd16 ?hQd16 ?hyd16 ?restd16
        case hod16 => (simp only [List.getElem?_toArray, List.getElem?_cons_succ, List.getElem?_cons_zero]; exact rfl)
        case hfd16 => kernel_rfl
        case hrd16 => kernel_rfl
        case hQd16 => exact fun _ _ _ h => h
        case hyd16 =>
          refine Or.inl ⟨by rfl, ?_⟩
          intro w
          go_simp
          (try with_reducible rfl)
        try simp only [Act.put, List.setIfInBounds_toArray, List.set_cons_zero, List.set_cons_succ]
        refine wpAny_take (i := 9) (oi := ?oid17) (v := ?vd17) ?hod17 (by kernel_rfl) ?hfd17 ?hrd17 ?hQd17 ?hyd17 ?restd17
        case hod17 => (simp only [List.getElem?_toArray, List.getElem?_cons_succ, List.getElem?_cons_zero]; exact rfl)
        case hfd17 => kernel_rfl
        case hrd17 => kernel_rfl
        case hQd17 => exact fun _ _ _ h => h
        case hyd17 =>
          refine Or.inl ⟨by rfl, ?_⟩
          intro w
          go_simp
          (try with_reducible rfl)
        try simp only [Act.put, List.setIfInBounds_toArray, List.set_cons_zero, List.set_cons_succ]
        exact wpAny_done (by kernel_rfl) (hEnd _ hfd12) _
      exact AllReady.nil
    exact AllReady.nil
  case cd1 =>
    intro V hV
    have hbV := HB.out.later hV
    have hoV := ownBelow HO.out hV (Nat.le_refl _)
    have hmV := HMI.out.turn (Turn.ofBelow (G := fun _ => False) hV) (fun h => h)
    have hsV := hV.size
    have HMV := Lib.hid hmV
    have HOV := Lib.hid hoV
    have HBV := Lib.hid hbV
    have HV := Lib.hid hV
    have cgV := hbV.cell 0
    rw [show [Value.slice A l.length c, .map (some m)][0]? = some (Value.slice A l.length c) from rfl] at cgV
    clear hV hbV hoV hmV
    repeat (first
      | (at_builtin; refine appS _ rfl (.tmp 27) (.tmp 29) rfl 0 A c l.length l rfl (World.ownsRow.alloc HOV.out _) (V.heap.size + 1) (some ⟨V.heap.size, 0, none⟩) 1 1 [s] rfl (rdS1 V s) (by omega) (Nat.zero_le _) ?_
         intro A1 c1 w1 ho1 hg1 hk1
         have hT1 : Turn (fun k => X = some k) V w1 := ((Turn.refl _ V).alloc _).trans (Turn.ofGrown hg1 (fun k hk => by rw [HX.out]; exact hk))
         have hb1 : Bk w1 g 56 [.slice A l.length c, .map (some m)] := hT1.bk HBV.out HG.out
         have hm1 : MapIs w1 m l := HMV.out.turn hT1 HXm.out
         have cg1 := hb1.cell 0
         rw [show [Value.slice A l.length c, .map (some m)][0]? = some (Value.slice A l.length c) from rfl] at cg1
         have fg1 := hb1.frozen 0
         have hb2 := hb1.set_ 0 (.slice A1 (l.length + 1) c1)
         have cm2 := hb2.cell 1
         rw [show ([Value.slice A l.length c, .map (some m)].set 0 (.slice A1 (l.length + 1) c1))[1]? = some (.map (some m)) from rfl] at cm2
         have hT2 : Turn (fun k => k = g) w1 (w1.setCell ⟨g, 0, none⟩ (.slice A1 (l.length + 1) c1)) := Turn.setCell (Turn.refl (fun k => k = g) w1) (p := ⟨g, 0, none⟩) (fun _ => rfl) _
         have hm2 := hm1.turn hT2 HMg.out)
      | (at_mapUpdate; refine put_new _ rfl _ _ _ rfl m l s rfl rfl rfl (by simp only [maxLen]; omega) hm2 HF.out (by first | omega | simp) ?_; intro w3 hm3 hg3)
      | go_step)
    go_ret
    have hX1 : ∀ k, (Value.slice A1 (l.length + 1) c1).ownBlock = some k → X = some k ∨ W.heap.size ≤ k := fun k hk => by
      rcases hk1 with e | e
      · rw [hk] at e
        exact .inl (HX.out.trans e.symm)
      · rw [hk] at e
        simp only [Option.some.injEq] at e
        refine .inr ?_
        rw [e]
        simp
        omega
    have hMl := HMI.out.lt
    have hXg : ∀ k, (Value.slice A1 (l.length + 1) c1).ownBlock = some k → k ≠ g ∧ k ≠ m := fun k hk => by
      rcases hX1 k hk with h | h
      · exact ⟨fun e => HG.out (by rw [h, e]), HXM.out k h⟩
      · have := HB.out.lt
        exact ⟨by omega, by omega⟩
    have hT3 : Turn (fun k => k = m) _ w3 := Turn.ofGrown hg3 (fun k hk => by cases hk; rfl)
    have hTV : Turn (fun _ => False) W V := Turn.ofBelow HV.out
    have hTW : Turn (fun k => k = g ∨ X = some k ∨ k = m) W w3 := (((hTV.mono fun k _ h => h.elim).then_ hT1 fun k _ hk => .inr (.inl hk)).then_ hT2 fun k _ hk => .inl hk).then_ hT3 fun k _ hk => .inr (.inr hk)
    refine ⟨rfl, (Value.slice A1 (l.length + 1) c1).ownBlock, some m, ?_, ?_, ?_, ?_⟩
    · refine ⟨A1, c1, by simpa using hT3.bk hb2 (Ne.symm HMg.out), ?_, .inr ⟨m, rfl, hm3⟩, by simp, fun e => (hXg g e).1 rfl, fun k hk => by cases hk; exact ⟨fun e => (hXg m e).2 rfl, HMg.out⟩⟩
      have := hT3.own (hT2.own ho1 (fun k hk e => (hXg k hk).1 e)) (fun k hk e => (hXg k hk).2 e)
      simpa [OwS] using this
    · refine HT0.out.then_ hTW fun k hk hg => ?_
      rcases hg with h | h | rfl
      · exact .inl h
      · exact .inr (.inl h)
      · rcases HML.out with h | h
        · exact .inr (.inr h)
        · omega
    · intro k hk
      rcases hX1 k hk with h | h
      · exact .inl h
      · exact .inr (by omega)
    · intro k hk
      cases hk
      exact HML.out

set_option maxRecDepth 100000 in
set_option maxHeartbeats 1000000 in
theorem add_none : ∀ (g : Nat) (X M : Option Nat) (l : List ByteArray) (s : ByteArray) (w : World) (h : ST w g X M l) (hM0 : M = none) (hl : l.length < 4096) (hs : s.size ≤ 1099511627776) (hf : findO l s = none),
    Calls Try.prog 24 #[.pointer (some ⟨g, 0, none⟩), sv s] w fun e w' => e = .returned (.int .u32 (l.length : Int)) ∧
      ∃ X' M', ST w' g X' M' (l ++ [s]) ∧ Turn (Fp2 g X M) w w' ∧ (∀ k, X' = some k → X = some k ∨ w.heap.size ≤ k) ∧ ∀ k, M' = some k → M = some k ∨ w.heap.size ≤ k := by
  intro g X M l s w h hM0 hl hs hf
  obtain ⟨A, c, hb, ho, hM, hX, hg, hXM⟩ := id h
  have hlt := h.lt
  have hgl := hb.lt
  have HLT := Lib.hid hlt
  have HX := Lib.hid hX
  have HG := Lib.hid hg
  have HF := Lib.hid hf
  have hlw : IntKind.u32.wrap (l.length : Int) = (l.length : Int) := by rw [IntKind.wrap_u32]; omega
  clear hlt hX hg hf h
  subst hM0
  obtain rfl : l = [] := by
    rcases hM with ⟨_, h⟩ | ⟨m, h, _⟩
    · exact h
    · cases h
  have hb1 := hb.alloc (.map #[] 0)
  have cm := hb.cell 1
  rw [show [Value.slice A ([] : List ByteArray).length c, .map none][1]? = some (Value.map none) from rfl] at cm
  have cm1 := hb1.cell 1
  rw [show [Value.slice A ([] : List ByteArray).length c, .map none][1]? = some (Value.map none) from rfl] at cm1
  have fm1 := hb1.frozen 1
  have hmk := mk_map w
  have hq := run_eql_map_nil (P := Try.prog) w 54 9 35 none Try.underlying54
  simp only [Option.isNone] at hq
  have hbW := (hb.set_ 1 (.map (some w.heap.size))).alloc (.map #[] 0)
  have hT2 : Turn (fun k => k = g) w ((w.setCell ⟨g, 1, none⟩ (.map (some w.heap.size))).alloc (.map #[] 0)) :=
    (Turn.setCell (G := fun k => k = g) (p := ⟨g, 1, none⟩) (Turn.refl _ w) (fun _ => rfl) _).alloc _
  have hoW := hT2.own ho (fun k hk e => HG.out (by rw [HX.out, hk, e]))
  have hmW : MapIs ((w.setCell ⟨g, 1, none⟩ (.map (some w.heap.size))).alloc (.map #[] 0)) w.heap.size [] := by
    have h := MapIs.made (w.setCell ⟨g, 1, none⟩ (.map (some w.heap.size)))
    simpa using h
  have HXl := Lib.hid (show ∀ k, X = some k → k < w.heap.size from fun k hk => HLT.out k (.inr (.inl hk)))
  obtain ⟨m, hm⟩ : ∃ m, m = w.heap.size := ⟨_, rfl⟩
  rw [← hm] at hbW hT2 hoW hmW
  have hXm : X ≠ some m := fun e => absurd (HXl.out m e) (by omega)
  have hmg : m ≠ g := by omega
  have HXm := Lib.hid hXm
  have HMg := Lib.hid hmg
  have HXM := Lib.hid (show ∀ k, X = some k → k ≠ m from fun k hk e => hXm (by rw [hk, e]))
  have HML := Lib.hid (show ((none : Option Nat) = some m ∨ w.heap.size ≤ m) from .inr (by omega))
  clear hb hb1 ho hM hXM hXm hmg
  go_enter Try.func24, Try.ntmps24
  repeat go_step
  rw [← hm]
  have hsz := hT2.size
  obtain ⟨W, hW⟩ : ∃ W, W = (w.setCell ⟨g, 1, none⟩ (.map (some m))).alloc (.map #[] 0) := ⟨_, rfl⟩
  rw [← hW] at hbW hT2 hoW hmW hsz ⊢
  have HB := Lib.hid (show Bk W g 56 [.slice A 0 c, .map (some m)] from hbW)
  have HO := Lib.hid (show OwS W 0 A c 0 [] from hoW)
  have HMI := Lib.hid hmW
  have HT0 := Lib.hid (hT2.mono (G' := Fp2 g X none) fun k _ hk => .inl hk)
  clear hbW hT2 hoW hmW cm1 fm1 hmk hW cm hm
  repeat go_step
  have cg : ∀ V : World, Below W.heap.size W V → V.cell? ⟨g, 0, none⟩ = some (.slice A 0 c) := fun V hV => by
    have h := (HB.out.later hV).cell 0
    rw [h]
    rfl
  have CG := Lib.hid cg
  clear cg
  refine wp_region_any (by kernel_rfl) ?_
  try (change wpAny _ _ _ _ _ _ _ (World.drew _))
  refine wpAny_meet (b := ?ad18) (fun V => Below W.heap.size W V) ?cd18 ?rd18
  case rd18 =>
    intro hEnd
    have hf0 : Below W.heap.size W W.drew := belowDrews (Below.refl _ W) 1
    refine wpAny_take (i := 0) (oi := ?oid19) (v := ?vd19) ?hod19 (by kernel_rfl) ?hfd19 ?hrd19 ?hQd19 ?hyd19 ?restd19
    case hod19 => (simp only [List.getElem?_toArray, List.getElem?_cons_succ, List.getElem?_cons_zero]; exact rfl)
    case hfd19 => kernel_rfl
    case hrd19 => kernel_rfl
    case hQd19 => exact fun _ _ _ h => h
    case hyd19 =>
      refine Or.inl ⟨by rfl, ?_⟩
      intro w
      go_simp
      (try with_reducible rfl)
    try simp only [Act.put, List.setIfInBounds_toArray, List.set_cons_zero, List.set_cons_succ]
    refine wpAny_take (i := 1) (oi := ?oid20) (v := ?vd20) ?hod20 (by kernel_rfl) ?hfd20 ?hrd20 ?hQd20 ?hyd20 ?restd20
    case hod20 => (simp only [List.getElem?_toArray, List.getElem?_cons_succ, List.getElem?_cons_zero]; exact rfl)
    case hfd20 => kernel_rfl
    case hrd20 => kernel_rfl
    case hQd20 => exact fun _ _ _ h => h
    case hyd20 =>
      refine Or.inl ⟨by rfl, ?_⟩
      intro w
      go_simp
      (try with_reducible rfl)
    try simp only [Act.put, List.setIfInBounds_toArray, List.set_cons_zero, List.set_cons_succ]
    refine wpAny_take (i := 2) (oi := ?oid21) (v := ?vd21) ?hod21 (by kernel_rfl) ?hfd21 ?hrd21 ?hQd21 ?hyd21 ?restd21
    case hod21 => (simp only [List.getElem?_toArray, List.getElem?_cons_succ, List.getElem?_cons_zero]; exact rfl)
    case hfd21 => kernel_rfl
    case hrd21 => kernel_rfl
    case hQd21 => exact fun _ _ _ h => h
    case hyd21 =>
      refine Or.inl ⟨by rfl, ?_⟩
      intro w
      go_simp
      (try with_reducible rfl)
    try simp only [Act.put, List.setIfInBounds_toArray, List.set_cons_zero, List.set_cons_succ]
    refine wpAny_take (i := 6) (oi := ?oid22) (v := ?vd22) ?hod22 (by kernel_rfl) ?hfd22 ?hrd22 ?hQd22 ?hyd22 ?restd22
    case hod22 => (simp only [List.getElem?_toArray, List.getElem?_cons_succ, List.getElem?_cons_zero]; exact rfl)
    case hfd22 => kernel_rfl
    case hrd22 => kernel_rfl
    case hQd22 => exact fun _ _ _ h => h
    case hyd22 =>
      refine Or.inl ⟨by rfl, ?_⟩
      intro w
      go_simp
      (try with_reducible rfl)
    try simp only [Act.put, List.setIfInBounds_toArray, List.set_cons_zero, List.set_cons_succ]
    refine wpAny_ready (rs := [3, 7]) (by kernel_rfl) (by simp) ?_
    refine AllReady.cons (o := ?od23) ?hod23 (fun K hK => ?kd23) ?md23
    case hod23 => (simp only [List.getElem?_toArray, List.getElem?_cons_succ, List.getElem?_cons_zero]; exact rfl)
    case kd23 =>
      refine anyd_load1 _ (by rfl) (.tmp 17) rfl rfl g 0 _ (by rfl) (CG.out _ (by exact hf0)) ?_
      refine hK _ _ ?_
      clear hK K
      try simp only [Act.put, List.setIfInBounds_toArray, List.set_cons_zero, List.set_cons_succ]
      refine wpAny_take (i := 4) (oi := ?oid24) (v := ?vd24) ?hod24 (by kernel_rfl) ?hfd24 ?hrd24 ?hQd24 ?hyd24 ?restd24
      case hod24 => (simp only [List.getElem?_toArray, List.getElem?_cons_succ, List.getElem?_cons_zero]; exact rfl)
      case hfd24 => kernel_rfl
      case hrd24 => kernel_rfl
      case hQd24 => exact fun _ _ _ h => h
      case hyd24 =>
        refine Or.inl ⟨by rfl, ?_⟩
        intro w
        go_simp
        (try with_reducible rfl)
      try simp only [Act.put, List.setIfInBounds_toArray, List.set_cons_zero, List.set_cons_succ]
      refine wpAny_take (i := 5) (oi := ?oid25) (v := ?vd25) ?hod25 (by kernel_rfl) ?hfd25 ?hrd25 ?hQd25 ?hyd25 ?restd25
      case hod25 => (simp only [List.getElem?_toArray, List.getElem?_cons_succ, List.getElem?_cons_zero]; exact rfl)
      case hfd25 => kernel_rfl
      case hrd25 => kernel_rfl
      case hQd25 => exact fun _ _ _ h => h
      case hyd25 =>
        refine Or.inl ⟨by rfl, ?_⟩
        intro w
        go_simp
        (try with_reducible rfl)
      try simp only [Act.put, List.setIfInBounds_toArray, List.set_cons_zero, List.set_cons_succ]
      refine wpAny_ready (rs := [7]) (by kernel_rfl) (by simp) ?_
      refine AllReady.cons (o := ?od26) ?hod26 (fun K hK => ?kd26) ?md26
      case hod26 => (simp only [List.getElem?_toArray, List.getElem?_cons_succ, List.getElem?_cons_zero]; exact rfl)
      case kd26 =>
        go_simp
        refine (sclone_any s _ hs).mono ?_
        rintro e Vd26 ⟨rfl, hvd26⟩
        have hfd26 : Below W.heap.size W Vd26 := Below.trans (by exact hf0) (hvd26.mono (hf0).size)
        (try dsimp only)
        refine hK _ _ ?_
        clear hK K
        try simp only [Act.put, List.setIfInBounds_toArray, List.set_cons_zero, List.set_cons_succ]
        refine wpAny_take (i := 8) (oi := ?oid27) (v := ?vd27) ?hod27 (by kernel_rfl) ?hfd27 ?hrd27 ?hQd27 ?hyd27 ?restd27
        case hod27 => (simp only [List.getElem?_toArray, List.getElem?_cons_succ, List.getElem?_cons_zero]; exact rfl)
        case hfd27 => kernel_rfl
        case hrd27 => kernel_rfl
        case hQd27 => exact fun _ _ _ h => h
        case hyd27 =>
          refine Or.inl ⟨by rfl, ?_⟩
          intro w
          go_simp
          (try with_reducible rfl)
        try simp only [Act.put, List.setIfInBounds_toArray, List.set_cons_zero, List.set_cons_succ]
        refine wpAny_take (i := 9) (oi := ?oid28) (v := ?vd28) ?hod28 (by kernel_rfl) ?hfd28 ?hrd28 ?hQd28 ?hyd28 ?restd28
        case hod28 => (simp only [List.getElem?_toArray, List.getElem?_cons_succ, List.getElem?_cons_zero]; exact rfl)
        case hfd28 => kernel_rfl
        case hrd28 => kernel_rfl
        case hQd28 => exact fun _ _ _ h => h
        case hyd28 =>
          refine Or.inl ⟨by rfl, ?_⟩
          intro w
          go_simp
          (try with_reducible rfl)
        try simp only [Act.put, List.setIfInBounds_toArray, List.set_cons_zero, List.set_cons_succ]
        exact wpAny_done (by kernel_rfl) (hEnd _ hfd26) _
      exact AllReady.nil
    refine AllReady.cons (o := ?od29) ?hod29 (fun K hK => ?kd29) ?md29
    case hod29 => (simp only [List.getElem?_toArray, List.getElem?_cons_succ, List.getElem?_cons_zero]; exact rfl)
    case kd29 =>
      go_simp
      refine (sclone_any s _ hs).mono ?_
      rintro e Vd29 ⟨rfl, hvd29⟩
      have hfd29 : Below W.heap.size W Vd29 := Below.trans (by exact hf0) (hvd29.mono (hf0).size)
      (try dsimp only)
      refine hK _ _ ?_
      clear hK K
      try simp only [Act.put, List.setIfInBounds_toArray, List.set_cons_zero, List.set_cons_succ]
      refine wpAny_ready (rs := [3]) (by kernel_rfl) (by simp) ?_
      refine AllReady.cons (o := ?od30) ?hod30 (fun K hK => ?kd30) ?md30
      case hod30 => (simp only [List.getElem?_toArray, List.getElem?_cons_succ, List.getElem?_cons_zero]; exact rfl)
      case kd30 =>
        refine anyd_load1 _ (by rfl) (.tmp 17) rfl rfl g 0 _ (by rfl) (CG.out _ (by exact hfd29)) ?_
        refine hK _ _ ?_
        clear hK K
        try simp only [Act.put, List.setIfInBounds_toArray, List.set_cons_zero, List.set_cons_succ]
        refine wpAny_take (i := 4) (oi := ?oid31) (v := ?vd31) ?hod31 (by kernel_rfl) ?hfd31 ?hrd31 ?hQd31 ?hyd31 ?restd31
        case hod31 => (simp only [List.getElem?_toArray, List.getElem?_cons_succ, List.getElem?_cons_zero]; exact rfl)
        case hfd31 => kernel_rfl
        case hrd31 => kernel_rfl
        case hQd31 => exact fun _ _ _ h => h
        case hyd31 =>
          refine Or.inl ⟨by rfl, ?_⟩
          intro w
          go_simp
          (try with_reducible rfl)
        try simp only [Act.put, List.setIfInBounds_toArray, List.set_cons_zero, List.set_cons_succ]
        refine wpAny_take (i := 5) (oi := ?oid32) (v := ?vd32) ?hod32 (by kernel_rfl) ?hfd32 ?hrd32 ?hQd32 ?hyd32 ?restd32
        case hod32 => (simp only [List.getElem?_toArray, List.getElem?_cons_succ, List.getElem?_cons_zero]; exact rfl)
        case hfd32 => kernel_rfl
        case hrd32 => kernel_rfl
        case hQd32 => exact fun _ _ _ h => h
        case hyd32 =>
          refine Or.inl ⟨by rfl, ?_⟩
          intro w
          go_simp
          (try with_reducible rfl)
        try simp only [Act.put, List.setIfInBounds_toArray, List.set_cons_zero, List.set_cons_succ]
        refine wpAny_take (i := 8) (oi := ?oid33) (v := ?vd33) ?hod33 (by kernel_rfl) ?hfd33 ?hrd33 ?hQd33 ?hyd33 ?restd33
        case hod33 => (simp only [List.getElem?_toArray, List.getElem?_cons_succ, List.getElem?_cons_zero]; exact rfl)
        case hfd33 => kernel_rfl
        case hrd33 => kernel_rfl
        case hQd33 => exact fun _ _ _ h => h
        case hyd33 =>
          refine Or.inl ⟨by rfl, ?_⟩
          intro w
          go_simp
          (try with_reducible rfl)
        try simp only [Act.put, List.setIfInBounds_toArray, List.set_cons_zero, List.set_cons_succ]
        refine wpAny_take (i := 9) (oi := ?oid34) (v := ?vd34) ?hod34 (by kernel_rfl) ?hfd34 ?hrd34 ?hQd34 ?hyd34 ?restd34
        case hod34 => (simp only [List.getElem?_toArray, List.getElem?_cons_succ, List.getElem?_cons_zero]; exact rfl)
        case hfd34 => kernel_rfl
        case hrd34 => kernel_rfl
        case hQd34 => exact fun _ _ _ h => h
        case hyd34 =>
          refine Or.inl ⟨by rfl, ?_⟩
          intro w
          go_simp
          (try with_reducible rfl)
        try simp only [Act.put, List.setIfInBounds_toArray, List.set_cons_zero, List.set_cons_succ]
        exact wpAny_done (by kernel_rfl) (hEnd _ hfd29) _
      exact AllReady.nil
    exact AllReady.nil
  case cd18 =>
    intro V hV
    have hbV := HB.out.later hV
    have hoV := ownBelow HO.out hV (Nat.le_refl _)
    have hmV := HMI.out.turn (Turn.ofBelow (G := fun _ => False) hV) (fun h => h)
    have hsV := hV.size
    have HMV := Lib.hid hmV
    have HOV := Lib.hid hoV
    have HBV := Lib.hid hbV
    have HV := Lib.hid hV
    have cgV := hbV.cell 0
    rw [show [Value.slice A 0 c, .map (some m)][0]? = some (Value.slice A 0 c) from rfl] at cgV
    clear hV hbV hoV hmV
    repeat (first
      | (at_builtin; refine appS _ rfl (.tmp 27) (.tmp 29) rfl 0 A c 0 ([] : List ByteArray) rfl (World.ownsRow.alloc HOV.out _) (V.heap.size + 1) (some ⟨V.heap.size, 0, none⟩) 1 1 [s] rfl (rdS1 V s) (by omega) (Nat.zero_le _) ?_
         intro A1 c1 w1 ho1 hg1 hk1
         have hT1 : Turn (fun k => X = some k) V w1 := ((Turn.refl _ V).alloc _).trans (Turn.ofGrown hg1 (fun k hk => by rw [HX.out]; exact hk))
         have hb1 : Bk w1 g 56 [.slice A 0 c, .map (some m)] := hT1.bk HBV.out HG.out
         have hm1 : MapIs w1 m ([] : List ByteArray) := HMV.out.turn hT1 HXm.out
         have cg1 := hb1.cell 0
         rw [show [Value.slice A 0 c, .map (some m)][0]? = some (Value.slice A 0 c) from rfl] at cg1
         have fg1 := hb1.frozen 0
         have hb2 := hb1.set_ 0 (.slice A1 (0 + 1) c1)
         have cm2 := hb2.cell 1
         rw [show ([Value.slice A 0 c, .map (some m)].set 0 (.slice A1 (0 + 1) c1))[1]? = some (.map (some m)) from rfl] at cm2
         have hT2 : Turn (fun k => k = g) w1 (w1.setCell ⟨g, 0, none⟩ (.slice A1 (0 + 1) c1)) := Turn.setCell (Turn.refl (fun k => k = g) w1) (p := ⟨g, 0, none⟩) (fun _ => rfl) _
         have hm2 := hm1.turn hT2 HMg.out)
      | (at_mapUpdate; refine put_new _ rfl _ _ _ rfl m ([] : List ByteArray) s rfl rfl rfl (by simp only [maxLen]; omega) hm2 HF.out (by first | omega | simp) ?_; intro w3 hm3 hg3)
      | go_step)
    go_ret
    have hX1 : ∀ k, (Value.slice A1 (0 + 1) c1).ownBlock = some k → X = some k ∨ W.heap.size ≤ k := fun k hk => by
      rcases hk1 with e | e
      · rw [hk] at e
        exact .inl (HX.out.trans e.symm)
      · rw [hk] at e
        simp only [Option.some.injEq] at e
        refine .inr ?_
        rw [e]
        simp
        omega
    have hMl := HMI.out.lt
    have hXg : ∀ k, (Value.slice A1 (0 + 1) c1).ownBlock = some k → k ≠ g ∧ k ≠ m := fun k hk => by
      rcases hX1 k hk with h | h
      · exact ⟨fun e => HG.out (by rw [h, e]), HXM.out k h⟩
      · have := HB.out.lt
        exact ⟨by omega, by omega⟩
    have hT3 : Turn (fun k => k = m) _ w3 := Turn.ofGrown hg3 (fun k hk => by cases hk; rfl)
    have hTV : Turn (fun _ => False) W V := Turn.ofBelow HV.out
    have hTW : Turn (fun k => k = g ∨ X = some k ∨ k = m) W w3 := (((hTV.mono fun k _ h => h.elim).then_ hT1 fun k _ hk => .inr (.inl hk)).then_ hT2 fun k _ hk => .inl hk).then_ hT3 fun k _ hk => .inr (.inr hk)
    refine ⟨rfl, (Value.slice A1 (0 + 1) c1).ownBlock, some m, ?_, ?_, ?_, ?_⟩
    · refine ⟨A1, c1, by simpa using hT3.bk hb2 (Ne.symm HMg.out), ?_, .inr ⟨m, rfl, hm3⟩, by simp, fun e => (hXg g e).1 rfl, fun k hk => by cases hk; exact ⟨fun e => (hXg m e).2 rfl, HMg.out⟩⟩
      have := hT3.own (hT2.own ho1 (fun k hk e => (hXg k hk).1 e)) (fun k hk e => (hXg k hk).2 e)
      simpa [OwS] using this
    · refine HT0.out.then_ hTW fun k hk hg => ?_
      rcases hg with h | h | rfl
      · exact .inl h
      · exact .inr (.inl h)
      · rcases HML.out with h | h
        · exact .inr (.inr h)
        · omega
    · intro k hk
      rcases hX1 k hk with h | h
      · exact .inl h
      · exact .inr (by omega)
    · intro k hk
      cases hk
      exact HML.out

theorem add_any (g : Nat) (X M : Option Nat) (l : List ByteArray) (s : ByteArray) (w : World) (h : ST w g X M l) (hl : l.length < 4096) (hs : s.size ≤ 1099511627776) (hf : findO l s = none) :
    Calls Try.prog 24 #[.pointer (some ⟨g, 0, none⟩), sv s] w fun e w' => e = .returned (.int .u32 (l.length : Int)) ∧
      ∃ X' M', ST w' g X' M' (l ++ [s]) ∧ Turn (Fp2 g X M) w w' ∧ (∀ k, X' = some k → X = some k ∨ w.heap.size ≤ k) ∧ ∀ k, M' = some k → M = some k ∨ w.heap.size ≤ k := by
  cases M with
  | none => exact add_none g X none l s w h rfl hl hs hf
  | some m => exact add_some g X (some m) l s w h ⟨m, rfl⟩ hl hs hf
end Go.Proofs.Ytaejidchoaejkaa
