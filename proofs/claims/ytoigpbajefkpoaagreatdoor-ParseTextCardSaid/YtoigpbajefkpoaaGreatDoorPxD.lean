/- Texts, packed: SyT SyU SyL PaQ -/
import Derived.Test.YtoigpbajefkpoaaGreatDoorPxB
import Derived.Test.YtoigpbajefkpoaaGreatDoorPxC
import Derived.WalkSpells
import Derived.Lib.SliceRun
set_option linter.unusedVariables false
set_option linter.unusedSimpArgs false
namespace Go.Proofs.YtoigpbajefkpoaaGreatDoor
open Go Go.RowKit

/-- The map, if there is one, tells of each name its number; where there is none there is no name. -/
def MapO (w : World) (M : Option Nat) (l : List ByteArray) : Prop := (M = none ∧ l = []) ∨ ∃ m, M = some m ∧ MapIs w m l
/-- The program's table at block g: names l in a row of its own in block X, their numbers in the map at block M. -/
def ST (w : World) (g : Nat) (X M : Option Nat) (l : List ByteArray) : Prop :=
  ∃ A c, Bk w g 88 [.slice A l.length c, .map M] ∧ OwS w 0 A c l.length l ∧ MapO w M l ∧ X = (Value.slice A l.length c).ownBlock ∧ X ≠ some g ∧ ∀ m, M = some m → X ≠ some m ∧ m ≠ g
def Fp2 (g : Nat) (X M : Option Nat) (k : Nat) : Prop := k = g ∨ X = some k ∨ M = some k
theorem MapO.turn {G : Nat → Prop} {w w' : World} {M : Option Nat} {l : List ByteArray} (h : MapO w M l) (ht : Turn G w w') (hn : ∀ m, M = some m → ¬ G m) : MapO w' M l := by
  rcases h with h | ⟨m, h1, h2⟩
  · exact .inl h
  · exact .inr ⟨m, h1, h2.turn ht (hn m h1)⟩
theorem ST.turn {G : Nat → Prop} {w w' : World} {g : Nat} {X M : Option Nat} {l : List ByteArray} (h : ST w g X M l) (ht : Turn G w w') (hn : ∀ k, Fp2 g X M k → ¬ G k) : ST w' g X M l := by
  obtain ⟨A, c, h1, h2, h3, h4, h5⟩ := h
  exact ⟨A, c, ht.bk h1 (hn g (.inl rfl)), ht.own h2 (fun k hk => hn k (.inr (.inl (h4.trans hk)))), h3.turn ht (fun m hm => hn m (.inr (.inr hm))), h4, h5⟩
theorem ST.lt {w : World} {g : Nat} {X M : Option Nat} {l : List ByteArray} (h : ST w g X M l) : ∀ k, Fp2 g X M k → k < w.heap.size := by
  obtain ⟨A, c, h1, h2, h3, h4, h5⟩ := h
  rintro k (rfl | hk | hk)
  · exact h1.lt
  · exact (World.ownsRow.lt h2 k (h4.symm.trans hk)).2
  · rcases h3 with ⟨h, _⟩ | ⟨m, h, h6⟩
    · rw [h] at hk
      cases hk
    · rw [h] at hk
      cases hk
      exact h6.lt
theorem anyd_load1 (ty : TypeId) {ops : Array Oper} {E : Prop} {o : Oper} {a : Act} {K : Act → World → Prop} {Q : Exit → Act → World → Prop} {w : World} (hwant : Region.wanted o (yielded ops a.tmps) = true) (x : Operand)
    (hty : ty = 22) (ho : o.op = .load ty x) (b i : Nat) (v : Value) (hx : a.eval x = .pointer (some ⟨b, i, none⟩)) (hc : w.cell? ⟨b, i, none⟩ = some v)
    (h : K (a.put o.dst v) w) : if Region.wanted o (yielded ops a.tmps) = true then Oper.wp Tryz.prog o a w K Q else E := by
  subst hty
  rw [if_pos hwant]
  unfold Oper.wp execOp
  simp only [ho, hx]
  go_simp
  exact h
/-- 'n, is := m[name]' of no map. -/
theorem look_none {ops : Array Oper} {rest : List Oper} {o : Oper} {a : Act} {Q : Exit → Act → World → Prop} (w : World) (hg : o.guard = none) (m x : Operand) (hop : o.op = Op.lookup 86 m x true)
    (s : ByteArray) (hm : a.eval m = .map none) (hx : a.eval x = sv s) (hs : s.size ≤ maxLen)
    (hK : wpList Tryz.prog ops Q rest (a.put o.dst (.tuple #[.int .u32 0, .bool false])) w) : wpList Tryz.prog ops Q (o :: rest) a w := by
  refine wpList_plain hg fun K hK' => ?_
  have hr := Go.Maps.look_nil (P := Tryz.prog) (w := w) true key_law Tryz.underlying86 (zero_u32 w) (key_of hs)
  unfold Oper.wp
  simp [execOp, hop, hm, hx, hr, Result.andThen]
  exact hK' _ _ hK

theorem mk_map (w : World) : (Instr.makeMap 86 none).run Tryz.prog w = .ok (.map (some w.heap.size)) (w.alloc (.map #[] 0)) := by kernel_rfl

set_option maxRecDepth 100000 in
set_option maxHeartbeats 1000000 in
theorem find_any (g : Nat) (X M : Option Nat) (l : List ByteArray) (s : ByteArray) (w : World) (h : ST w g X M l) (hs : s.size ≤ maxLen) :
    Calls Tryz.prog 26 #[.pointer (some ⟨g, 0, none⟩), sv s] w fun e w' => e = .returned (.tuple #[.int .u32 (((findO l s).getD 0 : Nat) : Int), .bool (findO l s).isSome]) ∧ w = w' := by
  obtain ⟨A, c, hb, ho, hM, hX, hg, hXM⟩ := id h
  have cm := hb.cell 1
  rw [show [Value.slice A l.length c, .map M][1]? = some (Value.map M) from rfl] at cm
  clear hb ho hX hg hXM h
  rcases hM with ⟨rfl, rfl⟩ | ⟨m, rfl, hm⟩
  · go_enter Tryz.func26, Tryz.ntmps26
    repeat (first | (at_lookup; refine look_none w rfl _ _ rfl s rfl rfl hs ?_) | go_step)
    go_ret2
    exact ⟨rfl, rfl⟩
  · have HM := Lib.hid hm
    clear hm
    cases hf : findO l s with
    | some k =>
      have HF := Lib.hid hf
      clear hf
      go_enter Tryz.func26, Tryz.ntmps26
      repeat (first | (at_lookup; refine look_is w rfl _ _ rfl m l s k rfl rfl hs HM.out HF.out ?_) | go_step)
      go_ret2
      exact ⟨rfl, rfl⟩
    | none =>
      have HF := Lib.hid hf
      clear hf
      go_enter Tryz.func26, Tryz.ntmps26
      repeat (first | (at_lookup; refine look_not w rfl _ _ rfl m l s rfl rfl hs HM.out HF.out ?_) | go_step)
      go_ret2
      exact ⟨rfl, rfl⟩

set_option maxRecDepth 100000 in
set_option maxHeartbeats 1000000 in
theorem add_some : ∀ (g : Nat) (X M : Option Nat) (l : List ByteArray) (s : ByteArray) (w : World) (h : ST w g X M l) (hM0 : ∃ m, M = some m) (hl : l.length < 4096) (hs : s.size ≤ 1099511627776) (hf : findO l s = none),
    Calls Tryz.prog 44 #[.pointer (some ⟨g, 0, none⟩), sv s] w fun e w' => e = .returned (.int .u32 (l.length : Int)) ∧
      ∃ X' M', ST w' g X' M' (l ++ [s]) ∧ Turn (Fp2 g X M) w w' ∧ (∀ k, X' = some k → X = some k ∨ w.heap.size ≤ k) ∧ ∀ k, M' = some k → M = some k ∨ w.heap.size ≤ k := by
  intro g X M l s w h hM0 hl hs hf
  obtain ⟨A, c, hb, ho, hM, hX, hg, hXM⟩ := id h
  have hlt := h.lt
  have hgl := hb.lt
  have HLT := Lib.hid hlt
  have HX := Lib.hid hX
  have HG := Lib.hid hg
  have HF := Lib.hid hf
  have hlw : IntKind.u32.wrap (l.length : Int) = (l.length : Int) := by rw [IntKind.wrap_u32]; omega
  clear hlt hX hg hf h
  obtain ⟨m, rfl⟩ := hM0
  obtain ⟨m', hm', hmi⟩ : ∃ m', some m = some m' ∧ MapIs w m' l := by
    rcases hM with ⟨h, _⟩ | h
    · cases h
    · exact h
  cases hm'
  obtain ⟨hXm, hmg⟩ := hXM m rfl
  have cm := hb.cell 1
  rw [show [Value.slice A l.length c, .map (some m)][1]? = some (Value.map (some m)) from rfl] at cm
  have HB := Lib.hid hb
  have HO := Lib.hid ho
  have HMI := Lib.hid hmi
  have HXm := Lib.hid hXm
  have HMg := Lib.hid hmg
  have HT0 := Lib.hid (Turn.refl (Fp2 g X (some m)) w)
  have hq := run_eql_map_nil (P := Tryz.prog) w 86 9 44 (some m) Tryz.underlying86
  simp only [Option.isNone] at hq
  have HML := Lib.hid (show (some m = some m ∨ w.heap.size ≤ m) from .inl rfl)
  have HXM := Lib.hid (show ∀ k, X = some k → k ≠ m from fun k hk e => hXm (by rw [hk, e]))
  have HXl := Lib.hid (show ∀ k, X = some k → k < w.heap.size from fun k hk => HLT.out k (.inr (.inl hk)))
  have hsz := Nat.le_refl w.heap.size
  clear hb ho hM hXM hmi hXm hmg
  obtain ⟨W, hW⟩ : ∃ W, W = w := ⟨_, rfl⟩
  subst hW
  go_enter Tryz.func44, Tryz.ntmps44
  repeat go_step
  have cg : ∀ V : World, Below W.heap.size W V → V.cell? ⟨g, 0, none⟩ = some (.slice A l.length c) := fun V hV => by
    have h := (HB.out.later hV).cell 0
    rw [h]
    rfl
  have CG := Lib.hid cg
  clear cg
  refine wp_region_any (by kernel_rfl) ?_
  try (change wpAny _ _ _ _ _ _ _ (World.drew _))
  refine wpAny_meet (b := ?ad1) (fun V => Below W.heap.size W V) ?cd1 ?rd1
  case rd1 =>
    intro hEnd
    have hf0 : Below W.heap.size W W.drew := belowDrews (Below.refl _ W) 1
    refine wpAny_take (i := 0) (oi := ?p2) (v := ?v2) ?a2 (by kernel_rfl) ?b2 ?c2 ?q2 ?y2 ?z2
    case a2 => (simp only [List.getElem?_toArray, List.getElem?_cons_succ, List.getElem?_cons_zero]; exact rfl)
    case b2 => kernel_rfl
    case c2 => kernel_rfl
    case q2 => exact fun _ _ _ h => h
    case y2 =>
      refine Or.inl ⟨by rfl, ?_⟩
      intro w
      go_simp
      (try with_reducible rfl)
    try simp only [Act.put, List.setIfInBounds_toArray, List.set_cons_zero, List.set_cons_succ]
    refine wpAny_take (i := 1) (oi := ?p3) (v := ?v3) ?a3 (by kernel_rfl) ?b3 ?c3 ?q3 ?y3 ?z3
    case a3 => (simp only [List.getElem?_toArray, List.getElem?_cons_succ, List.getElem?_cons_zero]; exact rfl)
    case b3 => kernel_rfl
    case c3 => kernel_rfl
    case q3 => exact fun _ _ _ h => h
    case y3 =>
      refine Or.inl ⟨by rfl, ?_⟩
      intro w
      go_simp
      (try with_reducible rfl)
    try simp only [Act.put, List.setIfInBounds_toArray, List.set_cons_zero, List.set_cons_succ]
    refine wpAny_take (i := 2) (oi := ?p4) (v := ?v4) ?a4 (by kernel_rfl) ?b4 ?c4 ?q4 ?y4 ?z4
    case a4 => (simp only [List.getElem?_toArray, List.getElem?_cons_succ, List.getElem?_cons_zero]; exact rfl)
    case b4 => kernel_rfl
    case c4 => kernel_rfl
    case q4 => exact fun _ _ _ h => h
    case y4 =>
      refine Or.inl ⟨by rfl, ?_⟩
      intro w
      go_simp
      (try with_reducible rfl)
    try simp only [Act.put, List.setIfInBounds_toArray, List.set_cons_zero, List.set_cons_succ]
    refine wpAny_take (i := 6) (oi := ?p5) (v := ?v5) ?a5 (by kernel_rfl) ?b5 ?c5 ?q5 ?y5 ?z5
    case a5 => (simp only [List.getElem?_toArray, List.getElem?_cons_succ, List.getElem?_cons_zero]; exact rfl)
    case b5 => kernel_rfl
    case c5 => kernel_rfl
    case q5 => exact fun _ _ _ h => h
    case y5 =>
      refine Or.inl ⟨by rfl, ?_⟩
      intro w
      go_simp
      (try with_reducible rfl)
    try simp only [Act.put, List.setIfInBounds_toArray, List.set_cons_zero, List.set_cons_succ]
    refine wpAny_ready (rs := [3, 7]) (by kernel_rfl) (by simp) ?_
    refine AllReady.cons (o := ?od6) ?hod6 (fun K hK => ?kd6) ?md6
    case hod6 => (simp only [List.getElem?_toArray, List.getElem?_cons_succ, List.getElem?_cons_zero]; exact rfl)
    case kd6 =>
      refine anyd_load1 _ (by rfl) (.tmp 17) rfl rfl g 0 _ (by rfl) (CG.out _ (by exact hf0)) ?_
      refine hK _ _ ?_
      clear hK K
      try simp only [Act.put, List.setIfInBounds_toArray, List.set_cons_zero, List.set_cons_succ]
      refine wpAny_take (i := 4) (oi := ?p7) (v := ?v7) ?a7 (by kernel_rfl) ?b7 ?c7 ?q7 ?y7 ?z7
      case a7 => (simp only [List.getElem?_toArray, List.getElem?_cons_succ, List.getElem?_cons_zero]; exact rfl)
      case b7 => kernel_rfl
      case c7 => kernel_rfl
      case q7 => exact fun _ _ _ h => h
      case y7 =>
        refine Or.inl ⟨by rfl, ?_⟩
        intro w
        go_simp
        (try with_reducible rfl)
      try simp only [Act.put, List.setIfInBounds_toArray, List.set_cons_zero, List.set_cons_succ]
      refine wpAny_take (i := 5) (oi := ?p8) (v := ?v8) ?a8 (by kernel_rfl) ?b8 ?c8 ?q8 ?y8 ?z8
      case a8 => (simp only [List.getElem?_toArray, List.getElem?_cons_succ, List.getElem?_cons_zero]; exact rfl)
      case b8 => kernel_rfl
      case c8 => kernel_rfl
      case q8 => exact fun _ _ _ h => h
      case y8 =>
        refine Or.inl ⟨by rfl, ?_⟩
        intro w
        go_simp
        (try with_reducible rfl)
      try simp only [Act.put, List.setIfInBounds_toArray, List.set_cons_zero, List.set_cons_succ]
      refine wpAny_ready (rs := [7]) (by kernel_rfl) (by simp) ?_
      refine AllReady.cons (o := ?od9) ?hod9 (fun K hK => ?kd9) ?md9
      case hod9 => (simp only [List.getElem?_toArray, List.getElem?_cons_succ, List.getElem?_cons_zero]; exact rfl)
      case kd9 =>
        go_simp
        refine (sclone_any s _ hs).mono ?_
        rintro e Vd9 ⟨rfl, hvd9⟩
        have hfd9 : Below W.heap.size W Vd9 := Below.trans (by exact hf0) (hvd9.mono (hf0).size)
        (try dsimp only)
        refine hK _ _ ?_
        clear hK K
        try simp only [Act.put, List.setIfInBounds_toArray, List.set_cons_zero, List.set_cons_succ]
        refine wpAny_take (i := 8) (oi := ?p10) (v := ?v10) ?a10 (by kernel_rfl) ?b10 ?c10 ?q10 ?y10 ?z10
        case a10 => (simp only [List.getElem?_toArray, List.getElem?_cons_succ, List.getElem?_cons_zero]; exact rfl)
        case b10 => kernel_rfl
        case c10 => kernel_rfl
        case q10 => exact fun _ _ _ h => h
        case y10 =>
          refine Or.inl ⟨by rfl, ?_⟩
          intro w
          go_simp
          (try with_reducible rfl)
        try simp only [Act.put, List.setIfInBounds_toArray, List.set_cons_zero, List.set_cons_succ]
        refine wpAny_take (i := 9) (oi := ?p11) (v := ?v11) ?a11 (by kernel_rfl) ?b11 ?c11 ?q11 ?y11 ?z11
        case a11 => (simp only [List.getElem?_toArray, List.getElem?_cons_succ, List.getElem?_cons_zero]; exact rfl)
        case b11 => kernel_rfl
        case c11 => kernel_rfl
        case q11 => exact fun _ _ _ h => h
        case y11 =>
          refine Or.inl ⟨by rfl, ?_⟩
          intro w
          go_simp
          (try with_reducible rfl)
        try simp only [Act.put, List.setIfInBounds_toArray, List.set_cons_zero, List.set_cons_succ]
        exact wpAny_done (by kernel_rfl) (hEnd _ hfd9) _
      exact AllReady.nil
    refine AllReady.cons (o := ?od12) ?hod12 (fun K hK => ?kd12) ?md12
    case hod12 => (simp only [List.getElem?_toArray, List.getElem?_cons_succ, List.getElem?_cons_zero]; exact rfl)
    case kd12 =>
      go_simp
      refine (sclone_any s _ hs).mono ?_
      rintro e Vd12 ⟨rfl, hvd12⟩
      have hfd12 : Below W.heap.size W Vd12 := Below.trans (by exact hf0) (hvd12.mono (hf0).size)
      (try dsimp only)
      refine hK _ _ ?_
      clear hK K
      try simp only [Act.put, List.setIfInBounds_toArray, List.set_cons_zero, List.set_cons_succ]
      refine wpAny_ready (rs := [3]) (by kernel_rfl) (by simp) ?_
      refine AllReady.cons (o := ?od13) ?hod13 (fun K hK => ?kd13) ?md13
      case hod13 => (simp only [List.getElem?_toArray, List.getElem?_cons_succ, List.getElem?_cons_zero]; exact rfl)
      case kd13 =>
        refine anyd_load1 _ (by rfl) (.tmp 17) rfl rfl g 0 _ (by rfl) (CG.out _ (by exact hfd12)) ?_
        refine hK _ _ ?_
        clear hK K
        try simp only [Act.put, List.setIfInBounds_toArray, List.set_cons_zero, List.set_cons_succ]
        refine wpAny_take (i := 4) (oi := ?p14) (v := ?v14) ?a14 (by kernel_rfl) ?b14 ?c14 ?q14 ?y14 ?z14
        case a14 => (simp only [List.getElem?_toArray, List.getElem?_cons_succ, List.getElem?_cons_zero]; exact rfl)
        case b14 => kernel_rfl
        case c14 => kernel_rfl
        case q14 => exact fun _ _ _ h => h
        case y14 =>
          refine Or.inl ⟨by rfl, ?_⟩
          intro w
          go_simp
          (try with_reducible rfl)
        try simp only [Act.put, List.setIfInBounds_toArray, List.set_cons_zero, List.set_cons_succ]
        refine wpAny_take (i := 5) (oi := ?p15) (v := ?v15) ?a15 (by kernel_rfl) ?b15 ?c15 ?q15 ?y15 ?z15
        case a15 => (simp only [List.getElem?_toArray, List.getElem?_cons_succ, List.getElem?_cons_zero]; exact rfl)
        case b15 => kernel_rfl
        case c15 => kernel_rfl
        case q15 => exact fun _ _ _ h => h
        case y15 =>
          refine Or.inl ⟨by rfl, ?_⟩
          intro w
          go_simp
          (try with_reducible rfl)
        try simp only [Act.put, List.setIfInBounds_toArray, List.set_cons_zero, List.set_cons_succ]
        refine wpAny_take (i := 8) (oi := ?p16) (v := ?v16) ?a16 (by kernel_rfl) ?b16 ?c16 ?q16 ?y16 ?z16
        case a16 => (simp only [List.getElem?_toArray, List.getElem?_cons_succ, List.getElem?_cons_zero]; exact rfl)
        case b16 => kernel_rfl
        case c16 => kernel_rfl
        case q16 => exact fun _ _ _ h => h
        case y16 =>
          refine Or.inl ⟨by rfl, ?_⟩
          intro w
          go_simp
          (try with_reducible rfl)
        try simp only [Act.put, List.setIfInBounds_toArray, List.set_cons_zero, List.set_cons_succ]
        refine wpAny_take (i := 9) (oi := ?p17) (v := ?v17) ?a17 (by kernel_rfl) ?b17 ?c17 ?q17 ?y17 ?z17
        case a17 => (simp only [List.getElem?_toArray, List.getElem?_cons_succ, List.getElem?_cons_zero]; exact rfl)
        case b17 => kernel_rfl
        case c17 => kernel_rfl
        case q17 => exact fun _ _ _ h => h
        case y17 =>
          refine Or.inl ⟨by rfl, ?_⟩
          intro w
          go_simp
          (try with_reducible rfl)
        try simp only [Act.put, List.setIfInBounds_toArray, List.set_cons_zero, List.set_cons_succ]
        exact wpAny_done (by kernel_rfl) (hEnd _ hfd12) _
      exact AllReady.nil
    exact AllReady.nil
  case cd1 =>
    intro V hV
    have hbV := HB.out.later hV
    have hoV := ownBelow HO.out hV (Nat.le_refl _)
    have hmV := HMI.out.turn (Turn.ofBelow (G := fun _ => False) hV) (fun h => h)
    have hsV := hV.size
    have HMV := Lib.hid hmV
    have HOV := Lib.hid hoV
    have HBV := Lib.hid hbV
    have HV := Lib.hid hV
    have cgV := hbV.cell 0
    rw [show [Value.slice A l.length c, .map (some m)][0]? = some (Value.slice A l.length c) from rfl] at cgV
    clear hV hbV hoV hmV
    repeat (first
      | (at_builtin; refine appS _ rfl (.tmp 27) (.tmp 29) rfl 0 A c l.length l rfl (World.ownsRow.alloc HOV.out _) (V.heap.size + 1) (some ⟨V.heap.size, 0, none⟩) 1 1 [s] rfl (rdS1 V s) (by omega) (Nat.zero_le _) ?_
         intro A1 c1 w1 ho1 hg1 hk1
         have hT1 : Turn (fun k => X = some k) V w1 := ((Turn.refl _ V).alloc _).trans (Turn.ofGrown hg1 (fun k hk => by rw [HX.out]; exact hk))
         have hb1 : Bk w1 g 88 [.slice A l.length c, .map (some m)] := hT1.bk HBV.out HG.out
         have hm1 : MapIs w1 m l := HMV.out.turn hT1 HXm.out
         have cg1 := hb1.cell 0
         rw [show [Value.slice A l.length c, .map (some m)][0]? = some (Value.slice A l.length c) from rfl] at cg1
         have fg1 := hb1.frozen 0
         have hb2 := hb1.set_ 0 (.slice A1 (l.length + 1) c1)
         have cm2 := hb2.cell 1
         rw [show ([Value.slice A l.length c, .map (some m)].set 0 (.slice A1 (l.length + 1) c1))[1]? = some (.map (some m)) from rfl] at cm2
         have hT2 : Turn (fun k => k = g) w1 (w1.setCell ⟨g, 0, none⟩ (.slice A1 (l.length + 1) c1)) := Turn.setCell (Turn.refl (fun k => k = g) w1) (p := ⟨g, 0, none⟩) (fun _ => rfl) _
         have hm2 := hm1.turn hT2 HMg.out)
      | (at_mapUpdate; refine put_new _ rfl _ _ _ rfl m l s rfl rfl rfl (by simp only [maxLen]; omega) hm2 HF.out (by first | omega | simp) ?_; intro w3 hm3 hg3)
      | go_step)
    go_ret
    have hX1 : ∀ k, (Value.slice A1 (l.length + 1) c1).ownBlock = some k → X = some k ∨ W.heap.size ≤ k := fun k hk => by
      rcases hk1 with e | e
      · rw [hk] at e
        exact .inl (HX.out.trans e.symm)
      · rw [hk] at e
        simp only [Option.some.injEq] at e
        refine .inr ?_
        rw [e]
        simp
        omega
    have hMl := HMI.out.lt
    have hXg : ∀ k, (Value.slice A1 (l.length + 1) c1).ownBlock = some k → k ≠ g ∧ k ≠ m := fun k hk => by
      rcases hX1 k hk with h | h
      · exact ⟨fun e => HG.out (by rw [h, e]), HXM.out k h⟩
      · have := HB.out.lt
        exact ⟨by omega, by omega⟩
    have hT3 : Turn (fun k => k = m) _ w3 := Turn.ofGrown hg3 (fun k hk => by cases hk; rfl)
    have hTV : Turn (fun _ => False) W V := Turn.ofBelow HV.out
    have hTW : Turn (fun k => k = g ∨ X = some k ∨ k = m) W w3 := (((hTV.mono fun k _ h => h.elim).then_ hT1 fun k _ hk => .inr (.inl hk)).then_ hT2 fun k _ hk => .inl hk).then_ hT3 fun k _ hk => .inr (.inr hk)
    refine ⟨rfl, (Value.slice A1 (l.length + 1) c1).ownBlock, some m, ?_, ?_, ?_, ?_⟩
    · refine ⟨A1, c1, by simpa using hT3.bk hb2 (Ne.symm HMg.out), ?_, .inr ⟨m, rfl, hm3⟩, by simp, fun e => (hXg g e).1 rfl, fun k hk => by cases hk; exact ⟨fun e => (hXg m e).2 rfl, HMg.out⟩⟩
      have := hT3.own (hT2.own ho1 (fun k hk e => (hXg k hk).1 e)) (fun k hk e => (hXg k hk).2 e)
      simpa [OwS] using this
    · refine HT0.out.then_ hTW fun k hk hg => ?_
      rcases hg with h | h | rfl
      · exact .inl h
      · exact .inr (.inl h)
      · rcases HML.out with h | h
        · exact .inr (.inr h)
        · omega
    · intro k hk
      rcases hX1 k hk with h | h
      · exact .inl h
      · exact .inr (by omega)
    · intro k hk
      cases hk
      exact HML.out

set_option maxRecDepth 100000 in
set_option maxHeartbeats 1000000 in
theorem add_none : ∀ (g : Nat) (X M : Option Nat) (l : List ByteArray) (s : ByteArray) (w : World) (h : ST w g X M l) (hM0 : M = none) (hl : l.length < 4096) (hs : s.size ≤ 1099511627776) (hf : findO l s = none),
    Calls Tryz.prog 44 #[.pointer (some ⟨g, 0, none⟩), sv s] w fun e w' => e = .returned (.int .u32 (l.length : Int)) ∧
      ∃ X' M', ST w' g X' M' (l ++ [s]) ∧ Turn (Fp2 g X M) w w' ∧ (∀ k, X' = some k → X = some k ∨ w.heap.size ≤ k) ∧ ∀ k, M' = some k → M = some k ∨ w.heap.size ≤ k := by
  intro g X M l s w h hM0 hl hs hf
  obtain ⟨A, c, hb, ho, hM, hX, hg, hXM⟩ := id h
  have hlt := h.lt
  have hgl := hb.lt
  have HLT := Lib.hid hlt
  have HX := Lib.hid hX
  have HG := Lib.hid hg
  have HF := Lib.hid hf
  have hlw : IntKind.u32.wrap (l.length : Int) = (l.length : Int) := by rw [IntKind.wrap_u32]; omega
  clear hlt hX hg hf h
  subst hM0
  obtain rfl : l = [] := by
    rcases hM with ⟨_, h⟩ | ⟨m, h, _⟩
    · exact h
    · cases h
  have hb1 := hb.alloc (.map #[] 0)
  have cm := hb.cell 1
  rw [show [Value.slice A ([] : List ByteArray).length c, .map none][1]? = some (Value.map none) from rfl] at cm
  have cm1 := hb1.cell 1
  rw [show [Value.slice A ([] : List ByteArray).length c, .map none][1]? = some (Value.map none) from rfl] at cm1
  have fm1 := hb1.frozen 1
  have hmk := mk_map w
  have hq := run_eql_map_nil (P := Tryz.prog) w 86 9 44 none Tryz.underlying86
  simp only [Option.isNone] at hq
  have hbW := (hb.set_ 1 (.map (some w.heap.size))).alloc (.map #[] 0)
  have hT2 : Turn (fun k => k = g) w ((w.setCell ⟨g, 1, none⟩ (.map (some w.heap.size))).alloc (.map #[] 0)) :=
    (Turn.setCell (G := fun k => k = g) (p := ⟨g, 1, none⟩) (Turn.refl _ w) (fun _ => rfl) _).alloc _
  have hoW := hT2.own ho (fun k hk e => HG.out (by rw [HX.out, hk, e]))
  have hmW : MapIs ((w.setCell ⟨g, 1, none⟩ (.map (some w.heap.size))).alloc (.map #[] 0)) w.heap.size [] := by
    have h := MapIs.made (w.setCell ⟨g, 1, none⟩ (.map (some w.heap.size)))
    simpa using h
  have HXl := Lib.hid (show ∀ k, X = some k → k < w.heap.size from fun k hk => HLT.out k (.inr (.inl hk)))
  obtain ⟨m, hm⟩ : ∃ m, m = w.heap.size := ⟨_, rfl⟩
  rw [← hm] at hbW hT2 hoW hmW
  have hXm : X ≠ some m := fun e => absurd (HXl.out m e) (by omega)
  have hmg : m ≠ g := by omega
  have HXm := Lib.hid hXm
  have HMg := Lib.hid hmg
  have HXM := Lib.hid (show ∀ k, X = some k → k ≠ m from fun k hk e => hXm (by rw [hk, e]))
  have HML := Lib.hid (show ((none : Option Nat) = some m ∨ w.heap.size ≤ m) from .inr (by omega))
  clear hb hb1 ho hM hXM hXm hmg
  go_enter Tryz.func44, Tryz.ntmps44
  repeat go_step
  rw [← hm]
  have hsz := hT2.size
  obtain ⟨W, hW⟩ : ∃ W, W = (w.setCell ⟨g, 1, none⟩ (.map (some m))).alloc (.map #[] 0) := ⟨_, rfl⟩
  rw [← hW] at hbW hT2 hoW hmW hsz ⊢
  have HB := Lib.hid (show Bk W g 88 [.slice A 0 c, .map (some m)] from hbW)
  have HO := Lib.hid (show OwS W 0 A c 0 [] from hoW)
  have HMI := Lib.hid hmW
  have HT0 := Lib.hid (hT2.mono (G' := Fp2 g X none) fun k _ hk => .inl hk)
  clear hbW hT2 hoW hmW cm1 fm1 hmk hW cm hm
  repeat go_step
  have cg : ∀ V : World, Below W.heap.size W V → V.cell? ⟨g, 0, none⟩ = some (.slice A 0 c) := fun V hV => by
    have h := (HB.out.later hV).cell 0
    rw [h]
    rfl
  have CG := Lib.hid cg
  clear cg
  refine wp_region_any (by kernel_rfl) ?_
  try (change wpAny _ _ _ _ _ _ _ (World.drew _))
  refine wpAny_meet (b := ?ad18) (fun V => Below W.heap.size W V) ?cd18 ?rd18
  case rd18 =>
    intro hEnd
    have hf0 : Below W.heap.size W W.drew := belowDrews (Below.refl _ W) 1
    refine wpAny_take (i := 0) (oi := ?p19) (v := ?v19) ?a19 (by kernel_rfl) ?b19 ?c19 ?q19 ?y19 ?z19
    case a19 => (simp only [List.getElem?_toArray, List.getElem?_cons_succ, List.getElem?_cons_zero]; exact rfl)
    case b19 => kernel_rfl
    case c19 => kernel_rfl
    case q19 => exact fun _ _ _ h => h
    case y19 =>
      refine Or.inl ⟨by rfl, ?_⟩
      intro w
      go_simp
      (try with_reducible rfl)
    try simp only [Act.put, List.setIfInBounds_toArray, List.set_cons_zero, List.set_cons_succ]
    refine wpAny_take (i := 1) (oi := ?p20) (v := ?v20) ?a20 (by kernel_rfl) ?b20 ?c20 ?q20 ?y20 ?z20
    case a20 => (simp only [List.getElem?_toArray, List.getElem?_cons_succ, List.getElem?_cons_zero]; exact rfl)
    case b20 => kernel_rfl
    case c20 => kernel_rfl
    case q20 => exact fun _ _ _ h => h
    case y20 =>
      refine Or.inl ⟨by rfl, ?_⟩
      intro w
      go_simp
      (try with_reducible rfl)
    try simp only [Act.put, List.setIfInBounds_toArray, List.set_cons_zero, List.set_cons_succ]
    refine wpAny_take (i := 2) (oi := ?p21) (v := ?v21) ?a21 (by kernel_rfl) ?b21 ?c21 ?q21 ?y21 ?z21
    case a21 => (simp only [List.getElem?_toArray, List.getElem?_cons_succ, List.getElem?_cons_zero]; exact rfl)
    case b21 => kernel_rfl
    case c21 => kernel_rfl
    case q21 => exact fun _ _ _ h => h
    case y21 =>
      refine Or.inl ⟨by rfl, ?_⟩
      intro w
      go_simp
      (try with_reducible rfl)
    try simp only [Act.put, List.setIfInBounds_toArray, List.set_cons_zero, List.set_cons_succ]
    refine wpAny_take (i := 6) (oi := ?p22) (v := ?v22) ?a22 (by kernel_rfl) ?b22 ?c22 ?q22 ?y22 ?z22
    case a22 => (simp only [List.getElem?_toArray, List.getElem?_cons_succ, List.getElem?_cons_zero]; exact rfl)
    case b22 => kernel_rfl
    case c22 => kernel_rfl
    case q22 => exact fun _ _ _ h => h
    case y22 =>
      refine Or.inl ⟨by rfl, ?_⟩
      intro w
      go_simp
      (try with_reducible rfl)
    try simp only [Act.put, List.setIfInBounds_toArray, List.set_cons_zero, List.set_cons_succ]
    refine wpAny_ready (rs := [3, 7]) (by kernel_rfl) (by simp) ?_
    refine AllReady.cons (o := ?od23) ?hod23 (fun K hK => ?kd23) ?md23
    case hod23 => (simp only [List.getElem?_toArray, List.getElem?_cons_succ, List.getElem?_cons_zero]; exact rfl)
    case kd23 =>
      refine anyd_load1 _ (by rfl) (.tmp 17) rfl rfl g 0 _ (by rfl) (CG.out _ (by exact hf0)) ?_
      refine hK _ _ ?_
      clear hK K
      try simp only [Act.put, List.setIfInBounds_toArray, List.set_cons_zero, List.set_cons_succ]
      refine wpAny_take (i := 4) (oi := ?p24) (v := ?v24) ?a24 (by kernel_rfl) ?b24 ?c24 ?q24 ?y24 ?z24
      case a24 => (simp only [List.getElem?_toArray, List.getElem?_cons_succ, List.getElem?_cons_zero]; exact rfl)
      case b24 => kernel_rfl
      case c24 => kernel_rfl
      case q24 => exact fun _ _ _ h => h
      case y24 =>
        refine Or.inl ⟨by rfl, ?_⟩
        intro w
        go_simp
        (try with_reducible rfl)
      try simp only [Act.put, List.setIfInBounds_toArray, List.set_cons_zero, List.set_cons_succ]
      refine wpAny_take (i := 5) (oi := ?p25) (v := ?v25) ?a25 (by kernel_rfl) ?b25 ?c25 ?q25 ?y25 ?z25
      case a25 => (simp only [List.getElem?_toArray, List.getElem?_cons_succ, List.getElem?_cons_zero]; exact rfl)
      case b25 => kernel_rfl
      case c25 => kernel_rfl
      case q25 => exact fun _ _ _ h => h
      case y25 =>
        refine Or.inl ⟨by rfl, ?_⟩
        intro w
        go_simp
        (try with_reducible rfl)
      try simp only [Act.put, List.setIfInBounds_toArray, List.set_cons_zero, List.set_cons_succ]
      refine wpAny_ready (rs := [7]) (by kernel_rfl) (by simp) ?_
      refine AllReady.cons (o := ?od26) ?hod26 (fun K hK => ?kd26) ?md26
      case hod26 => (simp only [List.getElem?_toArray, List.getElem?_cons_succ, List.getElem?_cons_zero]; exact rfl)
      case kd26 =>
        go_simp
        refine (sclone_any s _ hs).mono ?_
        rintro e Vd26 ⟨rfl, hvd26⟩
        have hfd26 : Below W.heap.size W Vd26 := Below.trans (by exact hf0) (hvd26.mono (hf0).size)
        (try dsimp only)
        refine hK _ _ ?_
        clear hK K
        try simp only [Act.put, List.setIfInBounds_toArray, List.set_cons_zero, List.set_cons_succ]
        refine wpAny_take (i := 8) (oi := ?p27) (v := ?v27) ?a27 (by kernel_rfl) ?b27 ?c27 ?q27 ?y27 ?z27
        case a27 => (simp only [List.getElem?_toArray, List.getElem?_cons_succ, List.getElem?_cons_zero]; exact rfl)
        case b27 => kernel_rfl
        case c27 => kernel_rfl
        case q27 => exact fun _ _ _ h => h
        case y27 =>
          refine Or.inl ⟨by rfl, ?_⟩
          intro w
          go_simp
          (try with_reducible rfl)
        try simp only [Act.put, List.setIfInBounds_toArray, List.set_cons_zero, List.set_cons_succ]
        refine wpAny_take (i := 9) (oi := ?p28) (v := ?v28) ?a28 (by kernel_rfl) ?b28 ?c28 ?q28 ?y28 ?z28
        case a28 => (simp only [List.getElem?_toArray, List.getElem?_cons_succ, List.getElem?_cons_zero]; exact rfl)
        case b28 => kernel_rfl
        case c28 => kernel_rfl
        case q28 => exact fun _ _ _ h => h
        case y28 =>
          refine Or.inl ⟨by rfl, ?_⟩
          intro w
          go_simp
          (try with_reducible rfl)
        try simp only [Act.put, List.setIfInBounds_toArray, List.set_cons_zero, List.set_cons_succ]
        exact wpAny_done (by kernel_rfl) (hEnd _ hfd26) _
      exact AllReady.nil
    refine AllReady.cons (o := ?od29) ?hod29 (fun K hK => ?kd29) ?md29
    case hod29 => (simp only [List.getElem?_toArray, List.getElem?_cons_succ, List.getElem?_cons_zero]; exact rfl)
    case kd29 =>
      go_simp
      refine (sclone_any s _ hs).mono ?_
      rintro e Vd29 ⟨rfl, hvd29⟩
      have hfd29 : Below W.heap.size W Vd29 := Below.trans (by exact hf0) (hvd29.mono (hf0).size)
      (try dsimp only)
      refine hK _ _ ?_
      clear hK K
      try simp only [Act.put, List.setIfInBounds_toArray, List.set_cons_zero, List.set_cons_succ]
      refine wpAny_ready (rs := [3]) (by kernel_rfl) (by simp) ?_
      refine AllReady.cons (o := ?od30) ?hod30 (fun K hK => ?kd30) ?md30
      case hod30 => (simp only [List.getElem?_toArray, List.getElem?_cons_succ, List.getElem?_cons_zero]; exact rfl)
      case kd30 =>
        refine anyd_load1 _ (by rfl) (.tmp 17) rfl rfl g 0 _ (by rfl) (CG.out _ (by exact hfd29)) ?_
        refine hK _ _ ?_
        clear hK K
        try simp only [Act.put, List.setIfInBounds_toArray, List.set_cons_zero, List.set_cons_succ]
        refine wpAny_take (i := 4) (oi := ?p31) (v := ?v31) ?a31 (by kernel_rfl) ?b31 ?c31 ?q31 ?y31 ?z31
        case a31 => (simp only [List.getElem?_toArray, List.getElem?_cons_succ, List.getElem?_cons_zero]; exact rfl)
        case b31 => kernel_rfl
        case c31 => kernel_rfl
        case q31 => exact fun _ _ _ h => h
        case y31 =>
          refine Or.inl ⟨by rfl, ?_⟩
          intro w
          go_simp
          (try with_reducible rfl)
        try simp only [Act.put, List.setIfInBounds_toArray, List.set_cons_zero, List.set_cons_succ]
        refine wpAny_take (i := 5) (oi := ?p32) (v := ?v32) ?a32 (by kernel_rfl) ?b32 ?c32 ?q32 ?y32 ?z32
        case a32 => (simp only [List.getElem?_toArray, List.getElem?_cons_succ, List.getElem?_cons_zero]; exact rfl)
        case b32 => kernel_rfl
        case c32 => kernel_rfl
        case q32 => exact fun _ _ _ h => h
        case y32 =>
          refine Or.inl ⟨by rfl, ?_⟩
          intro w
          go_simp
          (try with_reducible rfl)
        try simp only [Act.put, List.setIfInBounds_toArray, List.set_cons_zero, List.set_cons_succ]
        refine wpAny_take (i := 8) (oi := ?p33) (v := ?v33) ?a33 (by kernel_rfl) ?b33 ?c33 ?q33 ?y33 ?z33
        case a33 => (simp only [List.getElem?_toArray, List.getElem?_cons_succ, List.getElem?_cons_zero]; exact rfl)
        case b33 => kernel_rfl
        case c33 => kernel_rfl
        case q33 => exact fun _ _ _ h => h
        case y33 =>
          refine Or.inl ⟨by rfl, ?_⟩
          intro w
          go_simp
          (try with_reducible rfl)
        try simp only [Act.put, List.setIfInBounds_toArray, List.set_cons_zero, List.set_cons_succ]
        refine wpAny_take (i := 9) (oi := ?p34) (v := ?v34) ?a34 (by kernel_rfl) ?b34 ?c34 ?q34 ?y34 ?z34
        case a34 => (simp only [List.getElem?_toArray, List.getElem?_cons_succ, List.getElem?_cons_zero]; exact rfl)
        case b34 => kernel_rfl
        case c34 => kernel_rfl
        case q34 => exact fun _ _ _ h => h
        case y34 =>
          refine Or.inl ⟨by rfl, ?_⟩
          intro w
          go_simp
          (try with_reducible rfl)
        try simp only [Act.put, List.setIfInBounds_toArray, List.set_cons_zero, List.set_cons_succ]
        exact wpAny_done (by kernel_rfl) (hEnd _ hfd29) _
      exact AllReady.nil
    exact AllReady.nil
  case cd18 =>
    intro V hV
    have hbV := HB.out.later hV
    have hoV := ownBelow HO.out hV (Nat.le_refl _)
    have hmV := HMI.out.turn (Turn.ofBelow (G := fun _ => False) hV) (fun h => h)
    have hsV := hV.size
    have HMV := Lib.hid hmV
    have HOV := Lib.hid hoV
    have HBV := Lib.hid hbV
    have HV := Lib.hid hV
    have cgV := hbV.cell 0
    rw [show [Value.slice A 0 c, .map (some m)][0]? = some (Value.slice A 0 c) from rfl] at cgV
    clear hV hbV hoV hmV
    repeat (first
      | (at_builtin; refine appS _ rfl (.tmp 27) (.tmp 29) rfl 0 A c 0 ([] : List ByteArray) rfl (World.ownsRow.alloc HOV.out _) (V.heap.size + 1) (some ⟨V.heap.size, 0, none⟩) 1 1 [s] rfl (rdS1 V s) (by omega) (Nat.zero_le _) ?_
         intro A1 c1 w1 ho1 hg1 hk1
         have hT1 : Turn (fun k => X = some k) V w1 := ((Turn.refl _ V).alloc _).trans (Turn.ofGrown hg1 (fun k hk => by rw [HX.out]; exact hk))
         have hb1 : Bk w1 g 88 [.slice A 0 c, .map (some m)] := hT1.bk HBV.out HG.out
         have hm1 : MapIs w1 m ([] : List ByteArray) := HMV.out.turn hT1 HXm.out
         have cg1 := hb1.cell 0
         rw [show [Value.slice A 0 c, .map (some m)][0]? = some (Value.slice A 0 c) from rfl] at cg1
         have fg1 := hb1.frozen 0
         have hb2 := hb1.set_ 0 (.slice A1 (0 + 1) c1)
         have cm2 := hb2.cell 1
         rw [show ([Value.slice A 0 c, .map (some m)].set 0 (.slice A1 (0 + 1) c1))[1]? = some (.map (some m)) from rfl] at cm2
         have hT2 : Turn (fun k => k = g) w1 (w1.setCell ⟨g, 0, none⟩ (.slice A1 (0 + 1) c1)) := Turn.setCell (Turn.refl (fun k => k = g) w1) (p := ⟨g, 0, none⟩) (fun _ => rfl) _
         have hm2 := hm1.turn hT2 HMg.out)
      | (at_mapUpdate; refine put_new _ rfl _ _ _ rfl m ([] : List ByteArray) s rfl rfl rfl (by simp only [maxLen]; omega) hm2 HF.out (by first | omega | simp) ?_; intro w3 hm3 hg3)
      | go_step)
    go_ret
    have hX1 : ∀ k, (Value.slice A1 (0 + 1) c1).ownBlock = some k → X = some k ∨ W.heap.size ≤ k := fun k hk => by
      rcases hk1 with e | e
      · rw [hk] at e
        exact .inl (HX.out.trans e.symm)
      · rw [hk] at e
        simp only [Option.some.injEq] at e
        refine .inr ?_
        rw [e]
        simp
        omega
    have hMl := HMI.out.lt
    have hXg : ∀ k, (Value.slice A1 (0 + 1) c1).ownBlock = some k → k ≠ g ∧ k ≠ m := fun k hk => by
      rcases hX1 k hk with h | h
      · exact ⟨fun e => HG.out (by rw [h, e]), HXM.out k h⟩
      · have := HB.out.lt
        exact ⟨by omega, by omega⟩
    have hT3 : Turn (fun k => k = m) _ w3 := Turn.ofGrown hg3 (fun k hk => by cases hk; rfl)
    have hTV : Turn (fun _ => False) W V := Turn.ofBelow HV.out
    have hTW : Turn (fun k => k = g ∨ X = some k ∨ k = m) W w3 := (((hTV.mono fun k _ h => h.elim).then_ hT1 fun k _ hk => .inr (.inl hk)).then_ hT2 fun k _ hk => .inl hk).then_ hT3 fun k _ hk => .inr (.inr hk)
    refine ⟨rfl, (Value.slice A1 (0 + 1) c1).ownBlock, some m, ?_, ?_, ?_, ?_⟩
    · refine ⟨A1, c1, by simpa using hT3.bk hb2 (Ne.symm HMg.out), ?_, .inr ⟨m, rfl, hm3⟩, by simp, fun e => (hXg g e).1 rfl, fun k hk => by cases hk; exact ⟨fun e => (hXg m e).2 rfl, HMg.out⟩⟩
      have := hT3.own (hT2.own ho1 (fun k hk e => (hXg k hk).1 e)) (fun k hk e => (hXg k hk).2 e)
      simpa [OwS] using this
    · refine HT0.out.then_ hTW fun k hk hg => ?_
      rcases hg with h | h | rfl
      · exact .inl h
      · exact .inr (.inl h)
      · rcases HML.out with h | h
        · exact .inr (.inr h)
        · omega
    · intro k hk
      rcases hX1 k hk with h | h
      · exact .inl h
      · exact .inr (by omega)
    · intro k hk
      cases hk
      exact HML.out

theorem add_any (g : Nat) (X M : Option Nat) (l : List ByteArray) (s : ByteArray) (w : World) (h : ST w g X M l) (hl : l.length < 4096) (hs : s.size ≤ 1099511627776) (hf : findO l s = none) :
    Calls Tryz.prog 44 #[.pointer (some ⟨g, 0, none⟩), sv s] w fun e w' => e = .returned (.int .u32 (l.length : Int)) ∧
      ∃ X' M', ST w' g X' M' (l ++ [s]) ∧ Turn (Fp2 g X M) w w' ∧ (∀ k, X' = some k → X = some k ∨ w.heap.size ≤ k) ∧ ∀ k, M' = some k → M = some k ∨ w.heap.size ≤ k := by
  cases M with
  | none => exact add_none g X none l s w h rfl hl hs hf
  | some m => exact add_some g X (some m) l s w h ⟨m, rfl⟩ hl hs hf
end Go.Proofs.YtoigpbajefkpoaaGreatDoor

set_option linter.unusedVariables false
set_option linter.unusedSimpArgs false
namespace Go.Proofs.YtoigpbajefkpoaaGreatDoor
open Go Go.RowKit

set_option maxRecDepth 100000 in
set_option maxHeartbeats 1000000 in
theorem put_any (g : Nat) (X M : Option Nat) (l : List ByteArray) (s : ByteArray) (w : World) (h : ST w g X M l) (hl : l.length ≤ 1000000) (hs : s.size ≤ 1099511627776)
  (hmay : ∀ W : World, Calls Tryz.prog 43 #[sv s] W fun e w' => e = .returned (.bool (mayB s)) ∧ W = w') :
  Calls Tryz.prog 24 #[.pointer (some ⟨g, 0, none⟩), sv s] w fun e w' => e = .returned (.tuple #[.int .u32 ((putL l s).2.1 : Int), .int .i64 ((putL l s).2.2 : Int)]) ∧
   ∃ X' M', ST w' g X' M' (putL l s).1 ∧ Turn (Fp2 g X M) w w' ∧ (∀ k, X' = some k → X = some k ∨ w.heap.size ≤ k) ∧ ∀ k, M' = some k → M = some k ∨ w.heap.size ≤ k := by
 have hstay : ∀ n e : Nat, putL l s = (l, n, e) → ∃ X' M', ST w g X' M' (putL l s).1 ∧ Turn (Fp2 g X M) w w ∧ (∀ k, X' = some k → X = some k ∨ w.heap.size ≤ k) ∧ ∀ k, M' = some k → M = some k ∨ w.heap.size ≤ k :=
  fun n e he => ⟨X, M, by rw [he]; exact h, Turn.refl _ _, fun k hk => .inl hk, fun k hk => .inl hk⟩
 have HSTAY := Lib.hid hstay
 have HMAY := Lib.hid hmay
 have HH := Lib.hid h
 have hsm : s.size ≤ maxLen := by simp only [maxLen]; omega
 clear hstay hmay
 by_cases hm : mayB s = false
 ·
  have hp : putL l s = (l, 0, 8) := by unfold putL; rw [if_pos hm]
  have HP := Lib.hid hp
  clear h hp
  go_enter Tryz.func24, Tryz.ntmps24
  repeat go_step
  refine (HMAY.out w).mono ?_
  rintro e w1 ⟨rfl, rfl⟩
  rw [hm]
  dsimp only
  repeat go_step
  go_ret2
  exact ⟨by rw [HP.out]; rfl, HSTAY.out _ _ HP.out⟩
 ·
  have hm1 : mayB s = true := by simpa using hm
  obtain ⟨A, c, hb, ho, hM, hX, hg, hXM⟩ := id h
  have cg := hb.cell 0
  rw [show [Value.slice A l.length c, .map M][0]? = some (Value.slice A l.length c) from rfl] at cg
  clear hb ho hM hX hg hXM h
  cases hf : findO l s with
  | some k =>
   have hp : putL l s = (l, k, 0) := by unfold putL; rw [if_neg hm, hf]
   have HP := Lib.hid hp
   have HF := Lib.hid hf
   clear hf hp
   go_enter Tryz.func24, Tryz.ntmps24
   repeat go_step
   refine (HMAY.out w).mono ?_
   rintro e w1 ⟨rfl, rfl⟩
   rw [hm1]
   dsimp only
   repeat go_step
   refine (find_any g X M l s w HH.out hsm).mono ?_
   rintro e w1 ⟨rfl, rfl⟩
   rw [HF.out]
   dsimp only [Option.getD, Option.isSome]
   repeat go_step
   go_ret2
   exact ⟨by rw [HP.out]; rfl, HSTAY.out _ _ HP.out⟩
  | none =>
   by_cases hbig : 4096 ≤ l.length
   ·
    have hp : putL l s = (l, 0, 6) := by unfold putL; rw [if_neg hm, hf]; simp [hbig]
    have HP := Lib.hid hp
    have hd : decide ((4096 : Int) ≤ (l.length : Int)) = true := by simp; omega
    have HF := Lib.hid hf
    clear hf hp
    go_enter Tryz.func24, Tryz.ntmps24
    repeat go_step
    refine (HMAY.out w).mono ?_
    rintro e w1 ⟨rfl, rfl⟩
    rw [hm1]
    dsimp only
    repeat go_step
    refine (find_any g X M l s w HH.out hsm).mono ?_
    rintro e w1 ⟨rfl, rfl⟩
    rw [HF.out]
    dsimp only [Option.getD, Option.isSome]
    repeat go_step
    go_ret2
    exact ⟨by rw [HP.out]; rfl, HSTAY.out _ _ HP.out⟩
   ·
    have hp : putL l s = (l ++ [s], l.length, 0) := by unfold putL; rw [if_neg hm, hf]; simp [hbig]
    have HP := Lib.hid hp
    have hd : decide ((4096 : Int) ≤ (l.length : Int)) = false := by simp; omega
    have HF := Lib.hid hf
    clear hf hp
    go_enter Tryz.func24, Tryz.ntmps24
    repeat go_step
    refine (HMAY.out w).mono ?_
    rintro e w1 ⟨rfl, rfl⟩
    rw [hm1]
    dsimp only
    repeat go_step
    refine (find_any g X M l s w HH.out hsm).mono ?_
    rintro e w1 ⟨rfl, rfl⟩
    rw [HF.out]
    dsimp only [Option.getD, Option.isSome]
    repeat go_step
    refine (add_any g X M l s w HH.out (by omega) hs HF.out).mono ?_
    rintro e w1 ⟨rfl, X', M', h1, h2, h3, h4⟩
    dsimp only
    repeat go_step
    go_ret2
    exact ⟨by rw [HP.out]; rfl, X', M', by rw [HP.out]; exact h1, h2, h3, h4⟩

set_option maxRecDepth 100000 in
set_option maxHeartbeats 1000000 in
theorem name_any (g : Nat) (X M : Option Nat) (l : List ByteArray) (n : Nat) (w : World) (h : ST w g X M l) (hn : n < 4294967296) :
  Calls Tryz.prog 128 #[.pointer (some ⟨g, 0, none⟩), .int .u32 (n : Int)] w fun e w' => e = .returned (.tuple #[sv (l.getD n ⟨#[]⟩), .bool (decide (n < l.length))]) ∧ w = w' := by
 obtain ⟨A, c, hb, ho, hM, hX, hg, hXM⟩ := id h
 have cg := hb.cell 0
 rw [show [Value.slice A l.length c, .map M][0]? = some (Value.slice A l.length c) from rfl] at cg
 have hr : Rd w w.heap.size 1 A l.length (l.map sv) := Rd.ofOwn ho
 have HR := Lib.hid hr
 have hml : l.length ≤ maxLen := by
  rcases ho.2 with ⟨_, h0⟩ | ⟨_, _, _, _, _, _, h1, h2, _⟩
  ·
   rw [h0]; exact Nat.zero_le _
  ·
   exact Nat.le_trans h1 h2
 simp only [maxLen] at hml
 have hw1 : IntKind.u64.wrap (l.length : Int) = (l.length : Int) := by rw [IntKind.wrap_u64]; omega
 have hw2 : IntKind.u64.wrap (n : Int) = (n : Int) := by rw [IntKind.wrap_u64]; omega
 clear hb ho hM hX hg hXM h hr
 by_cases hlt : n < l.length
 ·
  have hci : (n : Int) < (l.length : Int) := by omega
  have hd : decide ((l.length : Int) ≤ (n : Int)) = false := by simp; omega
  obtain ⟨b, o, u, hA, hbb, hu, hc⟩ := HR.out.at1 hlt
  subst hA
  obtain ⟨x, hx⟩ : ∃ x, l[n]? = some x := ⟨_, List.getElem?_eq_getElem hlt⟩
  rw [List.getElem?_map, hx] at hu
  simp only [Option.map_some, Option.some.injEq] at hu
  subst hu
  have hxd : l.getD n ⟨#[]⟩ = x := by rw [List.getD_eq_getElem?_getD, hx]; rfl
  have HXD := Lib.hid hxd
  have HD := Lib.hid (decide_eq_true hlt)
  clear hx hxd
  go_enter Tryz.func128, Tryz.ntmps128
  repeat go_step
  go_ret2
  exact ⟨by rw [HXD.out, HD.out]; rfl, rfl⟩
 ·
  have hd : decide ((l.length : Int) ≤ (n : Int)) = true := by simp; omega
  have hxd : l.getD n ⟨#[]⟩ = ⟨#[]⟩ := by rw [List.getD_eq_getElem?_getD, List.getElem?_eq_none (by omega)]; rfl
  have HXD := Lib.hid hxd
  have HD := Lib.hid (decide_eq_false hlt)
  clear hxd
  go_enter Tryz.func128, Tryz.ntmps128
  repeat go_step
  go_ret2
  exact ⟨by rw [HXD.out, HD.out]; rfl, rfl⟩

set_option maxRecDepth 100000 in
set_option maxHeartbeats 1000000 in
theorem len_any (g : Nat) (X M : Option Nat) (l : List ByteArray) (w : World) (h : ST w g X M l) :
  Calls Tryz.prog 19 #[.pointer (some ⟨g, 0, none⟩)] w fun e w' => e = .returned (.int .i64 (l.length : Int)) ∧ w = w' := by
 obtain ⟨A, c, hb, ho, hM, hX, hg, hXM⟩ := id h
 have cg := hb.cell 0
 rw [show [Value.slice A l.length c, .map M][0]? = some (Value.slice A l.length c) from rfl] at cg
 clear hb ho hM hX hg hXM h
 go_enter Tryz.func19, Tryz.ntmps19
 go_wp2
 go_ret
 exact ⟨rfl, rfl⟩

set_option maxRecDepth 100000 in
set_option maxHeartbeats 1000000 in
theorem new_tab (w : World) :
  Calls Tryz.prog 23 #[] w fun e w' => ∃ g, e = .returned (.pointer (some ⟨g, 0, none⟩)) ∧ w.heap.size ≤ g ∧ ST w' g none none [] ∧ Below w.heap.size w w' := by
 go_enter Tryz.func23, Tryz.ntmps23
 go_wp2
 go_ret
 refine ⟨w.heap.size, rfl, Nat.le_refl _, ?_, (Below.refl _ _).alloc (Nat.le_refl _) _⟩
 refine ⟨none, 0, ?_, World.ownsRow_nil _ _ _ _, .inl ⟨rfl, rfl⟩, rfl, by simp, fun m hm => by cases hm⟩
 exact Bk.new w 88 [.slice none 0 0, .map none]
end Go.Proofs.YtoigpbajefkpoaaGreatDoor

set_option linter.unusedVariables false
set_option linter.unusedSimpArgs false
namespace Go.Proofs.YtoigpbajefkpoaaGreatDoor
open Go Go.RowKit

theorem owSLit0 (w : World) (base : Nat) (hb : base ≤ w.heap.size) : OwS (w.alloc (.cells #[] 9)) base (some ⟨w.heap.size, 0, none⟩) 0 0 [] :=
 World.ownsRow_lit (base := base) w #[] 0 hb (by simp [maxLen]) (by simp)
theorem owsBelow {base : Nat} {w0 w w' : World} {A : Option Addr} {c n : Nat} {l : List ByteArray} (hb : Below base w0 w) (hown : OwS w base A c n l) (hg : w.grownBy w' (Value.slice A n c).ownBlock) (hbase : base ≤ w.heap.size) : Below base w0 w' := belowApp hb hown hg hbase

set_option maxRecDepth 100000 in
set_option maxHeartbeats 1000000 in
theorem clone_any (A : Option Addr) (n c B : Nat) (l : List ByteArray) (w : World) (hr : Rd w B 1 A n (l.map sv)) (hB : B ≤ w.heap.size) (hn : n ≤ 1000000) :
  Calls Tryz.prog 34 #[.slice A n c] w fun e w' => ∃ A' c', e = .returned (.slice A' n c') ∧ OwS w' w.heap.size A' c' n l ∧ Below w.heap.size w w' := by
 have hl : l.length = n := by simpa using hr.len1
 cases A with
 | none =>
  have h0 : n = 0 := by
   rcases Nat.eq_zero_or_pos n with h | h
   ·
    exact h
   ·
    obtain ⟨b, o, e, _⟩ := hr.2 h
    cases e
  subst h0
  obtain rfl : l = [] := List.eq_nil_of_length_eq_zero hl
  have hq := Go.Lib.run_eql_slice_nil (P := Tryz.prog) w 22 9 none 0 c 0 0 Tryz.underlying22
  simp only [Option.isNone] at hq
  go_enter Tryz.func34, Tryz.ntmps34
  go_wp2
  go_ret
  exact ⟨none, 0, rfl, World.ownsRow_nil _ _ _ _, Below.refl _ _⟩
 | some a =>
  have hq := Go.Lib.run_eql_slice_nil (P := Tryz.prog) w 22 9 (some a) n c 0 0 Tryz.underlying22
  simp only [Option.isNone] at hq
  go_enter Tryz.func34, Tryz.ntmps34
  repeat (first
   | (at_builtin; refine appS _ rfl (.tmp 5) (.tmp 6) rfl w.heap.size _ 0 0 [] rfl (owSLit0 w _ (Nat.le_refl _)) B (some a) n c l rfl (hr.alloc hB _) (by omega) (by simp) ?_; intro A1 c1 w1 ho1 hg1 _)
   | go_step)
  have hb1 := owsBelow ((Below.refl _ _).alloc (Nat.le_refl _) _) (owSLit0 w _ (Nat.le_refl _)) hg1 (by simp)
  rw [Nat.zero_add, List.nil_append] at ho1
  go_ret
  refine ⟨A1, c1, ?_, ho1, hb1⟩
  first | rfl | simp

set_option maxRecDepth 100000 in
set_option maxHeartbeats 1000000 in
theorem list_any (g : Nat) (X M : Option Nat) (l : List ByteArray) (w : World) (h : ST w g X M l) (hl : l.length ≤ 1000000) :
  Calls Tryz.prog 15 #[.pointer (some ⟨g, 0, none⟩)] w fun e w' => ∃ A' c', e = .returned (.slice A' l.length c') ∧ OwS w' w.heap.size A' c' l.length l ∧ Below w.heap.size w w' := by
 obtain ⟨A, c, hb, ho, hM, hX, hg, hXM⟩ := id h
 have cg := hb.cell 0
 rw [show [Value.slice A l.length c, .map M][0]? = some (Value.slice A l.length c) from rfl] at cg
 have hr : Rd w w.heap.size 1 A l.length (l.map sv) := Rd.ofOwn ho
 have HR := Lib.hid hr
 clear hb ho hM hX hg hXM h hr
 go_enter Tryz.func15, Tryz.ntmps15
 repeat go_step
 refine (clone_any A l.length c w.heap.size l w HR.out (Nat.le_refl _) hl).mono ?_
 rintro e w1 ⟨A1, c1, rfl, ho1, hb1⟩
 dsimp only
 repeat go_step
 go_ret
 exact ⟨A1, c1, rfl, ho1, hb1⟩

/-! ### A table, in words that hide its fields -/
/-- The program's table at block g holds the names l; F: the blocks that it is made of. -/
def Tb (w : World) (g : Nat) (F : Nat → Prop) (l : List ByteArray) : Prop := ∃ X M, ST w g X M l ∧ F = Fp2 g X M
theorem Tb.turn {G F : Nat → Prop} {w w' : World} {g : Nat} {l : List ByteArray} (h : Tb w g F l) (ht : Turn G w w') (hn : ∀ k, F k → ¬ G k) : Tb w' g F l := by
 obtain ⟨X, M, h1, rfl⟩ := h
 exact ⟨X, M, h1.turn ht hn, rfl⟩
theorem Tb.lt {F : Nat → Prop} {w : World} {g : Nat} {l : List ByteArray} (h : Tb w g F l) : ∀ k, F k → k < w.heap.size := by
 obtain ⟨X, M, h1, rfl⟩ := h
 exact h1.lt
theorem Tb.later {F : Nat → Prop} {w w' : World} {g : Nat} {l : List ByteArray} (h : Tb w g F l) (hb : Below w.heap.size w w') : Tb w' g F l :=
 h.turn (Turn.ofBelow (G := fun _ => False) hb) (fun _ _ h => h)
theorem tNew (w : World) : Calls Tryz.prog 23 #[] w fun e w' => ∃ g F, e = .returned (.pointer (some ⟨g, 0, none⟩)) ∧ Tb w' g F [] ∧ (∀ k, F k → w.heap.size ≤ k) ∧ Below w.heap.size w w' := by
 refine (new_tab w).mono ?_
 rintro e w' ⟨g, rfl, hg, h, hb⟩
 refine ⟨g, _, rfl, ⟨none, none, h, rfl⟩, ?_, hb⟩
 rintro k (rfl | hk | hk)
 ·
  exact hg
 ·
  cases hk
 ·
  cases hk
theorem tPut (g : Nat) (F : Nat → Prop) (l : List ByteArray) (s : ByteArray) (w : World) (h : Tb w g F l) (hl : l.length ≤ 1000000) (hs : s.size ≤ 1099511627776)
  (hmay : ∀ W : World, Calls Tryz.prog 43 #[sv s] W fun e w' => e = .returned (.bool (mayB s)) ∧ W = w') :
  Calls Tryz.prog 24 #[.pointer (some ⟨g, 0, none⟩), sv s] w fun e w' => e = .returned (.tuple #[.int .u32 ((putL l s).2.1 : Int), .int .i64 ((putL l s).2.2 : Int)]) ∧
   ∃ F', Tb w' g F' (putL l s).1 ∧ Turn F w w' ∧ ∀ k, F' k → F k ∨ w.heap.size ≤ k := by
 obtain ⟨X, M, h1, rfl⟩ := h
 refine (put_any g X M l s w h1 hl hs hmay).mono ?_
 rintro e w' ⟨rfl, X', M', h2, h3, h4, h5⟩
 refine ⟨rfl, _, ⟨X', M', h2, rfl⟩, h3, ?_⟩
 rintro k (rfl | hk | hk)
 ·
  exact .inl (.inl rfl)
 ·
  rcases h4 k hk with h | h
  ·
   exact .inl (.inr (.inl h))
  ·
   exact .inr h
 ·
  rcases h5 k hk with h | h
  ·
   exact .inl (.inr (.inr h))
  ·
   exact .inr h
theorem tFind (g : Nat) (F : Nat → Prop) (l : List ByteArray) (s : ByteArray) (w : World) (h : Tb w g F l) (hs : s.size ≤ maxLen) :
  Calls Tryz.prog 26 #[.pointer (some ⟨g, 0, none⟩), sv s] w fun e w' => e = .returned (.tuple #[.int .u32 (((findO l s).getD 0 : Nat) : Int), .bool (findO l s).isSome]) ∧ w = w' := by
 obtain ⟨X, M, h1, rfl⟩ := h
 exact find_any g X M l s w h1 hs
theorem tName (g : Nat) (F : Nat → Prop) (l : List ByteArray) (n : Nat) (w : World) (h : Tb w g F l) (hn : n < 4294967296) :
  Calls Tryz.prog 128 #[.pointer (some ⟨g, 0, none⟩), .int .u32 (n : Int)] w fun e w' => e = .returned (.tuple #[sv (l.getD n ⟨#[]⟩), .bool (decide (n < l.length))]) ∧ w = w' := by
 obtain ⟨X, M, h1, rfl⟩ := h
 exact name_any g X M l n w h1 hn
theorem tLen (g : Nat) (F : Nat → Prop) (l : List ByteArray) (w : World) (h : Tb w g F l) :
  Calls Tryz.prog 19 #[.pointer (some ⟨g, 0, none⟩)] w fun e w' => e = .returned (.int .i64 (l.length : Int)) ∧ w = w' := by
 obtain ⟨X, M, h1, rfl⟩ := h
 exact len_any g X M l w h1
theorem tList (g : Nat) (F : Nat → Prop) (l : List ByteArray) (w : World) (h : Tb w g F l) (hl : l.length ≤ 1000000) :
  Calls Tryz.prog 15 #[.pointer (some ⟨g, 0, none⟩)] w fun e w' => ∃ A' c', e = .returned (.slice A' l.length c') ∧ OwS w' w.heap.size A' c' l.length l ∧ Below w.heap.size w w' := by
 obtain ⟨X, M, h1, rfl⟩ := h
 exact list_any g X M l w h1 hl
end Go.Proofs.YtoigpbajefkpoaaGreatDoor

set_option linter.unusedVariables false
set_option linter.unusedSimpArgs false
namespace Go.Proofs.YtoigpbajefkpoaaGreatDoor
open Go Go.RowKit

/-- What is asked of the program's May. -/
def MayOk : Prop := ∀ (s : ByteArray) (W : World), s.size ≤ 1099511627776 → Calls Tryz.prog 43 #[sv s] W fun e w' => e = .returned (.bool (mayB s)) ∧ W = w'
/-- Put into a table that is of the call's own. -/
theorem tPut' (hmay : MayOk) (g : Nat) (F : Nat → Prop) (l : List ByteArray) (s : ByteArray) (B : Nat) (w : World) (h : Tb w g F l) (hB : ∀ k, F k → B ≤ k) (hBw : B ≤ w.heap.size) (hl : l.length ≤ 1000000) (hs : s.size ≤ 1099511627776)
    (l' : List ByteArray) (n e : Nat) (hp : putL l s = (l', n, e)) :
    Calls Tryz.prog 24 #[.pointer (some ⟨g, 0, none⟩), sv s] w fun r w' => r = .returned (.tuple #[.int .u32 (n : Int), .int .i64 (e : Int)]) ∧
      ∃ F', Tb w' g F' l' ∧ (∀ k, F' k → B ≤ k) ∧ Below B w w' := by
  refine (tPut g F l s w h hl hs (fun W => hmay s W hs)).mono ?_
  rintro r w' ⟨rfl, F', h1, h2, h3⟩
  rw [hp] at h1 ⊢
  refine ⟨rfl, F', h1, fun k hk => ?_, h2.below (fun k _ hk => hB k hk) hBw⟩
  rcases h3 k hk with h | h
  · exact hB k h
  · omega
set_option maxRecDepth 100000 in
set_option maxHeartbeats 1000000 in
theorem tOf (hmay : MayOk) (A : Option Addr) (n c : Nat) (l : List ByteArray) (w : World) (hr : Rd w w.heap.size 1 A n (l.map sv)) (hn : n ≤ 100000) (hs : ∀ s ∈ l, s.size ≤ 1099511627776) :
    Calls Tryz.prog 28 #[.slice A n c] w fun e w' => Below w.heap.size w w' ∧
      (((ofL [] l).2 = 0 ∧ ∃ g F, e = .returned (.tuple #[.pointer (some ⟨g, 0, none⟩), .int .i64 0]) ∧ Tb w' g F (ofL [] l).1 ∧ ∀ k, F k → w.heap.size ≤ k) ∨
       ((ofL [] l).2 ≠ 0 ∧ e = .returned (.tuple #[.pointer none, .int .i64 ((ofL [] l).2 : Int)]))) := by
  have hl : l.length = n := by simpa using hr.len1
  have HL := Lib.hid hl
  have HR := Lib.hid hr
  have HS := Lib.hid hs
  clear hr hl hs
  go_enter Tryz.func28, Tryz.ntmps28
  repeat go_step
  refine (tNew w).mono ?_
  rintro e W0 ⟨g, F0, rfl, h0, hF0, hb0⟩
  dsimp only
  repeat go_step
  go_loopw [12] (fun p wr => ∃ (i : Nat) (F : Nat → Prop) (acc : List ByteArray), i ≤ n ∧ p = .int .i64 (i : Int) ∧ acc.length ≤ i ∧ ofL [] l = ofL acc (l.drop i) ∧ Tb wr g F acc ∧ (∀ k, F k → w.heap.size ≤ k) ∧ Below w.heap.size w wr)
    (fun p _ => n - (intOf p).toNat)
  case atStart => exact ⟨0, F0, [], by omega, rfl, by simp, rfl, h0, hF0, hb0⟩
  case round =>
    clear h0 hF0 hb0
    obtain ⟨i, F, acc, hi, rfl, hacc, hof, hrt, hX, hbw⟩ := hrel
    by_cases hlt : i < n
    · have hci : (i : Int) < (n : Int) := by omega
      obtain ⟨b, o, u, hA, hbb, hu, hc⟩ := (HR.out.below hbw).at1 hlt
      subst hA
      obtain ⟨s, hx⟩ : ∃ s, l[i]? = some s := ⟨_, List.getElem?_eq_getElem (by have := HL.out; omega)⟩
      rw [List.getElem?_map, hx] at hu
      simp only [Option.map_some, Option.some.injEq] at hu
      subst hu
      have hsz := HS.out s (List.mem_of_getElem? hx)
      have hd : l.drop i = s :: l.drop (i + 1) := by
        rw [List.drop_eq_getElem_cons (by have := HL.out; omega)]
        congr 1
        exact (List.getElem?_eq_some_iff.1 hx).2
      rw [hd, ofL] at hof
      have hlen := putL_len acc s
      obtain ⟨q, hq⟩ : ∃ q, putL acc s = q := ⟨_, rfl⟩
      obtain ⟨acc1, num, err⟩ := q
      rw [hq] at hof hlen
      have HQ := Lib.hid hq
      have HOF := Lib.hid hof
      have HX := Lib.hid hX
      dsimp only at hlen
      clear hx hd hof hX hq
      repeat go_step
      refine (tPut' hmay g F acc s w.heap.size wr hrt HX.out hbw.size (by omega) hsz _ _ _ HQ.out).mono ?_
      rintro e w1 ⟨rfl, F1, hrt1, hF1, hb1⟩
      have hbw1 := hbw.trans hb1
      have HX1 := Lib.hid hF1
      have hof2 := HOF.out
      dsimp only at hof2
      have HO2 := Lib.hid hof2
      clear hrt hb1 hF1 hbw hc hof2 HOF HQ
      dsimp only
      by_cases he : err = 0
      · subst he
        have hof3 := HO2.out
        rw [if_pos rfl] at hof3
        have HO3 := Lib.hid hof3
        clear hof3
        go_wp2
        go_roundw
        case rel => exact ⟨i + 1, F1, acc1, by omega, by go_num, by omega, HO3.out, hrt1, HX1.out, hbw1⟩
        case measure => simp [intOf]; omega
      · have hof3 := HO2.out
        rw [if_neg he] at hof3
        have HO3 := Lib.hid hof3
        have hne : ((err : Int) != 0) = true := by simp; omega
        have HE := Lib.hid he
        clear hof3 he
        go_wp2
        go_ret2
        exact ⟨hbw1, .inr ⟨by rw [HO3.out]; exact HE.out, by rw [HO3.out]; rfl⟩⟩
    · obtain rfl : n = i := by omega
      rw [List.drop_of_length_le (by have := HL.out; omega), ofL] at hof
      have HOF := Lib.hid hof
      have HX := Lib.hid hX
      clear hof hX
      go_wp2
      go_ret2
      exact ⟨hbw, .inl ⟨by rw [HOF.out], g, F, rfl, by rw [HOF.out]; exact hrt, HX.out⟩⟩
end Go.Proofs.YtoigpbajefkpoaaGreatDoor

