/- Layer 4 (syms): does a table tell what the document's does? -/
import Derived.Test.YtaejidchoaejkaaSyQ
import Derived.Test.YtaejidchoaejkaaSyG
import Derived.Test.YtaejidchoaejkaaSyC
set_option linter.unusedVariables false
set_option linter.unusedSimpArgs false
namespace Go.Proofs.Ytaejidchoaejkaa
open Go Go.RowKit

theorem wpAny_meet2 {β γ : Type} {P : Program} {md : Region.Mode} {ops : Array Oper} {Q : Exit → Act → World → Prop} {fuel : Nat} {listed : Array Bool} {a : Act} {w : World} {b : β → γ → Act} (S : World → Prop) (hc : ∀ x y V, S V → Q .normal (b x y) V)
    (h : (∀ x y V, S V → Q .normal (b x y) V) → wpAny P md ops Q fuel listed a w) : wpAny P md ops Q fuel listed a w := h hc
theorem anyd_loadSs {ops : Array Oper} {E : Prop} {o : Oper} {a : Act} {K : Act → World → Prop} {Q : Exit → Act → World → Prop} {w : World} (hwant : Region.wanted o (yielded ops a.tmps) = true) (x : Operand)
    (ho : o.op = .load 22 x) (b i : Nat) (v : Value) (hx : a.eval x = .pointer (some ⟨b, i, none⟩)) (hc : w.cell? ⟨b, i, none⟩ = some v)
    (h : K (a.put o.dst v) w) : if Region.wanted o (yielded ops a.tmps) = true then Oper.wp Try.prog o a w K Q else E := by
  rw [if_pos hwant]
  unfold Oper.wp execOp
  simp only [ho, hx]
  go_simp
  exact h

set_option maxRecDepth 100000 in
set_option maxHeartbeats 4000000 in
theorem alike_any (g r : Nat) (F : Nat → Prop) (X : Option Nat) (l ll : List ByteArray) (A : Option Addr) (n c : Nat) (U : World) (htb : Tb U g F l) (hrt : RT U r X l) (hg : Good 4096 l) (hr : Rd U U.heap.size 1 A n (ll.map sv)) (hn : n ≤ 300) (hs : ∀ s ∈ ll, s.size ≤ 200) :
    Calls Try.prog 18 #[.pointer (some ⟨g, 0, none⟩), .pointer (some ⟨r, 0, none⟩), .slice A n c] U fun e w' => e = .returned (.bool true) ∧ Below U.heap.size U w' := by
  have hl := hg.len
  obtain ⟨Ar, cr, hb, ho, hX, hgX⟩ := id hrt
  have hrow : Rd U U.heap.size 1 Ar l.length (l.map sv) := Rd.ofOwn ho
  have htw : ∀ V : World, Below U.heap.size U V → Tb V g F l := fun V h => htb.later h
  have hRW : ∀ V : World, Below U.heap.size U V → RT V r X l := fun V h => hrt.turn (Turn.ofBelow (G := fun _ => False) h) (fun _ _ h => h)
  have hcw : ∀ V : World, Below U.heap.size U V → V.cell? ⟨r, 0, none⟩ = some (.slice Ar l.length cr) := fun V h => (hb.later h).cell 0
  have hrw : ∀ V : World, Below U.heap.size U V → Rd V U.heap.size 1 Ar l.length (l.map sv) := fun V h => hrow.below h
  have hlw : ∀ V : World, Below U.heap.size U V → Rd V U.heap.size 1 A n (ll.map sv) := fun V h => hr.below h
  have HS := Lib.hid hs
  have HG := Lib.hid hg
  clear hrow hb ho hX hgX hr htb hrt hs hg
  go_enter Try.func18, Try.ntmps18
  repeat (first | go_skip | go_guarded | go_step)
  refine wp_region_any (by kernel_rfl) ?_
  try (change wpAny _ _ _ _ _ _ _ (World.drew _))
  refine wpAny_meet2 (β := Option Addr) (γ := Nat) (b := ?ad1) (fun V => Below U.heap.size U V) ?cd1 ?rd1
  case rd1 =>
    intro hEnd
    have hf0 : Below U.heap.size U U.drew := (Below.refl _ _).drew
    refine wpAny_take (i := 0) (oi := ?oid2) (v := ?vd2) ?hod2 (by kernel_rfl) ?hfd2 ?hrd2 ?hQd2 ?hyd2 ?restd2
    case hod2 => (simp only [List.getElem?_toArray, List.getElem?_cons_succ, List.getElem?_cons_zero]; exact rfl)
    case hfd2 => kernel_rfl
    case hrd2 => kernel_rfl
    case hQd2 => exact fun _ _ _ h => h
    case hyd2 =>
      refine Or.inl ⟨by rfl, ?_⟩
      intro w
      go_simp
      (try with_reducible rfl)
    try simp only [Act.put, List.setIfInBounds_toArray, List.set_cons_zero, List.set_cons_succ]
    refine wpAny_take (i := 2) (oi := ?oid3) (v := ?vd3) ?hod3 (by kernel_rfl) ?hfd3 ?hrd3 ?hQd3 ?hyd3 ?restd3
    case hod3 => (simp only [List.getElem?_toArray, List.getElem?_cons_succ, List.getElem?_cons_zero]; exact rfl)
    case hfd3 => kernel_rfl
    case hrd3 => kernel_rfl
    case hQd3 => exact fun _ _ _ h => h
    case hyd3 =>
      refine Or.inl ⟨by rfl, ?_⟩
      intro w
      go_simp
      (try with_reducible rfl)
    try simp only [Act.put, List.setIfInBounds_toArray, List.set_cons_zero, List.set_cons_succ]
    refine wpAny_take (i := 3) (oi := ?oid4) (v := ?vd4) ?hod4 (by kernel_rfl) ?hfd4 ?hrd4 ?hQd4 ?hyd4 ?restd4
    case hod4 => (simp only [List.getElem?_toArray, List.getElem?_cons_succ, List.getElem?_cons_zero]; exact rfl)
    case hfd4 => kernel_rfl
    case hrd4 => kernel_rfl
    case hQd4 => exact fun _ _ _ h => h
    case hyd4 =>
      refine Or.inl ⟨by rfl, ?_⟩
      intro w
      go_simp
      (try with_reducible rfl)
    try simp only [Act.put, List.setIfInBounds_toArray, List.set_cons_zero, List.set_cons_succ]
    refine wpAny_take (i := 4) (oi := ?oid5) (v := ?vd5) ?hod5 (by kernel_rfl) ?hfd5 ?hrd5 ?hQd5 ?hyd5 ?restd5
    case hod5 => (simp only [List.getElem?_toArray, List.getElem?_cons_succ, List.getElem?_cons_zero]; exact rfl)
    case hfd5 => kernel_rfl
    case hrd5 => kernel_rfl
    case hQd5 => exact fun _ _ _ h => h
    case hyd5 =>
      refine Or.inl ⟨by rfl, ?_⟩
      intro w
      go_simp
      (try with_reducible rfl)
    try simp only [Act.put, List.setIfInBounds_toArray, List.set_cons_zero, List.set_cons_succ]
    refine wpAny_ready (rs := [1, 5]) (by kernel_rfl) (by simp) ?_
    refine AllReady.cons (o := ?od6) ?hod6 (fun K hK => ?kd6) ?md6
    case hod6 => (simp only [List.getElem?_toArray, List.getElem?_cons_succ, List.getElem?_cons_zero]; exact rfl)
    case kd6 =>
      go_simp
      refine (tLen g F l _ (htw _ (by exact hf0))).mono ?_
      rintro e Vd6 ⟨rfl, rfl⟩
      (try dsimp only)
      refine hK _ _ ?_
      clear hK K
      try simp only [Act.put, List.setIfInBounds_toArray, List.set_cons_zero, List.set_cons_succ]
      refine wpAny_ready (rs := [5]) (by kernel_rfl) (by simp) ?_
      refine AllReady.cons (o := ?od7) ?hod7 (fun K hK => ?kd7) ?md7
      case hod7 => (simp only [List.getElem?_toArray, List.getElem?_cons_succ, List.getElem?_cons_zero]; exact rfl)
      case kd7 =>
        refine anyd_loadSs (by rfl) (.tmp 22) rfl r 0 _ (by rfl) (hcw _ (by exact hf0)) ?_
        refine hK _ _ ?_
        clear hK K
        try simp only [Act.put, List.setIfInBounds_toArray, List.set_cons_zero, List.set_cons_succ]
        refine wpAny_take (i := 6) (oi := ?oid8) (v := ?vd8) ?hod8 (by kernel_rfl) ?hfd8 ?hrd8 ?hQd8 ?hyd8 ?restd8
        case hod8 => (simp only [List.getElem?_toArray, List.getElem?_cons_succ, List.getElem?_cons_zero]; exact rfl)
        case hfd8 => kernel_rfl
        case hrd8 => kernel_rfl
        case hQd8 => exact fun _ _ _ h => h
        case hyd8 =>
          refine Or.inl ⟨by rfl, ?_⟩
          intro w
          go_simp
          (try with_reducible rfl)
        try simp only [Act.put, List.setIfInBounds_toArray, List.set_cons_zero, List.set_cons_succ]
        refine wpAny_take (i := 7) (oi := ?oid9) (v := ?vd9) ?hod9 (by kernel_rfl) ?hfd9 ?hrd9 ?hQd9 ?hyd9 ?restd9
        case hod9 => (simp only [List.getElem?_toArray, List.getElem?_cons_succ, List.getElem?_cons_zero]; exact rfl)
        case hfd9 => kernel_rfl
        case hrd9 => kernel_rfl
        case hQd9 => exact fun _ _ _ h => h
        case hyd9 =>
          refine Or.inl ⟨by rfl, ?_⟩
          intro w
          go_simp
          (try with_reducible rfl)
        try simp only [Act.put, List.setIfInBounds_toArray, List.set_cons_zero, List.set_cons_succ]
        refine wpAny_take (i := 8) (oi := ?oid10) (v := ?vd10) ?hod10 (by kernel_rfl) ?hfd10 ?hrd10 ?hQd10 ?hyd10 ?restd10
        case hod10 => (simp only [List.getElem?_toArray, List.getElem?_cons_succ, List.getElem?_cons_zero]; exact rfl)
        case hfd10 => kernel_rfl
        case hrd10 => kernel_rfl
        case hQd10 => exact fun _ _ _ h => h
        case hyd10 =>
          refine Or.inl ⟨by rfl, ?_⟩
          intro w
          go_simp
          (try with_reducible rfl)
        try simp only [Act.put, List.setIfInBounds_toArray, List.set_cons_zero, List.set_cons_succ]
        refine wpAny_take (i := 9) (oi := ?oid11) (v := ?vd11) ?hod11 (by kernel_rfl) ?hfd11 ?hrd11 ?hQd11 ?hyd11 ?restd11
        case hod11 => (simp only [List.getElem?_toArray, List.getElem?_cons_succ, List.getElem?_cons_zero]; exact rfl)
        case hfd11 => kernel_rfl
        case hrd11 => kernel_rfl
        case hQd11 => exact fun _ _ _ h => h
        case hyd11 =>
          refine Or.inl ⟨by rfl, ?_⟩
          intro w
          go_simp
          (try with_reducible rfl)
        try simp only [Act.put, List.setIfInBounds_toArray, List.set_cons_zero, List.set_cons_succ]
        refine wpAny_take (i := 11) (oi := ?oid12) (v := ?vd12) ?hod12 (by kernel_rfl) ?hfd12 ?hrd12 ?hQd12 ?hyd12 ?restd12
        case hod12 => (simp only [List.getElem?_toArray, List.getElem?_cons_succ, List.getElem?_cons_zero]; exact rfl)
        case hfd12 => kernel_rfl
        case hrd12 => kernel_rfl
        case hQd12 => exact fun _ _ _ h => h
        case hyd12 =>
          refine Or.inl ⟨by rfl, ?_⟩
          intro w
          go_simp
          (try with_reducible rfl)
        try simp only [Act.put, List.setIfInBounds_toArray, List.set_cons_zero, List.set_cons_succ]
        refine wpAny_take (i := 12) (oi := ?oid13) (v := ?vd13) ?hod13 (by kernel_rfl) ?hfd13 ?hrd13 ?hQd13 ?hyd13 ?restd13
        case hod13 => (simp only [List.getElem?_toArray, List.getElem?_cons_succ, List.getElem?_cons_zero]; exact rfl)
        case hfd13 => kernel_rfl
        case hrd13 => kernel_rfl
        case hQd13 => exact fun _ _ _ h => h
        case hyd13 =>
          refine Or.inl ⟨by rfl, ?_⟩
          intro w
          go_simp
          (try with_reducible rfl)
        try simp only [Act.put, List.setIfInBounds_toArray, List.set_cons_zero, List.set_cons_succ]
        refine wpAny_take (i := 13) (oi := ?oid14) (v := ?vd14) ?hod14 (by kernel_rfl) ?hfd14 ?hrd14 ?hQd14 ?hyd14 ?restd14
        case hod14 => (simp only [List.getElem?_toArray, List.getElem?_cons_succ, List.getElem?_cons_zero]; exact rfl)
        case hfd14 => kernel_rfl
        case hrd14 => kernel_rfl
        case hQd14 => exact fun _ _ _ h => h
        case hyd14 =>
          refine Or.inl ⟨by rfl, ?_⟩
          intro w
          go_simp
          (try with_reducible rfl)
        try simp only [Act.put, List.setIfInBounds_toArray, List.set_cons_zero, List.set_cons_succ]
        refine wpAny_ready (rs := [10, 14]) (by kernel_rfl) (by simp) ?_
        refine AllReady.cons (o := ?od15) ?hod15 (fun K hK => ?kd15) ?md15
        case hod15 => (simp only [List.getElem?_toArray, List.getElem?_cons_succ, List.getElem?_cons_zero]; exact rfl)
        case kd15 =>
          go_simp
          refine (tList g F l _ (htw _ (by exact hf0)) (by omega)).mono ?_
          rintro e Vd15 ⟨Ali, cli, rfl, hoi, hvd15⟩
          have hfd15 : Below U.heap.size U Vd15 := Below.trans (by exact hf0) (hvd15.mono (hf0).size)
          (try dsimp only)
          refine hK _ _ ?_
          clear hK K
          try simp only [Act.put, List.setIfInBounds_toArray, List.set_cons_zero, List.set_cons_succ]
          refine wpAny_ready (rs := [14]) (by kernel_rfl) (by simp) ?_
          refine AllReady.cons (o := ?od16) ?hod16 (fun K hK => ?kd16) ?md16
          case hod16 => (simp only [List.getElem?_toArray, List.getElem?_cons_succ, List.getElem?_cons_zero]; exact rfl)
          case kd16 =>
            refine anyd_loadSs (by rfl) (.tmp 31) rfl r 0 _ (by rfl) (hcw _ (by exact hfd15)) ?_
            refine hK _ _ ?_
            clear hK K
            try simp only [Act.put, List.setIfInBounds_toArray, List.set_cons_zero, List.set_cons_succ]
            refine wpAny_ready (rs := [15]) (by kernel_rfl) (by simp) ?_
            refine AllReady.cons (o := ?od17) ?hod17 (fun K hK => ?kd17) ?md17
            case hod17 => (simp only [List.getElem?_toArray, List.getElem?_cons_succ, List.getElem?_cons_zero]; exact rfl)
            case kd17 =>
              go_simp
              refine (rSame_any Ali Ar l.length cli l.length cr _ _ l l _ (Rd.ofOwn hoi) (hrw _ (by exact hfd15)) (by omega)).mono ?_
              rintro e Vd17 ⟨rfl, qz, hwd17⟩
              rw [show decide (l = l) = true from decide_eq_true rfl]
              have hfd17 : Below U.heap.size U Vd17 := by rw [hwd17]; exact belowDrews (by exact hfd15) qz
              (try dsimp only)
              refine hK _ _ ?_
              clear hK K
              try simp only [Act.put, List.setIfInBounds_toArray, List.set_cons_zero, List.set_cons_succ]
              refine wpAny_take (i := 16) (oi := ?oid18) (v := ?vd18) ?hod18 (by kernel_rfl) ?hfd18 ?hrd18 ?hQd18 ?hyd18 ?restd18
              case hod18 => (simp only [List.getElem?_toArray, List.getElem?_cons_succ, List.getElem?_cons_zero]; exact rfl)
              case hfd18 => kernel_rfl
              case hrd18 => kernel_rfl
              case hQd18 => exact fun _ _ _ h => h
              case hyd18 =>
                refine Or.inl ⟨by rfl, ?_⟩
                intro w
                go_simp
                (try with_reducible rfl)
              try simp only [Act.put, List.setIfInBounds_toArray, List.set_cons_zero, List.set_cons_succ]
              refine wpAny_take (i := 17) (oi := ?oid19) (v := ?vd19) ?hod19 (by kernel_rfl) ?hfd19 ?hrd19 ?hQd19 ?hyd19 ?restd19
              case hod19 => (simp only [List.getElem?_toArray, List.getElem?_cons_succ, List.getElem?_cons_zero]; exact rfl)
              case hfd19 => kernel_rfl
              case hrd19 => kernel_rfl
              case hQd19 => exact fun _ _ _ h => h
              case hyd19 =>
                refine Or.inl ⟨by rfl, ?_⟩
                intro w
                go_simp
                (try with_reducible rfl)
              try simp only [Act.put, List.setIfInBounds_toArray, List.set_cons_zero, List.set_cons_succ]
              exact wpAny_done (by kernel_rfl) (hEnd Ali cli _ hfd17) _
            exact AllReady.nil
          exact AllReady.nil
        refine AllReady.cons (o := ?od20) ?hod20 (fun K hK => ?kd20) ?md20
        case hod20 => (simp only [List.getElem?_toArray, List.getElem?_cons_succ, List.getElem?_cons_zero]; exact rfl)
        case kd20 =>
          refine anyd_loadSs (by rfl) (.tmp 31) rfl r 0 _ (by rfl) (hcw _ (by exact hf0)) ?_
          refine hK _ _ ?_
          clear hK K
          try simp only [Act.put, List.setIfInBounds_toArray, List.set_cons_zero, List.set_cons_succ]
          refine wpAny_ready (rs := [10]) (by kernel_rfl) (by simp) ?_
          refine AllReady.cons (o := ?od21) ?hod21 (fun K hK => ?kd21) ?md21
          case hod21 => (simp only [List.getElem?_toArray, List.getElem?_cons_succ, List.getElem?_cons_zero]; exact rfl)
          case kd21 =>
            go_simp
            refine (tList g F l _ (htw _ (by exact hf0)) (by omega)).mono ?_
            rintro e Vd21 ⟨Ali, cli, rfl, hoi, hvd21⟩
            have hfd21 : Below U.heap.size U Vd21 := Below.trans (by exact hf0) (hvd21.mono (hf0).size)
            (try dsimp only)
            refine hK _ _ ?_
            clear hK K
            try simp only [Act.put, List.setIfInBounds_toArray, List.set_cons_zero, List.set_cons_succ]
            refine wpAny_ready (rs := [15]) (by kernel_rfl) (by simp) ?_
            refine AllReady.cons (o := ?od22) ?hod22 (fun K hK => ?kd22) ?md22
            case hod22 => (simp only [List.getElem?_toArray, List.getElem?_cons_succ, List.getElem?_cons_zero]; exact rfl)
            case kd22 =>
              go_simp
              refine (rSame_any Ali Ar l.length cli l.length cr _ _ l l _ (Rd.ofOwn hoi) (hrw _ (by exact hfd21)) (by omega)).mono ?_
              rintro e Vd22 ⟨rfl, qz, hwd22⟩
              rw [show decide (l = l) = true from decide_eq_true rfl]
              have hfd22 : Below U.heap.size U Vd22 := by rw [hwd22]; exact belowDrews (by exact hfd21) qz
              (try dsimp only)
              refine hK _ _ ?_
              clear hK K
              try simp only [Act.put, List.setIfInBounds_toArray, List.set_cons_zero, List.set_cons_succ]
              refine wpAny_take (i := 16) (oi := ?oid23) (v := ?vd23) ?hod23 (by kernel_rfl) ?hfd23 ?hrd23 ?hQd23 ?hyd23 ?restd23
              case hod23 => (simp only [List.getElem?_toArray, List.getElem?_cons_succ, List.getElem?_cons_zero]; exact rfl)
              case hfd23 => kernel_rfl
              case hrd23 => kernel_rfl
              case hQd23 => exact fun _ _ _ h => h
              case hyd23 =>
                refine Or.inl ⟨by rfl, ?_⟩
                intro w
                go_simp
                (try with_reducible rfl)
              try simp only [Act.put, List.setIfInBounds_toArray, List.set_cons_zero, List.set_cons_succ]
              refine wpAny_take (i := 17) (oi := ?oid24) (v := ?vd24) ?hod24 (by kernel_rfl) ?hfd24 ?hrd24 ?hQd24 ?hyd24 ?restd24
              case hod24 => (simp only [List.getElem?_toArray, List.getElem?_cons_succ, List.getElem?_cons_zero]; exact rfl)
              case hfd24 => kernel_rfl
              case hrd24 => kernel_rfl
              case hQd24 => exact fun _ _ _ h => h
              case hyd24 =>
                refine Or.inl ⟨by rfl, ?_⟩
                intro w
                go_simp
                (try with_reducible rfl)
              try simp only [Act.put, List.setIfInBounds_toArray, List.set_cons_zero, List.set_cons_succ]
              exact wpAny_done (by kernel_rfl) (hEnd Ali cli _ hfd22) _
            exact AllReady.nil
          exact AllReady.nil
        exact AllReady.nil
      exact AllReady.nil
    refine AllReady.cons (o := ?od25) ?hod25 (fun K hK => ?kd25) ?md25
    case hod25 => (simp only [List.getElem?_toArray, List.getElem?_cons_succ, List.getElem?_cons_zero]; exact rfl)
    case kd25 =>
      refine anyd_loadSs (by rfl) (.tmp 22) rfl r 0 _ (by rfl) (hcw _ (by exact hf0)) ?_
      refine hK _ _ ?_
      clear hK K
      try simp only [Act.put, List.setIfInBounds_toArray, List.set_cons_zero, List.set_cons_succ]
      refine wpAny_take (i := 6) (oi := ?oid26) (v := ?vd26) ?hod26 (by kernel_rfl) ?hfd26 ?hrd26 ?hQd26 ?hyd26 ?restd26
      case hod26 => (simp only [List.getElem?_toArray, List.getElem?_cons_succ, List.getElem?_cons_zero]; exact rfl)
      case hfd26 => kernel_rfl
      case hrd26 => kernel_rfl
      case hQd26 => exact fun _ _ _ h => h
      case hyd26 =>
        refine Or.inl ⟨by rfl, ?_⟩
        intro w
        go_simp
        (try with_reducible rfl)
      try simp only [Act.put, List.setIfInBounds_toArray, List.set_cons_zero, List.set_cons_succ]
      refine wpAny_ready (rs := [1]) (by kernel_rfl) (by simp) ?_
      refine AllReady.cons (o := ?od27) ?hod27 (fun K hK => ?kd27) ?md27
      case hod27 => (simp only [List.getElem?_toArray, List.getElem?_cons_succ, List.getElem?_cons_zero]; exact rfl)
      case kd27 =>
        go_simp
        refine (tLen g F l _ (htw _ (by exact hf0))).mono ?_
        rintro e Vd27 ⟨rfl, rfl⟩
        (try dsimp only)
        refine hK _ _ ?_
        clear hK K
        try simp only [Act.put, List.setIfInBounds_toArray, List.set_cons_zero, List.set_cons_succ]
        refine wpAny_take (i := 7) (oi := ?oid28) (v := ?vd28) ?hod28 (by kernel_rfl) ?hfd28 ?hrd28 ?hQd28 ?hyd28 ?restd28
        case hod28 => (simp only [List.getElem?_toArray, List.getElem?_cons_succ, List.getElem?_cons_zero]; exact rfl)
        case hfd28 => kernel_rfl
        case hrd28 => kernel_rfl
        case hQd28 => exact fun _ _ _ h => h
        case hyd28 =>
          refine Or.inl ⟨by rfl, ?_⟩
          intro w
          go_simp
          (try with_reducible rfl)
        try simp only [Act.put, List.setIfInBounds_toArray, List.set_cons_zero, List.set_cons_succ]
        refine wpAny_take (i := 8) (oi := ?oid29) (v := ?vd29) ?hod29 (by kernel_rfl) ?hfd29 ?hrd29 ?hQd29 ?hyd29 ?restd29
        case hod29 => (simp only [List.getElem?_toArray, List.getElem?_cons_succ, List.getElem?_cons_zero]; exact rfl)
        case hfd29 => kernel_rfl
        case hrd29 => kernel_rfl
        case hQd29 => exact fun _ _ _ h => h
        case hyd29 =>
          refine Or.inl ⟨by rfl, ?_⟩
          intro w
          go_simp
          (try with_reducible rfl)
        try simp only [Act.put, List.setIfInBounds_toArray, List.set_cons_zero, List.set_cons_succ]
        refine wpAny_take (i := 9) (oi := ?oid30) (v := ?vd30) ?hod30 (by kernel_rfl) ?hfd30 ?hrd30 ?hQd30 ?hyd30 ?restd30
        case hod30 => (simp only [List.getElem?_toArray, List.getElem?_cons_succ, List.getElem?_cons_zero]; exact rfl)
        case hfd30 => kernel_rfl
        case hrd30 => kernel_rfl
        case hQd30 => exact fun _ _ _ h => h
        case hyd30 =>
          refine Or.inl ⟨by rfl, ?_⟩
          intro w
          go_simp
          (try with_reducible rfl)
        try simp only [Act.put, List.setIfInBounds_toArray, List.set_cons_zero, List.set_cons_succ]
        refine wpAny_take (i := 11) (oi := ?oid31) (v := ?vd31) ?hod31 (by kernel_rfl) ?hfd31 ?hrd31 ?hQd31 ?hyd31 ?restd31
        case hod31 => (simp only [List.getElem?_toArray, List.getElem?_cons_succ, List.getElem?_cons_zero]; exact rfl)
        case hfd31 => kernel_rfl
        case hrd31 => kernel_rfl
        case hQd31 => exact fun _ _ _ h => h
        case hyd31 =>
          refine Or.inl ⟨by rfl, ?_⟩
          intro w
          go_simp
          (try with_reducible rfl)
        try simp only [Act.put, List.setIfInBounds_toArray, List.set_cons_zero, List.set_cons_succ]
        refine wpAny_take (i := 12) (oi := ?oid32) (v := ?vd32) ?hod32 (by kernel_rfl) ?hfd32 ?hrd32 ?hQd32 ?hyd32 ?restd32
        case hod32 => (simp only [List.getElem?_toArray, List.getElem?_cons_succ, List.getElem?_cons_zero]; exact rfl)
        case hfd32 => kernel_rfl
        case hrd32 => kernel_rfl
        case hQd32 => exact fun _ _ _ h => h
        case hyd32 =>
          refine Or.inl ⟨by rfl, ?_⟩
          intro w
          go_simp
          (try with_reducible rfl)
        try simp only [Act.put, List.setIfInBounds_toArray, List.set_cons_zero, List.set_cons_succ]
        refine wpAny_take (i := 13) (oi := ?oid33) (v := ?vd33) ?hod33 (by kernel_rfl) ?hfd33 ?hrd33 ?hQd33 ?hyd33 ?restd33
        case hod33 => (simp only [List.getElem?_toArray, List.getElem?_cons_succ, List.getElem?_cons_zero]; exact rfl)
        case hfd33 => kernel_rfl
        case hrd33 => kernel_rfl
        case hQd33 => exact fun _ _ _ h => h
        case hyd33 =>
          refine Or.inl ⟨by rfl, ?_⟩
          intro w
          go_simp
          (try with_reducible rfl)
        try simp only [Act.put, List.setIfInBounds_toArray, List.set_cons_zero, List.set_cons_succ]
        refine wpAny_ready (rs := [10, 14]) (by kernel_rfl) (by simp) ?_
        refine AllReady.cons (o := ?od34) ?hod34 (fun K hK => ?kd34) ?md34
        case hod34 => (simp only [List.getElem?_toArray, List.getElem?_cons_succ, List.getElem?_cons_zero]; exact rfl)
        case kd34 =>
          go_simp
          refine (tList g F l _ (htw _ (by exact hf0)) (by omega)).mono ?_
          rintro e Vd34 ⟨Ali, cli, rfl, hoi, hvd34⟩
          have hfd34 : Below U.heap.size U Vd34 := Below.trans (by exact hf0) (hvd34.mono (hf0).size)
          (try dsimp only)
          refine hK _ _ ?_
          clear hK K
          try simp only [Act.put, List.setIfInBounds_toArray, List.set_cons_zero, List.set_cons_succ]
          refine wpAny_ready (rs := [14]) (by kernel_rfl) (by simp) ?_
          refine AllReady.cons (o := ?od35) ?hod35 (fun K hK => ?kd35) ?md35
          case hod35 => (simp only [List.getElem?_toArray, List.getElem?_cons_succ, List.getElem?_cons_zero]; exact rfl)
          case kd35 =>
            refine anyd_loadSs (by rfl) (.tmp 31) rfl r 0 _ (by rfl) (hcw _ (by exact hfd34)) ?_
            refine hK _ _ ?_
            clear hK K
            try simp only [Act.put, List.setIfInBounds_toArray, List.set_cons_zero, List.set_cons_succ]
            refine wpAny_ready (rs := [15]) (by kernel_rfl) (by simp) ?_
            refine AllReady.cons (o := ?od36) ?hod36 (fun K hK => ?kd36) ?md36
            case hod36 => (simp only [List.getElem?_toArray, List.getElem?_cons_succ, List.getElem?_cons_zero]; exact rfl)
            case kd36 =>
              go_simp
              refine (rSame_any Ali Ar l.length cli l.length cr _ _ l l _ (Rd.ofOwn hoi) (hrw _ (by exact hfd34)) (by omega)).mono ?_
              rintro e Vd36 ⟨rfl, qz, hwd36⟩
              rw [show decide (l = l) = true from decide_eq_true rfl]
              have hfd36 : Below U.heap.size U Vd36 := by rw [hwd36]; exact belowDrews (by exact hfd34) qz
              (try dsimp only)
              refine hK _ _ ?_
              clear hK K
              try simp only [Act.put, List.setIfInBounds_toArray, List.set_cons_zero, List.set_cons_succ]
              refine wpAny_take (i := 16) (oi := ?oid37) (v := ?vd37) ?hod37 (by kernel_rfl) ?hfd37 ?hrd37 ?hQd37 ?hyd37 ?restd37
              case hod37 => (simp only [List.getElem?_toArray, List.getElem?_cons_succ, List.getElem?_cons_zero]; exact rfl)
              case hfd37 => kernel_rfl
              case hrd37 => kernel_rfl
              case hQd37 => exact fun _ _ _ h => h
              case hyd37 =>
                refine Or.inl ⟨by rfl, ?_⟩
                intro w
                go_simp
                (try with_reducible rfl)
              try simp only [Act.put, List.setIfInBounds_toArray, List.set_cons_zero, List.set_cons_succ]
              refine wpAny_take (i := 17) (oi := ?oid38) (v := ?vd38) ?hod38 (by kernel_rfl) ?hfd38 ?hrd38 ?hQd38 ?hyd38 ?restd38
              case hod38 => (simp only [List.getElem?_toArray, List.getElem?_cons_succ, List.getElem?_cons_zero]; exact rfl)
              case hfd38 => kernel_rfl
              case hrd38 => kernel_rfl
              case hQd38 => exact fun _ _ _ h => h
              case hyd38 =>
                refine Or.inl ⟨by rfl, ?_⟩
                intro w
                go_simp
                (try with_reducible rfl)
              try simp only [Act.put, List.setIfInBounds_toArray, List.set_cons_zero, List.set_cons_succ]
              exact wpAny_done (by kernel_rfl) (hEnd Ali cli _ hfd36) _
            exact AllReady.nil
          exact AllReady.nil
        refine AllReady.cons (o := ?od39) ?hod39 (fun K hK => ?kd39) ?md39
        case hod39 => (simp only [List.getElem?_toArray, List.getElem?_cons_succ, List.getElem?_cons_zero]; exact rfl)
        case kd39 =>
          refine anyd_loadSs (by rfl) (.tmp 31) rfl r 0 _ (by rfl) (hcw _ (by exact hf0)) ?_
          refine hK _ _ ?_
          clear hK K
          try simp only [Act.put, List.setIfInBounds_toArray, List.set_cons_zero, List.set_cons_succ]
          refine wpAny_ready (rs := [10]) (by kernel_rfl) (by simp) ?_
          refine AllReady.cons (o := ?od40) ?hod40 (fun K hK => ?kd40) ?md40
          case hod40 => (simp only [List.getElem?_toArray, List.getElem?_cons_succ, List.getElem?_cons_zero]; exact rfl)
          case kd40 =>
            go_simp
            refine (tList g F l _ (htw _ (by exact hf0)) (by omega)).mono ?_
            rintro e Vd40 ⟨Ali, cli, rfl, hoi, hvd40⟩
            have hfd40 : Below U.heap.size U Vd40 := Below.trans (by exact hf0) (hvd40.mono (hf0).size)
            (try dsimp only)
            refine hK _ _ ?_
            clear hK K
            try simp only [Act.put, List.setIfInBounds_toArray, List.set_cons_zero, List.set_cons_succ]
            refine wpAny_ready (rs := [15]) (by kernel_rfl) (by simp) ?_
            refine AllReady.cons (o := ?od41) ?hod41 (fun K hK => ?kd41) ?md41
            case hod41 => (simp only [List.getElem?_toArray, List.getElem?_cons_succ, List.getElem?_cons_zero]; exact rfl)
            case kd41 =>
              go_simp
              refine (rSame_any Ali Ar l.length cli l.length cr _ _ l l _ (Rd.ofOwn hoi) (hrw _ (by exact hfd40)) (by omega)).mono ?_
              rintro e Vd41 ⟨rfl, qz, hwd41⟩
              rw [show decide (l = l) = true from decide_eq_true rfl]
              have hfd41 : Below U.heap.size U Vd41 := by rw [hwd41]; exact belowDrews (by exact hfd40) qz
              (try dsimp only)
              refine hK _ _ ?_
              clear hK K
              try simp only [Act.put, List.setIfInBounds_toArray, List.set_cons_zero, List.set_cons_succ]
              refine wpAny_take (i := 16) (oi := ?oid42) (v := ?vd42) ?hod42 (by kernel_rfl) ?hfd42 ?hrd42 ?hQd42 ?hyd42 ?restd42
              case hod42 => (simp only [List.getElem?_toArray, List.getElem?_cons_succ, List.getElem?_cons_zero]; exact rfl)
              case hfd42 => kernel_rfl
              case hrd42 => kernel_rfl
              case hQd42 => exact fun _ _ _ h => h
              case hyd42 =>
                refine Or.inl ⟨by rfl, ?_⟩
                intro w
                go_simp
                (try with_reducible rfl)
              try simp only [Act.put, List.setIfInBounds_toArray, List.set_cons_zero, List.set_cons_succ]
              refine wpAny_take (i := 17) (oi := ?oid43) (v := ?vd43) ?hod43 (by kernel_rfl) ?hfd43 ?hrd43 ?hQd43 ?hyd43 ?restd43
              case hod43 => (simp only [List.getElem?_toArray, List.getElem?_cons_succ, List.getElem?_cons_zero]; exact rfl)
              case hfd43 => kernel_rfl
              case hrd43 => kernel_rfl
              case hQd43 => exact fun _ _ _ h => h
              case hyd43 =>
                refine Or.inl ⟨by rfl, ?_⟩
                intro w
                go_simp
                (try with_reducible rfl)
              try simp only [Act.put, List.setIfInBounds_toArray, List.set_cons_zero, List.set_cons_succ]
              exact wpAny_done (by kernel_rfl) (hEnd Ali cli _ hfd41) _
            exact AllReady.nil
          exact AllReady.nil
        exact AllReady.nil
      exact AllReady.nil
    exact AllReady.nil
  case cd1 =>
    intro xa xc V hV
    repeat (first | go_skip | go_guarded | go_step)
    go_loopw [7] (fun p wr => ∃ i : Nat, i ≤ l.length ∧ p = .int .i64 (i : Int) ∧ Below U.heap.size U wr) (fun p _ => l.length - (intOf p).toNat)
    case atStart => exact ⟨0, by omega, rfl, hV⟩
    case round =>
      clear hV
      obtain ⟨i, hi, rfl, hbw⟩ := hrel
      have cr0 := hcw _ hbw
      by_cases hlt : i < l.length
      · have hci : (i : Int) < (l.length : Int) := by omega
        have hwr : IntKind.u32.wrap (i : Int) = (i : Int) := by rw [IntKind.wrap_u32]; omega
        obtain ⟨b, o, s, hA, hbb, hx, hc⟩ := rdS_at (hrw _ hbw) hlt
        subst hA
        have hfo : findO l s = some i := findO_some hx fun j y hj hy e => by
          subst e
          exact nodup_ne HG.out.nodup hj hx hy rfl
        have hgd : l.getD i ⟨#[]⟩ = s := by rw [List.getD_eq_getElem?_getD, hx]; rfl
        have hsm : s.size ≤ 32 := by
          have h1 := HG.out.may s (List.mem_of_getElem? hx)
          unfold mayB at h1
          simp only [Bool.and_eq_true, decide_eq_true_eq] at h1
          omega
        have HFO := Lib.hid hfo
        have HGD := Lib.hid hgd
        have ht := htw _ hbw
        clear hx hfo hgd
        repeat (first | go_skip | go_guarded | go_step)
        refine (tName g F l i wr ht (by omega)).mono ?_
        rintro e w1 ⟨rfl, rfl⟩
        rw [HGD.out, decide_eq_true hlt]
        dsimp only
        repeat (first | go_skip | go_guarded | go_step)
        refine (tFind g F l s wr ht (by simp only [maxLen]; omega)).mono ?_
        rintro e w1 ⟨rfl, rfl⟩
        rw [HFO.out]
        dsimp only [Option.getD, Option.isSome]
        clear ht
        repeat (first | go_skip | go_guarded | go_step)
        go_roundw
        case rel => exact ⟨i + 1, by omega, by go_num, hbw⟩
        case measure => simp [intOf]; omega
      · obtain rfl : i = l.length := by omega
        rename World => V
        repeat (first | go_skip | go_guarded | go_step)
        go_loopw [12] (fun p wr => ∃ j : Nat, j ≤ n ∧ p = .int .i64 (j : Int) ∧ Below U.heap.size U wr) (fun p _ => n - (intOf p).toNat)
        case atStart => exact ⟨0, by omega, rfl, hbw⟩
        case round =>
          clear hbw cr0
          obtain ⟨j, hj, rfl, hbw⟩ := hrel
          have cr0 := hcw _ hbw
          have ht := htw _ hbw
          by_cases hlt : j < n
          · have hci : (j : Int) < (n : Int) := by omega
            obtain ⟨b, o, s, hA, hbb, hx, hc⟩ := rdS_at (hlw _ hbw) hlt
            subst hA
            have hsm := HS.out s (List.mem_of_getElem? hx)
            have HR := Lib.hid (hRW _ hbw)
            clear hx
            repeat (first | go_skip | go_guarded | go_step)
            refine (tFind g F l s wr ht (by simp only [maxLen]; omega)).mono ?_
            rintro e w1 ⟨rfl, rfl⟩
            dsimp only
            repeat (first | go_skip | go_guarded | go_step)
            refine (rFind_any r X l s wr HR.out (by omega)).mono ?_
            rintro e w1 ⟨rfl, rfl⟩
            clear ht HR
            cases hf : findO l s with
            | some k =>
              have hk := findO_lt hf
              have hz : findZ l s = (k : Int) := by unfold findZ; rw [hf]
              rw [hz]
              have hmx : ¬ ((k : Int) < 0) := by omega
              have hwk : IntKind.u32.wrap (k : Int) = (k : Int) := by rw [IntKind.wrap_u32]; omega
              clear hf hz
              dsimp only [Option.getD, Option.isSome]
              repeat (first | go_skip | go_guarded | go_step)
              go_roundw
              case rel => exact ⟨j + 1, by omega, by go_num, hbw⟩
              case measure => simp [intOf]; omega
            | none =>
              have hz : findZ l s = -1 := by unfold findZ; rw [hf]
              rw [hz]
              clear hf hz
              dsimp only [Option.getD, Option.isSome]
              repeat (first | go_skip | go_guarded | go_step)
              go_roundw
              case rel => exact ⟨j + 1, by omega, by go_num, hbw⟩
              case measure => simp [intOf]; omega
          · obtain rfl : j = n := by omega
            have hwr : IntKind.u32.wrap (l.length : Int) = (l.length : Int) := by rw [IntKind.wrap_u32]; omega
            have hgd : l.getD l.length ⟨#[]⟩ = ⟨#[]⟩ := by rw [List.getD_eq_getElem?_getD, List.getElem?_eq_none (Nat.le_refl _)]; rfl
            have HGD := Lib.hid hgd
            clear hgd
            repeat (first | go_skip | go_guarded | go_step)
            refine (tName g F l l.length wr ht (by omega)).mono ?_
            rintro e w1 ⟨rfl, rfl⟩
            rw [HGD.out, show decide (l.length < l.length) = false by simp]
            clear ht
            dsimp only
            go_wp2
            go_ret
            exact ⟨rfl, hbw⟩
end Go.Proofs.Ytaejidchoaejkaa
