/- Layer 2 (sha): the anchor of the statements. -/
import Derived.Test.YtnjahmikenjjaaaDoorShaK
import Derived.Lib.SlBytesConst
import Derived.Stop.BytesEq
import Derived.Deep.WholeRow
set_option linter.unusedVariables false
set_option linter.unusedSimpArgs false
namespace Go.Proofs.YtnjahmikenjjaaaDoor
open Go Go.RowKit

def zero32 : List UInt8 := List.replicate 32 0
theorem eqT (xs ys : List UInt8) (hx : xs.length = 32) (hy : ys.length = 32) (w : World) :
    (Op.equalIn 10000 27 (.agg (xs.map bv).toArray) (.agg (ys.map bv).toArray)).run Tryd.prog w = .ok (xs == ys) w :=
  run_equalIn_bytes w 9998 27 5 32 Tryd.underlying27 Tryd.underlying5 (fun w => by kernel_rfl) xs ys hx hy
theorem eqTag (bs : List UInt8) (w : World) :
    (Op.equalIn 10000 27 (.agg ((shaL bs).map bv).toArray) (.agg ((shaL bs).map bv).toArray)).run Tryd.prog w = .ok true w := by
  rw [eqT _ _ (shaL_len bs) (shaL_len bs)]
  simp
theorem eqZ (w : World) : (Op.equalIn 10000 27 (.agg (zB 32).toArray) (.agg (zB 32).toArray)).run Tryd.prog w = .ok true w := by
  have h := eqT zero32 zero32 rfl rfl w
  rw [show zero32.map bv = zB 32 from rfl] at h
  rw [h]
  simp
theorem eqZ2 (w : World) : (Op.equalIn 10000 27 (.agg (zB 32).toArray) (.agg #[.int .u8 0, .int .u8 0, .int .u8 0, .int .u8 0, .int .u8 0, .int .u8 0, .int .u8 0, .int .u8 0, .int .u8 0, .int .u8 0, .int .u8 0, .int .u8 0, .int .u8 0, .int .u8 0, .int .u8 0, .int .u8 0, .int .u8 0, .int .u8 0, .int .u8 0, .int .u8 0, .int .u8 0, .int .u8 0, .int .u8 0, .int .u8 0, .int .u8 0, .int .u8 0, .int .u8 0, .int .u8 0, .int .u8 0, .int .u8 0, .int .u8 0, .int .u8 0])).run Tryd.prog w = .ok true w := eqZ w
theorem run_const8 (W : World) (H : Nat) (C : Array Value) (n c : Nat) (h : W.heap.size = H) :
    (convert 30 30 (.slice (some ⟨H, 0, none⟩) n c)).run Tryd.prog (W.alloc (.cells C 5)) = .ok (.slice (some ⟨H, 0, none⟩) n c) (W.alloc (.cells C 5 (C.size, C.size + 1))) := by
  subst h
  exact Lib.run_convert_bytes_const (P := Tryd.prog) W 30 5 C n c Tryd.underlying30 Tryd.underlying5

theorem hexV (bs : List UInt8) (g : Nat) (w : World) (h : Bk w g 27 ((shaL bs).map bv)) (hx : List UInt8) (he : hexL (shaL bs) = hx) :
    Calls Tryd.prog 17 #[.slice (some ⟨g, 0, none⟩) 32 32] w fun e w' => e = .returned (.string ⟨hx.toArray⟩) ∧ ∃ m, w' = w.drewN m := by
  have hr := h.rd 32 (by simp [shaL_len])
  rw [List.take_of_length_le (by simp [shaL_len])] at hr
  rw [← he]
  exact hex_any _ 32 32 (shaL bs) w hr (by omega)

/-- A whole row into the block that was made last. -/
theorem wpList_store_new {P : Program} {ops : Array Oper} {rest : List Oper} {o : Oper} {a : Act} {Q : Exit → Act → World → Prop} (hgd : o.guard = none) (ty : TypeId) (x y : Operand) (ho : o.op = .store ty x y)
    (W : World) (c cells : Array Value) (hx : a.eval x = .pointer (some ⟨W.heap.size, 0, none⟩)) (hy : a.eval y = .agg cells)
    (hi : (P.info? ty).map (·.size) = some cells.size) (hold : c.size = cells.size) (h1 : cells.all (·.oneCell') = true)
    (h : wpList P ops Q rest (a.put o.dst undef) (W.alloc (.cells cells ty))) : wpList P ops Q (o :: rest) a (W.alloc (.cells c ty)) := by
  refine wpList_store_row hgd ty x y ho W.heap.size cells hx hy ty c (heap_alloc_new W _) hi hold h1 ?_
  rw [World.setRow_alloc_new]
  exact h
theorem tagSize (bs : List UInt8) : (Tryd.prog.info? 27).map (·.size) = some ((shaL bs).map bv).toArray.size := by
  rw [List.size_toArray, List.length_map, shaL_len]
  kernel_rfl
theorem tagOne (bs : List UInt8) : ((shaL bs).map bv).toArray.all (·.oneCell') = true := by simp [bv, Value.oneCell']

set_option maxRecDepth 100000 in
set_option maxHeartbeats 1000000 in
theorem works_any (w : World) (ht : Tab w) : Calls Tryd.prog 8 #[] w fun e w' => e = .returned (.bool true) ∧ Below w.heap.size w w' := by
  have kc := run_const8
  have hlt := ht.lt
  have hlt0 := ht.lt0
  have HT := Lib.hid ht
  clear ht
  go_enter Tryd.func8, Tryd.ntmps8
  go_wp2_with fail
  refine (sum_any none 0 0 [] [] w Rws.zero (by simp) (by omega) HT.out).mono ?_
  rintro e W1 ⟨rfl, hb1⟩
  go_wp2_with (refine wpList_store_new rfl 27 _ _ rfl W1 _ _ rfl rfl (tagSize []) rfl (tagOne []) ?_)
  obtain ⟨Wa, hWa, ha0, har, hab⟩ : ∃ Wa, Wa = ((((W1.alloc (.cells ((shaL []).map bv).toArray 27)).alloc (.cells #[.int .u8 97] 5 (1, 2))).alloc (.cells #[.int .u8 98, .int .u8 99] 5 (2, 3))).alloc
      (.cells #[.slice (some ⟨W1.heap.size + 1, 0, none⟩) 1 1, .slice none 0 0, .slice (some ⟨W1.heap.size + 1 + 1, 0, none⟩) 2 2] 30)) ∧
      Bk Wa W1.heap.size 27 ((shaL []).map bv) ∧
      Rws Wa Wa.heap.size (some ⟨W1.heap.size + 1 + 1 + 1, 0, none⟩) 3 [(some ⟨W1.heap.size + 1, 0, none⟩, 1, 1), (none, 0, 0), (some ⟨W1.heap.size + 1 + 1, 0, none⟩, 2, 2)] [[97], [], [98, 99]] ∧ Below w.heap.size w Wa := by
    refine ⟨_, rfl, (((Bk.new W1 _ _).alloc _).alloc _).alloc _, ?_, ?_⟩
    · refine Rws.mk3 (rdNew _ _ _ (by simp) _ (by simp)) ⟨?_, Nat.le_refl _⟩ ⟨Rd.nil, Nat.le_refl _⟩ ⟨?_, Nat.le_refl _⟩
      · have h := rdNew (w := W1.alloc (.cells ((shaL []).map bv).toArray 27)) (H := W1.heap.size + 1) 5 ([97].map bv) (1, 2) (by simp) (W1.heap.size + 1 + 1) (by omega)
        exact ((h.below ((Below.refl _ _).alloc (by simp) _)).below ((Below.refl _ _).alloc (by simp) _)).more (by simp)
      · have h := rdNew (w := (W1.alloc (.cells ((shaL []).map bv).toArray 27)).alloc (.cells #[.int .u8 97] 5 (1, 2))) (H := W1.heap.size + 1 + 1) 5 ([98, 99].map bv) (2, 3) (by simp) (W1.heap.size + 1 + 1 + 1) (by omega)
        exact (h.below ((Below.refl _ _).alloc (by simp) _)).more (by simp)
    · exact (((hb1.alloc hb1.size _).alloc (by have := hb1.size; simp; omega) _).alloc (by have := hb1.size; simp; omega) _).alloc (by have := hb1.size; simp; omega) _
  rw [← hWa]
  clear hWa kc
  refine (sum_any _ 3 3 _ _ Wa har (by simp) (by omega) (HT.out.below hab)).mono ?_
  rintro e W2 ⟨rfl, hb2⟩
  have hf : [[97], [], [98, 99]].flatten = ([97, 98, 99] : List UInt8) := rfl
  rw [hf]
  have ha2 := ha0.later hb2
  have hbw2 := hab.trans (hb2.mono hab.size)
  clear ha0 har hab hb2 hb1 hf
  go_wp2_with (refine wpList_store_new rfl 27 _ _ rfl W2 _ _ rfl rfl (tagSize _) rfl (tagOne _) ?_)
  have h12 : W1.heap.size < W2.heap.size := ha2.lt
  obtain ⟨Wb, hWb, hE, hA, hbb, hsb⟩ : ∃ Wb, Wb = W2.alloc (.cells ((shaL [97, 98, 99]).map bv).toArray 27) ∧ Bk Wb W1.heap.size 27 ((shaL []).map bv) ∧ Bk Wb W2.heap.size 27 ((shaL [97, 98, 99]).map bv) ∧ Below w.heap.size w Wb ∧ Wb.heap.size = W2.heap.size + 1 :=
    ⟨_, rfl, ha2.alloc _, Bk.new W2 _ _, hbw2.alloc hbw2.size _, by simp⟩
  rw [← hWb]
  clear hWb ha2
  have HS2 := Lib.hid hbw2.size
  clear hbw2
  refine (new_any Wb (HT.out.below hbb)).mono ?_
  rintro e W3 ⟨rfl, hst3, hb3, hs3⟩
  have hE3 := hE.later hb3
  have hA3 := hA.later hb3
  have hbb3 := hbb.trans (hb3.mono hbb.size)
  rw [hsb] at hst3 hs3 ⊢
  clear hE hA hbb hb3 hsb
  have kc := run_const8
  go_wp2_with fail
  refine (write_any (W2.heap.size + 1) [] (some ⟨W2.heap.size + 1 + 1, 0, none⟩) 2 2 [97, 98] _ (hst3.alloc _) (Rdg.lit 5 [97, 98] (2, 3) hs3 (by omega)) (by omega) (by simp) ((HT.out.below hbb3).below ((Below.refl _ _).alloc (Nat.le_refl _) _)) (by omega) (by omega)).mono ?_
  rintro e W4 ⟨rfl, hst4, hg4⟩
  have hE4 := (hE3.alloc _).grown hg4 (by omega)
  have hA4 := (hA3.alloc _).grown hg4 (by omega)
  have hbb4 := (hbb3.alloc (by have := HS2.out; omega) _).grown hg4 (by have := HS2.out; simp; omega) (fun k hk => by cases hk; have := HS2.out; omega)
  clear hE3 hA3 hbb3 hg4 hst3
  have hl4 := hst4.lt
  go_wp2_with fail
  refine (write_any (W2.heap.size + 1) [97, 98] (some ⟨W4.heap.size, 0, none⟩) 1 1 [99] _ (hst4.alloc _) (Rdg.lit 5 [99] (1, 2) rfl (by omega)) (by omega) (by simp) ((HT.out.below hbb4).below ((Below.refl _ _).alloc (Nat.le_refl _) _)) (by omega) (by omega)).mono ?_
  rintro e W5 ⟨rfl, hst5, hg5⟩
  have hE5 := (hE4.alloc _).grown hg5 (by omega)
  have hA5 := (hA4.alloc _).grown hg5 (by omega)
  have hbb5 := (hbb4.alloc (by have := HS2.out; omega) _).grown hg5 (by have := HS2.out; simp; omega) (fun k hk => by cases hk; have := HS2.out; omega)
  clear hE4 hA4 hbb4 hg5 hst4 hl4 kc
  go_wp2
  --BEGIN any
  have eqA := eqTag [97, 98, 99]
  have hrg : ∀ (W : World), Bk W W2.heap.size 27 ((shaL [97, 98, 99]).map bv) → W.rangeAt W2.heap.size 0 ((shaL [97, 98, 99]).map bv) := fun W h j v hv => by
    rw [Nat.zero_add, h.cell]
    exact hv
  refine wp_region_any (by kernel_rfl) ?_
  try (change wpAny _ _ _ _ _ _ _ (World.drew _))
  refine wpAny_take (i := 0) (oi := ?oia1) (v := ?va1) ?hoa1 (by kernel_rfl) ?hfa1 ?hra1 ?hQa1 ?hya1 ?resta1
  case hoa1 => (simp only [List.getElem?_toArray, List.getElem?_cons_succ, List.getElem?_cons_zero]; exact rfl)
  case hfa1 => kernel_rfl
  case hra1 => kernel_rfl
  case hQa1 => exact fun _ _ _ h => h
  case hya1 =>
    refine Or.inl ⟨by rfl, ?_⟩
    intro w
    go_simp
    (try with_reducible rfl)
  try simp only [Act.put, List.setIfInBounds_toArray, List.set_cons_zero, List.set_cons_succ]
  refine wpAny_ready (rs := [1]) (by kernel_rfl) (by simp) ?_
  refine AllReady.cons (o := ?oa2) ?hoa2 (fun K hK => ?ka2) ?ma2
  case hoa2 => (simp only [List.getElem?_toArray, List.getElem?_cons_succ, List.getElem?_cons_zero]; exact rfl)
  case ka2 =>
    go_simp
    refine (hexV [] W1.heap.size _ (by exact hE5) [101, 51, 98, 48, 99, 52, 52, 50, 57, 56, 102, 99, 49, 99, 49, 52, 57, 97, 102, 98, 102, 52, 99, 56, 57, 57, 54, 102, 98, 57, 50, 52, 50, 55, 97, 101, 52, 49, 101, 52, 54, 52, 57, 98, 57, 51, 52, 99, 97, 52, 57, 53, 57, 57, 49, 98, 55, 56, 53, 50, 98, 56, 53, 53] sumE).mono ?_
    rintro e W6a ⟨rfl, m6a, rfl⟩
    (try dsimp only)
    refine hK _ _ ?_
    clear hK K
    try simp only [Act.put, List.setIfInBounds_toArray, List.set_cons_zero, List.set_cons_succ]
    refine wpAny_take (i := 2) (oi := ?oia3) (v := ?va3) ?hoa3 (by kernel_rfl) ?hfa3 ?hra3 ?hQa3 ?hya3 ?resta3
    case hoa3 => (simp only [List.getElem?_toArray, List.getElem?_cons_succ, List.getElem?_cons_zero]; exact rfl)
    case hfa3 => kernel_rfl
    case hra3 => kernel_rfl
    case hQa3 => exact fun _ _ _ h => h
    case hya3 =>
      refine Or.inl ⟨by rfl, ?_⟩
      intro w
      go_simp
      (try with_reducible rfl)
    try simp only [Act.put, List.setIfInBounds_toArray, List.set_cons_zero, List.set_cons_succ]
    refine wpAny_take (i := 3) (oi := ?oia4) (v := ?va4) ?hoa4 (by kernel_rfl) ?hfa4 ?hra4 ?hQa4 ?hya4 ?resta4
    case hoa4 => (simp only [List.getElem?_toArray, List.getElem?_cons_succ, List.getElem?_cons_zero]; exact rfl)
    case hfa4 => kernel_rfl
    case hra4 => kernel_rfl
    case hQa4 => exact fun _ _ _ h => h
    case hya4 =>
      refine Or.inl ⟨by rfl, ?_⟩
      intro w
      go_simp
      (try with_reducible rfl)
    try simp only [Act.put, List.setIfInBounds_toArray, List.set_cons_zero, List.set_cons_succ]
    refine wpAny_take (i := 4) (oi := ?oia5) (v := ?va5) ?hoa5 (by kernel_rfl) ?hfa5 ?hra5 ?hQa5 ?hya5 ?resta5
    case hoa5 => (simp only [List.getElem?_toArray, List.getElem?_cons_succ, List.getElem?_cons_zero]; exact rfl)
    case hfa5 => kernel_rfl
    case hra5 => kernel_rfl
    case hQa5 => exact fun _ _ _ h => h
    case hya5 =>
      refine Or.inl ⟨by rfl, ?_⟩
      intro w
      go_simp
      (try with_reducible rfl)
    try simp only [Act.put, List.setIfInBounds_toArray, List.set_cons_zero, List.set_cons_succ]
    refine wpAny_ready (rs := [5]) (by kernel_rfl) (by simp) ?_
    refine AllReady.cons (o := ?oa6) ?hoa6 (fun K hK => ?ka6) ?ma6
    case hoa6 => (simp only [List.getElem?_toArray, List.getElem?_cons_succ, List.getElem?_cons_zero]; exact rfl)
    case ka6 =>
      go_simp
      refine (hexV [97, 98, 99] W2.heap.size _ (by exact hA5) [98, 97, 55, 56, 49, 54, 98, 102, 56, 102, 48, 49, 99, 102, 101, 97, 52, 49, 52, 49, 52, 48, 100, 101, 53, 100, 97, 101, 50, 50, 50, 51, 98, 48, 48, 51, 54, 49, 97, 51, 57, 54, 49, 55, 55, 97, 57, 99, 98, 52, 49, 48, 102, 102, 54, 49, 102, 50, 48, 48, 49, 53, 97, 100] sumA).mono ?_
      rintro e W6b ⟨rfl, m6b, rfl⟩
      (try dsimp only)
      refine hK _ _ ?_
      clear hK K
      try simp only [Act.put, List.setIfInBounds_toArray, List.set_cons_zero, List.set_cons_succ]
      refine wpAny_take (i := 6) (oi := ?oia7) (v := ?va7) ?hoa7 (by kernel_rfl) ?hfa7 ?hra7 ?hQa7 ?hya7 ?resta7
      case hoa7 => (simp only [List.getElem?_toArray, List.getElem?_cons_succ, List.getElem?_cons_zero]; exact rfl)
      case hfa7 => kernel_rfl
      case hra7 => kernel_rfl
      case hQa7 => exact fun _ _ _ h => h
      case hya7 =>
        refine Or.inl ⟨by rfl, ?_⟩
        intro w
        go_simp
        (try with_reducible rfl)
      try simp only [Act.put, List.setIfInBounds_toArray, List.set_cons_zero, List.set_cons_succ]
      refine wpAny_take (i := 7) (oi := ?oia8) (v := ?va8) ?hoa8 (by kernel_rfl) ?hfa8 ?hra8 ?hQa8 ?hya8 ?resta8
      case hoa8 => (simp only [List.getElem?_toArray, List.getElem?_cons_succ, List.getElem?_cons_zero]; exact rfl)
      case hfa8 => kernel_rfl
      case hra8 => kernel_rfl
      case hQa8 => exact fun _ _ _ h => h
      case hya8 =>
        refine Or.inl ⟨by rfl, ?_⟩
        intro w
        go_simp
        (try with_reducible rfl)
      try simp only [Act.put, List.setIfInBounds_toArray, List.set_cons_zero, List.set_cons_succ]
      refine wpAny_take (i := 8) (oi := ?oia9) (v := ?va9) ?hoa9 (by kernel_rfl) ?hfa9 ?hra9 ?hQa9 ?hya9 ?resta9
      case hoa9 => (simp only [List.getElem?_toArray, List.getElem?_cons_succ, List.getElem?_cons_zero]; exact rfl)
      case hfa9 => kernel_rfl
      case hra9 => kernel_rfl
      case hQa9 => exact fun _ _ _ h => h
      case hya9 =>
        refine Or.inl ⟨by rfl, ?_⟩
        intro w
        go_simp
        (try with_reducible rfl)
      try simp only [Act.put, List.setIfInBounds_toArray, List.set_cons_zero, List.set_cons_succ]
      refine wpAny_take (i := 9) (oi := ?oia10) (v := ?va10) ?hoa10 (by kernel_rfl) ?hfa10 ?hra10 ?hQa10 ?hya10 ?resta10
      case hoa10 => (simp only [List.getElem?_toArray, List.getElem?_cons_succ, List.getElem?_cons_zero]; exact rfl)
      case hfa10 => kernel_rfl
      case hra10 => kernel_rfl
      case hQa10 => exact fun _ _ _ h => h
      case hya10 =>
        refine Or.inl ⟨by rfl, ?_⟩
        intro w
        go_simp
        (try with_reducible rfl)
      try simp only [Act.put, List.setIfInBounds_toArray, List.set_cons_zero, List.set_cons_succ]
      refine wpAny_ready (rs := [10, 11]) (by kernel_rfl) (by simp) ?_
      refine AllReady.cons (o := ?oa11) ?hoa11 (fun K hK => ?ka11) ?ma11
      case hoa11 => (simp only [List.getElem?_toArray, List.getElem?_cons_succ, List.getElem?_cons_zero]; exact rfl)
      case ka11 =>
        go_simp
        refine (sumM_any (W2.heap.size + 1) [97, 98, 99] _ (by exact hst5) (by simp) (by exact (HT.out.below hbb5 : Tab W5))).mono ?_
        rintro e W7 ⟨rfl, hb7⟩
        (try dsimp only)
        refine hK _ _ ?_
        clear hK K
        try simp only [Act.put, List.setIfInBounds_toArray, List.set_cons_zero, List.set_cons_succ]
        refine wpAny_ready (rs := [11]) (by kernel_rfl) (by simp) ?_
        refine AllReady.cons (o := ?oa12) ?hoa12 (fun K hK => ?ka12) ?ma12
        case hoa12 => (simp only [List.getElem?_toArray, List.getElem?_cons_succ, List.getElem?_cons_zero]; exact rfl)
        case ka12 =>
          refine any_load_mid (by rfl) 27 (.tmp 2) rfl W2.heap.size 0 rfl ((shaL [97, 98, 99]).map bv) _ (hrg _ (Bk.later (by exact hA5) hb7)) Tryd.underlying27 rfl (tagSize _) ?_
          refine hK _ _ ?_
          clear hK K
          try simp only [Act.put, List.setIfInBounds_toArray, List.set_cons_zero, List.set_cons_succ]
          refine wpAny_take (i := 12) (oi := ?oia13) (v := ?va13) ?hoa13 (by kernel_rfl) ?hfa13 ?hra13 ?hQa13 ?hya13 ?resta13
          case hoa13 => (simp only [List.getElem?_toArray, List.getElem?_cons_succ, List.getElem?_cons_zero]; exact rfl)
          case hfa13 => kernel_rfl
          case hra13 => kernel_rfl
          case hQa13 => exact fun _ _ _ h => h
          case hya13 =>
            refine Or.inl ⟨by rfl, ?_⟩
            intro w
            go_simp
            (try with_reducible rfl)
          try simp only [Act.put, List.setIfInBounds_toArray, List.set_cons_zero, List.set_cons_succ]
          refine wpAny_take (i := 13) (oi := ?oia14) (v := ?va14) ?hoa14 (by kernel_rfl) ?hfa14 ?hra14 ?hQa14 ?hya14 ?resta14
          case hoa14 => (simp only [List.getElem?_toArray, List.getElem?_cons_succ, List.getElem?_cons_zero]; exact rfl)
          case hfa14 => kernel_rfl
          case hra14 => kernel_rfl
          case hQa14 => exact fun _ _ _ h => h
          case hya14 =>
            refine Or.inl ⟨by rfl, ?_⟩
            intro w
            go_simp
            (try with_reducible rfl)
          try simp only [Act.put, List.setIfInBounds_toArray, List.set_cons_zero, List.set_cons_succ]
          refine wpAny_take (i := 14) (oi := ?oia15) (v := ?va15) ?hoa15 (by kernel_rfl) ?hfa15 ?hra15 ?hQa15 ?hya15 ?resta15
          case hoa15 => (simp only [List.getElem?_toArray, List.getElem?_cons_succ, List.getElem?_cons_zero]; exact rfl)
          case hfa15 => kernel_rfl
          case hra15 => kernel_rfl
          case hQa15 => exact fun _ _ _ h => h
          case hya15 =>
            refine Or.inl ⟨by rfl, ?_⟩
            intro w
            go_simp
            (try with_reducible rfl)
          try simp only [Act.put, List.setIfInBounds_toArray, List.set_cons_zero, List.set_cons_succ]
          refine wpAny_done (by kernel_rfl) ?_ _
          go_wp2
          go_ret
          refine ⟨rfl, Below.trans ?_ (hb7.mono hbb5.size)⟩
          exact ⟨hbb5.os, hbb5.tape, hbb5.output, hbb5.size, hbb5.block⟩
        exact AllReady.nil
      refine AllReady.cons (o := ?oa16) ?hoa16 (fun K hK => ?ka16) ?ma16
      case hoa16 => (simp only [List.getElem?_toArray, List.getElem?_cons_succ, List.getElem?_cons_zero]; exact rfl)
      case ka16 =>
        refine any_load_mid (by rfl) 27 (.tmp 2) rfl W2.heap.size 0 rfl ((shaL [97, 98, 99]).map bv) _ (hrg _ (by exact hA5)) Tryd.underlying27 rfl (tagSize _) ?_
        refine hK _ _ ?_
        clear hK K
        try simp only [Act.put, List.setIfInBounds_toArray, List.set_cons_zero, List.set_cons_succ]
        refine wpAny_ready (rs := [10]) (by kernel_rfl) (by simp) ?_
        refine AllReady.cons (o := ?oa17) ?hoa17 (fun K hK => ?ka17) ?ma17
        case hoa17 => (simp only [List.getElem?_toArray, List.getElem?_cons_succ, List.getElem?_cons_zero]; exact rfl)
        case ka17 =>
          go_simp
          refine (sumM_any (W2.heap.size + 1) [97, 98, 99] _ (by exact hst5) (by simp) (by exact (HT.out.below hbb5 : Tab W5))).mono ?_
          rintro e W7 ⟨rfl, hb7⟩
          (try dsimp only)
          refine hK _ _ ?_
          clear hK K
          try simp only [Act.put, List.setIfInBounds_toArray, List.set_cons_zero, List.set_cons_succ]
          refine wpAny_take (i := 12) (oi := ?oia18) (v := ?va18) ?hoa18 (by kernel_rfl) ?hfa18 ?hra18 ?hQa18 ?hya18 ?resta18
          case hoa18 => (simp only [List.getElem?_toArray, List.getElem?_cons_succ, List.getElem?_cons_zero]; exact rfl)
          case hfa18 => kernel_rfl
          case hra18 => kernel_rfl
          case hQa18 => exact fun _ _ _ h => h
          case hya18 =>
            refine Or.inl ⟨by rfl, ?_⟩
            intro w
            go_simp
            (try with_reducible rfl)
          try simp only [Act.put, List.setIfInBounds_toArray, List.set_cons_zero, List.set_cons_succ]
          refine wpAny_take (i := 13) (oi := ?oia19) (v := ?va19) ?hoa19 (by kernel_rfl) ?hfa19 ?hra19 ?hQa19 ?hya19 ?resta19
          case hoa19 => (simp only [List.getElem?_toArray, List.getElem?_cons_succ, List.getElem?_cons_zero]; exact rfl)
          case hfa19 => kernel_rfl
          case hra19 => kernel_rfl
          case hQa19 => exact fun _ _ _ h => h
          case hya19 =>
            refine Or.inl ⟨by rfl, ?_⟩
            intro w
            go_simp
            (try with_reducible rfl)
          try simp only [Act.put, List.setIfInBounds_toArray, List.set_cons_zero, List.set_cons_succ]
          refine wpAny_take (i := 14) (oi := ?oia20) (v := ?va20) ?hoa20 (by kernel_rfl) ?hfa20 ?hra20 ?hQa20 ?hya20 ?resta20
          case hoa20 => (simp only [List.getElem?_toArray, List.getElem?_cons_succ, List.getElem?_cons_zero]; exact rfl)
          case hfa20 => kernel_rfl
          case hra20 => kernel_rfl
          case hQa20 => exact fun _ _ _ h => h
          case hya20 =>
            refine Or.inl ⟨by rfl, ?_⟩
            intro w
            go_simp
            (try with_reducible rfl)
          try simp only [Act.put, List.setIfInBounds_toArray, List.set_cons_zero, List.set_cons_succ]
          refine wpAny_done (by kernel_rfl) ?_ _
          go_wp2
          go_ret
          refine ⟨rfl, Below.trans ?_ (hb7.mono hbb5.size)⟩
          exact ⟨hbb5.os, hbb5.tape, hbb5.output, hbb5.size, hbb5.block⟩
        exact AllReady.nil
      exact AllReady.nil
    exact AllReady.nil
  exact AllReady.nil
end Go.Proofs.YtnjahmikenjjaaaDoor
