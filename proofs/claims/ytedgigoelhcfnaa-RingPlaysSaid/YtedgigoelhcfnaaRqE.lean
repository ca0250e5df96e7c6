/- Layer 18 (ring), the landed program: slices.Clone of a key; has; add. -/
import Derived.Test.YtedgigoelhcfnaaRqD
import Derived.Deep.RegionHeld2
import Derived.Lib.SliceRun
import Derived.WalkSpells
set_option linter.unusedVariables false
set_option linter.unusedSimpArgs false
namespace Go.Proofs.Ytedgigoelhcfnaa
open Go Go.RowKit Go.Maps

theorem b8InfoR : (Try.prog.info? 5).map (fun i => (i.zero, i.size, i.bytes)) = some (some (.int .u8 0), 1, 1) := by kernel_rfl
theorem appR {ops : Array Oper} {rest : List Oper} {o : Oper} {a : Act} {Q : Exit → Act → World → Prop} (w : World) (hgd : o.guard = none) (p x : Operand)
    (ho : o.op = .call { callee := .builtin .append, args := #[p, x], argTypes := #[32, 32] })
    (base : Nat) (A0 : Option Addr) (c0 : Nat) (hv : a.eval p = .slice A0 0 c0) (hown : w.ownsRow base 5 1 (.slice A0 0 c0) 0 [])
    (B : Nat) (A : Option Addr) (m c : Nat) (k : List UInt8) (hx : a.eval x = .slice A m c) (hr : Rd w B 1 A m (k.map bv)) (hb : m ≤ 1000000000) (hbase : base ≤ w.heap.size)
    (h : ∀ A' c' w', w'.ownsRow base 5 1 (.slice A' m c') m (k.map bv) → Below base w w' → wpList Try.prog ops Q rest (a.put o.dst (.slice A' m c')) w') : wpList Try.prog ops Q (o :: rest) a w := by
  obtain ⟨i0, hi, hz0, hz1, hz2⟩ := info_parts b8InfoR
  refine wpList_app w hgd p x 32 ho base 5 i0 _ 1 1 Try.underlying32 hi hz0 hz1 hz2 rfl (by decide) _ 0 _ hv hown B A m c _ hx hr (bv_one k) (by simp only [maxLen]; omega) (by omega) hbase ?_
  intro A' c' w' h4 h2 h3
  rw [Nat.zero_add, List.nil_append] at h4
  rw [Nat.zero_add]
  exact h A' c' w' h4 (belowApp (Below.refl _ _) hown h2 hbase)
theorem ownR_cap {w : World} {base c n : Nat} {A : Option Addr} {xs : List Value} (h : w.ownsRow base 5 1 (.slice A n c) n xs) : n ≤ c := by
  obtain ⟨A', c', e, h1⟩ := ownForm h
  cases e
  exact h1
theorem rClone_nil (w : World) : Calls Try.prog 19 #[.slice none 0 0] w fun e w' => e = .returned (.slice none 0 0) ∧ w' = w := by
  have hq := Go.Lib.run_eql_slice_nil (P := Try.prog) w 32 5 none 0 0 0 0 Try.underlying32
  go_enter Try.func19, Try.ntmps19
  repeat (first | go_skip | go_guarded | go_step)
  go_ret
  exact ⟨rfl, rfl⟩
set_option maxRecDepth 100000 in
theorem rClone_any (A : Option Addr) (c : Nat) (k : List UInt8) (w : World) (h : Rd w w.heap.size 1 A k.length (k.map bv)) (hnc : k.length ≤ c) (h1 : 1 ≤ k.length) (h6 : k.length ≤ 1000000) :
    Calls Try.prog 19 #[.slice A k.length c] w fun e w' => ∃ A' c', e = .returned (.slice A' k.length c') ∧ k.length ≤ c' ∧ Rd w' w'.heap.size 1 A' k.length (k.map bv) ∧ (∀ x, A'.map (·.block) = some x → w.heap.size ≤ x ∧ x < w'.heap.size) ∧ Below w.heap.size w w' := by
  obtain ⟨b, o, hA, hb, _⟩ := h.2 (by omega)
  subst hA
  obtain ⟨n, hn⟩ : ∃ n, n = k.length := ⟨_, rfl⟩
  rw [← hn] at h hnc h1 h6 ⊢
  have hbU : Below w.heap.size w (w.alloc (.cells #[] 5)) := (Below.refl _ _).alloc (Nat.le_refl _) _
  have HOU := Lib.hid (show (w.alloc (.cells #[] 5)).ownsRow w.heap.size 5 1 (.slice (some ⟨w.heap.size, 0, none⟩) 0 0) 0 [] from ⟨rfl, .inr ⟨w.heap.size, 0, #[], rfl, Nat.le_refl _, heap_alloc_new w _, Nat.le_refl _, by simp [maxLen], rfl, rfl⟩⟩)
  have HRU := Lib.hid (h.below hbU)
  have HBU := Lib.hid hbU
  clear hbU h hn
  have hq := Go.Lib.run_eql_slice_nil (P := Try.prog) w 32 5 (some ⟨b, o, none⟩) n c 0 0 Try.underlying32
  go_enter Try.func19, Try.ntmps19
  repeat (first
    | (at_builtin; refine appR _ rfl (.tmp 5) (.tmp 6) rfl w.heap.size _ 0 rfl HOU.out _ (some ⟨b, o, none⟩) n c k rfl HRU.out (by omega) HBU.out.size ?_; intro Ao co w1 ho1 hb1)
    | go_skip | go_guarded | go_step)
  have HO1 := Lib.hid ho1
  clear ho1
  go_ret
  refine ⟨Ao, co, rfl, ownR_cap HO1.out, Rd.ofOwn HO1.out, fun x hx => ?_, HBU.out.trans hb1⟩
  exact World.ownsRow.lt HO1.out x (by rw [ownBlkR]; exact hx)
set_option maxRecDepth 100000 in
theorem rHas_any (a : Nat) (mb : Option Nat) (O : Nat → Prop) (K : List RgE) (u : UInt32) (w : World) (hbox : Bk w a 48 [.map mb]) (h : MapN w mb O K) :
    Calls Try.prog 16 #[rp a, nr u] w fun e w' => e = .returned (.bool (rgAt K u).isSome) ∧ w' = w := by
  have k0 := hbox.cell 0
  simp only [List.getElem?_cons_zero] at k0
  have HM := Lib.hid h
  clear h hbox
  cases hf : rgAt K u with
  | none =>
    have HF := Lib.hid hf
    clear hf
    go_enter Try.func16, Try.ntmps16
    repeat (first | (at_lookup; refine lookR_not _ rfl _ _ rfl mb O K u rfl rfl HM.out HF.out ?_) | go_skip | go_guarded | go_step)
    go_ret
    exact ⟨rfl, rfl⟩
  | some k =>
    have HF := Lib.hid hf
    clear hf
    go_enter Try.func16, Try.ntmps16
    repeat (first | (at_lookup; refine lookR_is _ rfl _ _ rfl mb O K u k rfl rfl HM.out HF.out ?_; intro A c hc hrd hA) | go_skip | go_guarded | go_step)
    go_ret
    exact ⟨rfl, rfl⟩
set_option maxRecDepth 100000 in
set_option maxHeartbeats 4000000 in
theorem rAdd_any (a : Nat) (mb : Option Nat) (O : Nat → Prop) (KK : List RgE) (u : UInt32) (A : Option Addr) (c : Nat) (k : List UInt8) (w : World) (hbox : Bk w a 48 [.map mb]) (h : MapN w mb O KK) (hO : ∀ x, O x → x < w.heap.size ∧ x ≠ a)
    (hr : (KK.map (·.1)).Pairwise (· < ·)) (hl : KK.length ≤ 500) (hf : rgAt KK u = none) (hrd : Rd w w.heap.size 1 A k.length (k.map bv)) (hA : ∀ x, A.map (·.block) = some x → x ≠ a ∧ ¬ O x) (hnc : k.length ≤ c) (h1 : 1 ≤ k.length) (h6 : k.length ≤ 1000000) :
    Calls Try.prog 18 #[rp a, nr u, .slice A k.length c] w fun e w' => e = .returned (.tuple #[]) ∧ ∃ b O', Bk w' a 48 [.map (some b)] ∧ O' b ∧ MapK w' b O' (rgIns KK u k) ∧ (∀ x, O' x → O x ∨ (w.heap.size ≤ x ∧ x < w'.heap.size)) ∧ Turn (fun x => x = a ∨ O x) w w' := by
  have k0 := hbox.cell 0
  simp only [List.getElem?_cons_zero] at k0
  have ha := hbox.lt
  have hAl : ∀ x, A.map (·.block) = some x → x < w.heap.size := fun x hx => by
    obtain ⟨g, o, e, hg, _⟩ := hrd.2 (by omega)
    subst e
    cases hx
    exact hg
  cases mb with
  | none =>
    have hK : KK = [] := h
    have hmm := @run_makeMap Try.prog
    have hq := run_eql_map_nil (P := Try.prog) w 46 31 32 none Try.underlying46
    have hfr := hbox.frozen 0
    have fr2 : (w.alloc (.map #[] 0)).frozen? ⟨a, 0, none⟩ = false := (hbox.alloc (.map #[] 0)).frozen 0
    obtain ⟨w1, hw1, hb1, hbk, hm1, hs1⟩ : ∃ w1, w1 = (w.setCell ⟨a, 0, none⟩ (.map (some w.heap.size))).alloc (.map #[] 0) ∧ Turn (fun x => x = a) w w1 ∧ Bk w1 a 48 [.map (some w.heap.size)] ∧ MapK w1 w.heap.size (fun x => x = w.heap.size) KK ∧ w1.heap.size = w.heap.size + 1 := by
      refine ⟨_, rfl, ((Turn.refl (fun x => x = a) w).setCell (p := ⟨a, 0, none⟩) (fun _ => rfl) _).alloc _, (hbox.set_ 0 _).alloc _, ?_, by simp⟩
      rw [hK]
      have h9 := MapK.made (w.setCell ⟨a, 0, none⟩ (.map (some w.heap.size))) (fun x => x = w.heap.size)
      rw [World.size_setCell] at h9
      exact h9
    have HW1 := Lib.hid hw1
    have HT1 := Lib.hid hb1
    obtain ⟨b, hb⟩ : ∃ b, b = w.heap.size := ⟨_, rfl⟩
    have HBK := Lib.hid (show Bk w1 a 48 [.map (some b)] by rw [hb]; exact hbk)
    have hab : ¬ a = b := by omega
    have hbw : b < w1.heap.size := by omega
    obtain ⟨O1, hO1⟩ : ∃ O1 : Nat → Prop, O1 = fun x => x = b := ⟨_, rfl⟩
    have HMK := Lib.hid (show ∀ V, Below w1.heap.size w1 V → MapK V b O1 KK from fun V hV => by
      rw [hO1, hb]
      exact hm1.turn (H := fun _ => False) (Turn.ofBelow hV) id (fun _ _ => id) (fun x e => by omega))
    have HOL := Lib.hid (show ∀ x, O1 x → x < w1.heap.size from fun x e => by rw [hO1] at e; omega)
    have HRD := Lib.hid (show ∀ V, Turn (fun x => x = b) w1 V → Rd V V.heap.size 1 A k.length (k.map bv) from fun V hV => by
      have e1 : Rd w1 w1.heap.size 1 A k.length (k.map bv) := (rdBlk hrd fun x hx i => hb1.cell (p := ⟨x, i, none⟩) (hAl x hx) (hA x hx).1).more hb1.size
      exact (rdBlk e1 fun x hx i => hV.cell (p := ⟨x, i, none⟩) (by have := hAl x hx; show x < w1.heap.size; omega) (by have := hAl x hx; show ¬ x = b; omega)).more hV.size)
    have HBZ := Lib.hid (show Below w1.heap.size w1 w1.drew from belowDrews (Below.refl _ _) 1)
    have HB := Lib.hid hb
    have HO1 := Lib.hid hO1
    have HFIN := Lib.hid (show ∀ W W6 : World, w1.heap.size ≤ W6.heap.size → W6.heap.size ≤ W.heap.size → ∀ x, (O1 x ∨ (w1.heap.size ≤ x ∧ x < W6.heap.size)) → O x ∨ (w.heap.size ≤ x ∧ x < W.heap.size) from fun W W6 g1 g2 x hx => by
      rw [hO1] at hx
      refine .inr ?_
      rcases hx with e | e <;> omega)
    clear hw1 hbk hm1 hb1 hO1 h hbox hA hAl hrd hO
    rw [← hb] at HW1
    clear hb
    go_enter Try.func18, Try.ntmps18
    go_upto_region 2 with (fail)
    rw [← HB.out]
    rw [← HW1.out]
    clear k0 fr2 hfr hmm hq
    refine wp_region_held_drew (S := fun V => Turn (fun x => x = b) w1 V) (by kernel_rfl) ?_ (fun hHeld => ?_)
    · exact (Turn.refl _ _).drew
    refine wpAnyH_take (i := 0) (oi := ?oid1) (v := ?vd1) ?hod1 (by kernel_rfl) ?hfd1 ?hrd1 ?hQd1 ?hyd1 hHeld ?restd1
    case hod1 => (simp only [List.getElem?_toArray, List.getElem?_cons_succ, List.getElem?_cons_zero]; exact rfl)
    case hfd1 => kernel_rfl
    case hrd1 => kernel_rfl
    case hQd1 => exact fun _ _ _ h => h
    case hyd1 =>
      refine Or.inl ⟨by rfl, ?_⟩
      intro V hSV
      go_simp
      (try with_reducible rfl)
    try simp only [Act.put, List.setIfInBounds_toArray, List.set_cons_zero, List.set_cons_succ]
    refine wpAnyH_take (i := 1) (oi := ?oid2) (v := ?vd2) ?hod2 (by kernel_rfl) ?hfd2 ?hrd2 ?hQd2 ?hyd2 hHeld ?restd2
    case hod2 => (simp only [List.getElem?_toArray, List.getElem?_cons_succ, List.getElem?_cons_zero]; exact rfl)
    case hfd2 => kernel_rfl
    case hrd2 => kernel_rfl
    case hQd2 => exact fun _ _ _ h => h
    case hyd2 =>
      refine Or.inl ⟨by rfl, ?_⟩
      intro V hSV
      go_simp
      (try with_reducible rfl)
    try simp only [Act.put, List.setIfInBounds_toArray, List.set_cons_zero, List.set_cons_succ]
    refine wpAnyH_take (i := 2) (oi := ?oid3) (v := ?vd3) ?hod3 (by kernel_rfl) ?hfd3 ?hrd3 ?hQd3 ?hyd3 hHeld ?restd3
    case hod3 => (simp only [List.getElem?_toArray, List.getElem?_cons_succ, List.getElem?_cons_zero]; exact rfl)
    case hfd3 => kernel_rfl
    case hrd3 => kernel_rfl
    case hQd3 => exact fun _ _ _ h => h
    case hyd3 =>
      refine Or.inl ⟨by rfl, ?_⟩
      intro V hSV
      go_simp
      (try with_reducible rfl)
    try simp only [Act.put, List.setIfInBounds_toArray, List.set_cons_zero, List.set_cons_succ]
    refine wpAnyH_take (i := 3) (oi := ?oid4) (v := ?vd4) ?hod4 (by kernel_rfl) ?hfd4 ?hrd4 ?hQd4 ?hyd4 hHeld ?restd4
    case hod4 => (simp only [List.getElem?_toArray, List.getElem?_cons_succ, List.getElem?_cons_zero]; exact rfl)
    case hfd4 => kernel_rfl
    case hrd4 => kernel_rfl
    case hQd4 => exact fun _ _ _ h => h
    case hyd4 =>
      refine Or.inl ⟨by rfl, ?_⟩
      intro V hSV
      have q1 := (hSV.bk HBK.out hab).cell 0
      simp only [List.getElem?_cons_zero] at q1
      go_simp
      (try with_reducible rfl)
    try simp only [Act.put, List.setIfInBounds_toArray, List.set_cons_zero, List.set_cons_succ]
    refine wpAnyH_take (i := 4) (oi := ?oid5) (v := ?vd5) ?hod5 (by kernel_rfl) ?hfd5 ?hrd5 ?hQd5 ?hyd5 hHeld ?restd5
    case hod5 => (simp only [List.getElem?_toArray, List.getElem?_cons_succ, List.getElem?_cons_zero]; exact rfl)
    case hfd5 => kernel_rfl
    case hrd5 => kernel_rfl
    case hQd5 => exact fun _ _ _ h => h
    case hyd5 =>
      refine Or.inl ⟨by rfl, ?_⟩
      intro V hSV
      go_simp
      (try with_reducible rfl)
    try simp only [Act.put, List.setIfInBounds_toArray, List.set_cons_zero, List.set_cons_succ]
    refine wpAnyH_take (i := 5) (oi := ?oid6) (v := ?vd6) ?hod6 (by kernel_rfl) ?hfd6 ?hrd6 ?hQd6 ?hyd6 hHeld ?restd6
    case hod6 => (simp only [List.getElem?_toArray, List.getElem?_cons_succ, List.getElem?_cons_zero]; exact rfl)
    case hfd6 => kernel_rfl
    case hrd6 => kernel_rfl
    case hQd6 => exact fun _ _ _ h => h
    case hyd6 =>
      refine Or.inl ⟨by rfl, ?_⟩
      intro V hSV
      go_simp
      (try with_reducible rfl)
    try simp only [Act.put, List.setIfInBounds_toArray, List.set_cons_zero, List.set_cons_succ]
    refine wpAnyH_ready (rs := [6]) (by kernel_rfl) (by simp) ?_
    refine AllReadyH.cons (o := ?od7) ?hod7 (fun K hK => ?kd7) ?md7
    case hod7 => (simp only [List.getElem?_toArray, List.getElem?_cons_succ, List.getElem?_cons_zero]; exact rfl)
    case kd7 =>
      go_simp
      have hrd5 := HRD.out _ hHeld
      refine (rClone_any A c k _ hrd5 hnc h1 h6).mono ?_
      rintro e W6 ⟨A6, c6, rfl, hc6, hrd6, hA6, hb6⟩
      have ht6 : Turn (fun x => x = b) w1 W6 := hHeld.trans (Turn.ofBelow hb6)
      have hs6 := hHeld.size
      have hs7 := hb6.size
      obtain ⟨w9, hrun, hm9, ht9⟩ := putR W6 b O1 (fun x => O1 x ∨ (w1.heap.size ≤ x ∧ x < W6.heap.size)) KK u k A6 c6 (HMK.out W6 (Below.trans HBZ.out (hb6.mono HBZ.out.size))) hr hl hf hc6 hrd6 (fun x hx => ⟨.inr ⟨Nat.le_trans hs6 (hA6 x hx).1, (hA6 x hx).2⟩, fun e => by have := (hA6 x hx).1; omega⟩) (fun x hx => .inl hx) (fun x hx => by have := HOL.out x hx; omega) (fun x hx => (hA6 x hx).2)
      (try dsimp only)
      refine hK.out _ _ ?_ (fun hHeld => ?_)
      · exact ht6
      clear hK K
      try simp only [Act.put, List.setIfInBounds_toArray, List.set_cons_zero, List.set_cons_succ]
      refine wpAnyH_ready (rs := [7]) (by kernel_rfl) (by simp) ?_
      refine AllReadyH.cons (o := ?od8) ?hod8 (fun K hK => ?kd8) ?md8
      case hod8 => (simp only [List.getElem?_toArray, List.getElem?_cons_succ, List.getElem?_cons_zero]; exact rfl)
      case kd8 =>
        go_simp
        refine hK.out _ _ ?_ (fun hHeld => ?_)
        · exact ht6.trans ht9
        clear hK K
        try simp only [Act.put, List.setIfInBounds_toArray, List.set_cons_zero, List.set_cons_succ]
        refine wpAnyH_done (by kernel_rfl) ?_ _
        repeat (first | go_skip | go_guarded | go_step)
        go_end0
        have hs9 := ht9.size
        exact ⟨rfl, b, _, (ht6.trans ht9).bk HBK.out hab, .inl (by rw [HO1.out]), hm9, HFIN.out _ _ (by omega) hs9, (HT1.out.mono fun x _ e => .inl e).then_ (ht6.trans ht9) (fun x hx e => by have := HB.out; omega)⟩
      exact AllReadyH.nil
    exact AllReadyH.nil
  | some b =>
    obtain ⟨hOb, hmk⟩ := h
    have hbw := hmk.lt
    have hab : ¬ a = b := fun e => (hO b hOb).2 e.symm
    obtain ⟨O1, hO1⟩ : ∃ O1 : Nat → Prop, O1 = O := ⟨_, rfl⟩
    have hq := run_eql_map_nil (P := Try.prog) w 46 31 32 (some b) Try.underlying46
    have HBK := Lib.hid hbox
    have HMK := Lib.hid (show ∀ V, Below w.heap.size w V → MapK V b O1 KK from fun V hV => by
      rw [hO1]
      exact hmk.turn (H := fun _ => False) (Turn.ofBelow hV) id (fun _ _ => id) (fun x e => (hO x e).1))
    have HOL := Lib.hid (show ∀ x, O1 x → x < w.heap.size from fun x e => (hO x (hO1 ▸ e)).1)
    have HRD := Lib.hid (show ∀ V, Turn (fun x => x = b) w V → Rd V V.heap.size 1 A k.length (k.map bv) from fun V hV =>
      (rdBlk hrd fun x hx i => hV.cell (p := ⟨x, i, none⟩) (hAl x hx) (fun e => (hA x hx).2 (by have e2 : x = b := e; rw [e2]; exact hOb))).more hV.size)
    have HBZ := Lib.hid (show Below w.heap.size w w.drew from belowDrews (Below.refl _ _) 1)
    have HO1 := Lib.hid hO1
    have HFIN := Lib.hid (show ∀ W W6 : World, w.heap.size ≤ W6.heap.size → W6.heap.size ≤ W.heap.size → ∀ x, (O1 x ∨ (w.heap.size ≤ x ∧ x < W6.heap.size)) → O x ∨ (w.heap.size ≤ x ∧ x < W.heap.size) from fun W W6 g1 g2 x hx => by
      rw [hO1] at hx
      rcases hx with e | e
      · exact .inl e
      · exact .inr (by omega))
    clear hbox hmk hA hAl hrd hO hO1
    go_enter Try.func18, Try.ntmps18
    go_upto_region 2 with (fail)
    refine wp_region_held_drew (S := fun V => Turn (fun x => x = b) w V) (by kernel_rfl) ?_ (fun hHeld => ?_)
    · exact (Turn.refl _ _).drew
    refine wpAnyH_take (i := 0) (oi := ?oid9) (v := ?vd9) ?hod9 (by kernel_rfl) ?hfd9 ?hrd9 ?hQd9 ?hyd9 hHeld ?restd9
    case hod9 => (simp only [List.getElem?_toArray, List.getElem?_cons_succ, List.getElem?_cons_zero]; exact rfl)
    case hfd9 => kernel_rfl
    case hrd9 => kernel_rfl
    case hQd9 => exact fun _ _ _ h => h
    case hyd9 =>
      refine Or.inl ⟨by rfl, ?_⟩
      intro V hSV
      go_simp
      (try with_reducible rfl)
    try simp only [Act.put, List.setIfInBounds_toArray, List.set_cons_zero, List.set_cons_succ]
    refine wpAnyH_take (i := 1) (oi := ?oid10) (v := ?vd10) ?hod10 (by kernel_rfl) ?hfd10 ?hrd10 ?hQd10 ?hyd10 hHeld ?restd10
    case hod10 => (simp only [List.getElem?_toArray, List.getElem?_cons_succ, List.getElem?_cons_zero]; exact rfl)
    case hfd10 => kernel_rfl
    case hrd10 => kernel_rfl
    case hQd10 => exact fun _ _ _ h => h
    case hyd10 =>
      refine Or.inl ⟨by rfl, ?_⟩
      intro V hSV
      go_simp
      (try with_reducible rfl)
    try simp only [Act.put, List.setIfInBounds_toArray, List.set_cons_zero, List.set_cons_succ]
    refine wpAnyH_take (i := 2) (oi := ?oid11) (v := ?vd11) ?hod11 (by kernel_rfl) ?hfd11 ?hrd11 ?hQd11 ?hyd11 hHeld ?restd11
    case hod11 => (simp only [List.getElem?_toArray, List.getElem?_cons_succ, List.getElem?_cons_zero]; exact rfl)
    case hfd11 => kernel_rfl
    case hrd11 => kernel_rfl
    case hQd11 => exact fun _ _ _ h => h
    case hyd11 =>
      refine Or.inl ⟨by rfl, ?_⟩
      intro V hSV
      go_simp
      (try with_reducible rfl)
    try simp only [Act.put, List.setIfInBounds_toArray, List.set_cons_zero, List.set_cons_succ]
    refine wpAnyH_take (i := 3) (oi := ?oid12) (v := ?vd12) ?hod12 (by kernel_rfl) ?hfd12 ?hrd12 ?hQd12 ?hyd12 hHeld ?restd12
    case hod12 => (simp only [List.getElem?_toArray, List.getElem?_cons_succ, List.getElem?_cons_zero]; exact rfl)
    case hfd12 => kernel_rfl
    case hrd12 => kernel_rfl
    case hQd12 => exact fun _ _ _ h => h
    case hyd12 =>
      refine Or.inl ⟨by rfl, ?_⟩
      intro V hSV
      have q1 := (hSV.bk HBK.out hab).cell 0
      simp only [List.getElem?_cons_zero] at q1
      go_simp
      (try with_reducible rfl)
    try simp only [Act.put, List.setIfInBounds_toArray, List.set_cons_zero, List.set_cons_succ]
    refine wpAnyH_take (i := 4) (oi := ?oid13) (v := ?vd13) ?hod13 (by kernel_rfl) ?hfd13 ?hrd13 ?hQd13 ?hyd13 hHeld ?restd13
    case hod13 => (simp only [List.getElem?_toArray, List.getElem?_cons_succ, List.getElem?_cons_zero]; exact rfl)
    case hfd13 => kernel_rfl
    case hrd13 => kernel_rfl
    case hQd13 => exact fun _ _ _ h => h
    case hyd13 =>
      refine Or.inl ⟨by rfl, ?_⟩
      intro V hSV
      go_simp
      (try with_reducible rfl)
    try simp only [Act.put, List.setIfInBounds_toArray, List.set_cons_zero, List.set_cons_succ]
    refine wpAnyH_take (i := 5) (oi := ?oid14) (v := ?vd14) ?hod14 (by kernel_rfl) ?hfd14 ?hrd14 ?hQd14 ?hyd14 hHeld ?restd14
    case hod14 => (simp only [List.getElem?_toArray, List.getElem?_cons_succ, List.getElem?_cons_zero]; exact rfl)
    case hfd14 => kernel_rfl
    case hrd14 => kernel_rfl
    case hQd14 => exact fun _ _ _ h => h
    case hyd14 =>
      refine Or.inl ⟨by rfl, ?_⟩
      intro V hSV
      go_simp
      (try with_reducible rfl)
    try simp only [Act.put, List.setIfInBounds_toArray, List.set_cons_zero, List.set_cons_succ]
    refine wpAnyH_ready (rs := [6]) (by kernel_rfl) (by simp) ?_
    refine AllReadyH.cons (o := ?od15) ?hod15 (fun K hK => ?kd15) ?md15
    case hod15 => (simp only [List.getElem?_toArray, List.getElem?_cons_succ, List.getElem?_cons_zero]; exact rfl)
    case kd15 =>
      go_simp
      have hrd5 := HRD.out _ hHeld
      refine (rClone_any A c k _ hrd5 hnc h1 h6).mono ?_
      rintro e W6 ⟨A6, c6, rfl, hc6, hrd6, hA6, hb6⟩
      have ht6 : Turn (fun x => x = b) w W6 := hHeld.trans (Turn.ofBelow hb6)
      have hs6 := hHeld.size
      have hs7 := hb6.size
      obtain ⟨w9, hrun, hm9, ht9⟩ := putR W6 b O1 (fun x => O1 x ∨ (w.heap.size ≤ x ∧ x < W6.heap.size)) KK u k A6 c6 (HMK.out W6 (Below.trans HBZ.out (hb6.mono HBZ.out.size))) hr hl hf hc6 hrd6 (fun x hx => ⟨.inr ⟨Nat.le_trans hs6 (hA6 x hx).1, (hA6 x hx).2⟩, fun e => by have := (hA6 x hx).1; omega⟩) (fun x hx => .inl hx) (fun x hx => by have := HOL.out x hx; omega) (fun x hx => (hA6 x hx).2)
      (try dsimp only)
      refine hK.out _ _ ?_ (fun hHeld => ?_)
      · exact ht6
      clear hK K
      try simp only [Act.put, List.setIfInBounds_toArray, List.set_cons_zero, List.set_cons_succ]
      refine wpAnyH_ready (rs := [7]) (by kernel_rfl) (by simp) ?_
      refine AllReadyH.cons (o := ?od16) ?hod16 (fun K hK => ?kd16) ?md16
      case hod16 => (simp only [List.getElem?_toArray, List.getElem?_cons_succ, List.getElem?_cons_zero]; exact rfl)
      case kd16 =>
        go_simp
        refine hK.out _ _ ?_ (fun hHeld => ?_)
        · exact ht6.trans ht9
        clear hK K
        try simp only [Act.put, List.setIfInBounds_toArray, List.set_cons_zero, List.set_cons_succ]
        refine wpAnyH_done (by kernel_rfl) ?_ _
        repeat (first | go_skip | go_guarded | go_step)
        go_end0
        have hs9 := ht9.size
        exact ⟨rfl, b, _, (ht6.trans ht9).bk HBK.out hab, .inl (by rw [HO1.out]; exact hOb), hm9, HFIN.out _ _ (by omega) hs9, (ht6.trans ht9).mono fun x _ e => .inr (by rw [e]; exact hOb)⟩
      exact AllReadyH.nil
    exact AllReadyH.nil
end Go.Proofs.Ytedgigoelhcfnaa
