/- Texts, packed: SrL SrS -/
import Derived.Test.YtfmghkplafploaaPwZF
import Derived.Test.YtfmghkplafploaaPwZG
import Derived.Test.YtfmghkplafploaaPwZI
set_option linter.unusedVariables false
set_option linter.unusedSimpArgs false
namespace Go.Proofs.Ytfmghkplafploaa
open Go Go.RowKit

theorem made2 (a b : Value) (n : Nat) : (madeCells #[a, b] (n * 2)).toList = (List.replicate n [a, b]).flatten := by
  induction n with
  | zero => simp [madeCells]
  | succ n ih =>
    have e0 : (n * 2) % 2 = 0 := by omega
    have e1 : (n * 2 + 1) % 2 = 1 := by omega
    unfold madeCells at ih ⊢
    rw [Array.toList_map, Array.toList_range] at ih ⊢
    rw [show (n + 1) * 2 = n * 2 + 1 + 1 by omega, List.range_succ, List.range_succ, List.map_append, List.map_append, ih, List.replicate_succ', List.flatten_append, List.append_assoc]
    congr 1
    simp [e0, e1]
theorem lvC_zeros (n : Nat) : (List.replicate n ((0, 0) : Lv)).flatMap lvC = (List.replicate n [nv 0, .int .i64 0]).flatten := by
  rw [List.flatMap_def, List.map_replicate]
  rfl
theorem wpList_makeV {ops : Array Oper} {rest : List Oper} {o : Oper} {a : Act} {Q : Exit → Act → World → Prop} (w : World)
    (hg : o.guard = none) (l c : Operand) (hop : o.op = Op.makeSlice 34 l c) (n : Nat) (hl : a.eval l = .int .i64 (n : Int)) (hc : a.eval c = .int .i64 (n : Int)) (hn : n ≤ 1000000000)
    (hK : ∀ w', OwV w' w.heap.size (some ⟨w.heap.size, 0, none⟩) n n (List.replicate n (0, 0)) → Below w.heap.size w w' → wpList Try.prog ops Q rest (a.put o.dst (.slice (some ⟨w.heap.size, 0, none⟩) n n)) w') :
    wpList Try.prog ops Q (o :: rest) a w := by
  obtain ⟨i, hi, hz0, hz1, hz2⟩ := info_parts lvInfo
  refine wpList_plain hg fun K hK' => ?_
  have hr := run_make (P := Try.prog) w 34 42 i _ Try.underlying34 hi hz0 .i64 .i64 n n (by omega) (by omega) (by rw [hz2]; omega) (by omega)
  rw [hz1, Int.toNat_natCast, show (Value.agg #[.int .u32 0, .int .i64 0]).cells = #[.int .u32 0, .int .i64 0] from rfl] at hr
  have hcs : madeCells #[(.int .u32 0 : Value), .int .i64 0] (n * 2) = ((List.replicate n ((0, 0) : Lv)).flatMap lvC).toArray := by
    apply Array.ext'
    rw [made2, lvC_zeros]
    rfl
  rw [hcs] at hr
  unfold Oper.wp
  simp [execOp, hop, hl, hc, hr, Result.andThen]
  refine hK' _ _ (hK _ (OwV.ofBlock (rest := []) (Nat.le_refl _) (by simp) (by simp) (Nat.le_refl _) (by simp only [maxLen]; omega) ?_) ((Below.refl _ _).alloc (Nat.le_refl _) _))
  rw [List.append_nil]
  exact Bk.new w _ _
theorem part_facts {n : Nat} {E : List (Nat × Nat)} {L : List (List Nat)} (hE : In n E) (ho : Order n E [] L) (hn : n ≤ 3600) :
    ∀ j p, L[j]? = some p → p.length ≤ 4096 ∧ (∀ v ∈ p, v < n) ∧ ∀ v, v < n → (v ∈ p ↔ ofQ L v = j) := by
  intro j p hp
  have hI := ho.isParts hE
  refine ⟨?_, fun v hv => (hI.of_eq hp hv).1, fun v hv => ⟨fun h => (hI.of_eq hp h).2, fun h => ?_⟩⟩
  · obtain ⟨v, hv, rfl⟩ := hI.cls p (List.mem_of_getElem? hp)
    have : (part n E v).length ≤ n := by
      refine Nat.le_trans (List.length_filter_le _ _) ?_
      rw [List.length_range]
      exact Nat.le_refl _
    omega
  · obtain ⟨q, h1, h2⟩ := hI.of_mem hv
    rw [h, hp] at h1
    cases h1
    exact h2
set_option maxRecDepth 100000 in
set_option maxHeartbeats 8000000 in
theorem levels_any (A : Option Addr) (n c : Nat) (Q : List ClA) (C : List Cl) (w : World) (h : RdCs w w.heap.size A n Q C) (hS : Slim C) :
    Calls Try.prog 6 #[.slice A n c] w fun e w' => ∃ (er : Nat) (A' : Option Addr) (c' : Nat) (L : List Lv), e = .returned (.tuple #[.slice A' L.length c', .int .i64 (er : Int)]) ∧ LevTold C er L ∧ RdV w' w'.heap.size A' L.length L ∧ Below w.heap.size w w' := by
  have hright := right_any A n c Q C w h hS
  obtain ⟨r1, hr1⟩ : ∃ r1 : Int, r1 = ((rightM C).1 : Int) := ⟨_, rfl⟩
  obtain ⟨r2, hr2⟩ : ∃ r2 : Nat, r2 = (rightM C).2 := ⟨_, rfl⟩
  rw [← hr1, ← hr2] at hright
  have HC := Lib.hid h
  have HR2 := Lib.hid hr2
  clear h hS hr1 hr2
  by_cases h0 : r2 = 0
  · have HZ := Lib.hid (show (rightM C).2 = 0 by have := HR2.out; omega)
    have HF := Lib.hid (few_of_right HZ.out)
    have hne : ((r2 : Int) != 0) = false := by simp; omega
    clear h0
    go_enter Try.func6, Try.ntmps6
    repeat (first | go_skip | go_guarded | go_step)
    refine hright.mono ?_
    rintro e w1 ⟨rfl, hb1⟩
    have HB1 := Lib.hid hb1
    have hpr := predicates_any A n c Q C w1 ((HC.out.below hb1).more hb1.size) HF.out
    clear hright hb1
    dsimp only
    repeat (first | go_skip | go_guarded | go_step)
    refine hpr.mono ?_
    rintro e w2 ⟨Ap, cp, ps, rfl, hpl, hsort, hmem, hrp, hb2⟩
    have HB2 := Lib.hid (HB1.out.trans (hb2.mono HB1.out.size))
    obtain ⟨k, hk⟩ : ∃ k, k = ps.length := ⟨_, rfl⟩
    rw [← hk] at hpl hrp ⊢
    have HPL := Lib.hid hk.symm
    have HSO := Lib.hid hsort
    have HME := Lib.hid hmem
    have HRP := Lib.hid hrp
    have hha := hanging_any Ap k cp ps A n c Q C w2 hrp hsort hpl (fun p hp => (hmem p).2 hp) ((HC.out.below HB2.out).more HB2.out.size) HF.out
    have HPE := Lib.hid (show ∀ e ∈ edL C, e.1 ∈ ps ∧ e.2.1 ∈ ps from fun e he => ⟨(hmem _).2 (edge_head he), (hmem _).2 (edge_body he)⟩)
    have HEL := Lib.hid (show (edL C).length ≤ 3200 by
      have h1 := edL_few HF.out C.length
      rw [List.take_of_length_le (Nat.le_refl _)] at h1
      have := HF.out.1
      omega)
    clear hpr hrp hb2 hk hsort hmem
    dsimp only
    repeat (first | go_skip | go_guarded | go_step)
    refine hha.mono ?_
    rintro e w3 ⟨Ah, chh, R, rfl, hrh, hb3⟩
    have HB3 := Lib.hid (HB2.out.trans (hb3.mono HB2.out.size))
    have HRP3 := Lib.hid (Rd.more (Rd.below HRP.out hb3) hb3.size)
    have HRH := Lib.hid hrh
    obtain ⟨D, hD⟩ : ∃ D, D = hgM ps (edL C) := ⟨_, rfl⟩
    rw [← hD] at HRH hrh
    have HDD := Lib.hid hD
    obtain ⟨EG, hEG⟩ : ∃ EG, EG = egM D k := ⟨_, rfl⟩
    have HEG := Lib.hid hEG
    have hegl : EG.length ≤ 16384 := by
      rw [hEG, hD]
      have := egM_len ps (edL C) k
      have := HEL.out
      omega
    have hed := edges_any Ah k chh R D w3 hrh hpl (by rw [← hEG]; exact hegl)
    rw [← hEG] at hed
    have HIN := Lib.hid (show In k EG by
      intro x hx
      rw [hEG, hD, ← HPL.out] at hx
      have := edN_in HPE.out x ((egM_edN HPE.out x).1 hx)
      rwa [HPL.out] at this)
    clear hha hrh hb3 hD hEG
    dsimp only
    repeat (first | go_skip | go_guarded | go_step)
    refine hed.mono ?_
    rintro e w4 ⟨Ae, ce, rfl, hre, hb4⟩
    have HB4 := Lib.hid (HB3.out.trans (hb4.mono HB3.out.size))
    have HRP4 := Lib.hid (Rd.more (Rd.below HRP3.out hb4) hb4.size)
    have HRH4 := Lib.hid ((HRH.out.below hb4).more hb4.size)
    have hpa := parts_fresh k EG Ae EG.length ce w4 hre (by omega) HIN.out hegl
    clear hed hre hb4
    dsimp only
    repeat (first | go_skip | go_guarded | go_step)
    refine hpa.mono ?_
    rintro e w5 ⟨Aq, cq, L, Rp, rfl, hrq, hord, hll, hb5, _, _⟩
    have HB5 := Lib.hid (HB4.out.trans (hb5.mono HB4.out.size))
    have HRP5 := Lib.hid (Rd.more (Rd.below HRP4.out hb5) hb5.size)
    have HRH5 := Lib.hid ((HRH4.out.below hb5).more hb5.size)
    have HNP := Lib.hid (sorted_nodup HSO.out)
    have HORD := Lib.hid (show Order ps.length (edN ps (edL C)) [] L by
      rw [HPL.out]
      exact Order.congr (fun u v _ => com_same (fun x => by rw [HEG.out, HDD.out, ← HPL.out]; exact egM_edN HPE.out x) u v) hord)
    have hcl := climb_any Aq cq L Rp Ah k chh R D (ofQ L) w5 hrq hll HRH5.out hpl (part_facts HIN.out hord hpl) (fun u hu => by
      rw [HDD.out]
      refine ⟨by have := hgM_len ps (edL C) u; have := HEL.out; omega, fun x hx => ?_⟩
      obtain ⟨e, he, h1, h2⟩ := hgM_mem.1 hx
      subst h1 h2
      exact ⟨by have := ixU_lt (HPE.out e he).2; rwa [HPL.out] at this, edge_le HPE.out HORD.out e he⟩)
    clear hpa hrq hord hb5
    dsimp only
    repeat (first | go_skip | go_guarded | go_step)
    refine hcl.mono ?_
    rintro e w6 ⟨er, A', m', c', rfl, hb6, hcase⟩
    have HB6 := Lib.hid (HB5.out.trans (hb6.mono HB5.out.size))
    have HRP6 := Lib.hid (Rd.more (Rd.below HRP5.out hb6) hb6.size)
    clear hcl hb6
    dsimp only
    rcases hcase with ⟨rfl, u, hu, x, hx, h1, h2⟩ | ⟨rfl, hmk, lev, X, hgood, hlvs, hrx⟩
    · have HNO := Lib.hid (show ¬ ∃ f, Valid (edL C) f by
        rw [HDD.out] at hx
        obtain ⟨e, he, g1, g2⟩ := hgM_mem.1 hx
        subst g1 g2
        exact none_told HNP.out HPE.out HORD.out he h1.symm h2)
      clear hx h1 h2
      try rw [show (((11 : Nat)) : Int) = (11 : Int) from rfl]
      repeat (first | go_skip | go_guarded | go_step)
      go_ret2
      exact ⟨11, none, 0, [], rfl, LevTold.none HZ.out HNO.out, Rd.nil, HB6.out⟩
    · obtain rfl := hmk.symm
      obtain ⟨φ, hφ⟩ : ∃ φ : UInt32 → Lv, φ = fun p => (p, lev (cmpU ps L p)) := ⟨_, rfl⟩
      have HFI := Lib.hid hφ
      have HI := Lib.hid (HORD.out.isParts (edN_in HPE.out))
      have HVAL := Lib.hid (show ∀ i p, ps[i]? = some p → X[i]? = some (((φ p).2 : Nat) : Int) ∧ (φ p).1 = p ∧ (φ p).2 ≤ 4096 from fun i p hp => by
        have hik : i < ps.length := (List.getElem?_eq_some_iff.1 hp).1
        have hix := ixU_at HNP.out hp
        obtain ⟨q, h1, _⟩ := HI.out.of_mem hik
        have hlt := (List.getElem?_eq_some_iff.1 h1).1
        have h2 := hlvs.2 i (by rw [← HPL.out]; exact hik)
        rw [if_pos hlt] at h2
        have h3 := hgood.le _ hlt
        rw [hφ]
        unfold cmpU
        dsimp only
        rw [hix]
        exact ⟨h2, rfl, by omega⟩)
      have HTOLD := Lib.hid (show LevTold C 0 (ps.map φ) by
        have hmap : (ps.map φ).map (·.1) = ps := by
          rw [List.map_map, hφ]
          exact List.map_id _
        refine LevTold.some HZ.out (good_least HNP.out HPE.out HORD.out (by rw [← HDD.out]; exact hgood)) (by rw [hmap]; exact HSO.out) (fun p => by rw [hmap]; exact HME.out p) (fun x hx => ?_)
        obtain ⟨p, hp, rfl⟩ := List.mem_map.1 hx
        rw [hφ]
        dsimp only
        rw [if_pos hp])
      have HRX := Lib.hid hrx
      clear hφ hgood hlvs hrx
      try rw [show (((0 : Nat)) : Int) = (0 : Int) from rfl]
      repeat (first
        | (at_make; refine wpList_makeV _ rfl (.tmp 48) (.tmp 48) rfl k rfl rfl (by omega) ?_
           intro W7 how7 hbw7
           obtain ⟨g2, hg2⟩ : ∃ g2, g2 = w6.heap.size := ⟨_, rfl⟩
           rw [← hg2] at how7 ⊢
           have HO7 := Lib.hid (how7.mono (base' := w6.heap.size) (Nat.le_of_eq hg2.symm))
           have HB7 := Lib.hid hbw7
           clear how7 hbw7 hg2)
        | go_skip | go_guarded | go_step)
      go_loopw [52] (fun q wr => ∃ i : Nat, i ≤ k ∧ q = .int .i64 (i : Int) ∧ OwV wr w6.heap.size (some ⟨g2, 0, none⟩) k k ((ps.take i).map φ ++ List.replicate (k - i) (0, 0)) ∧ Below w6.heap.size w6 wr) (fun q _ => k - (intOf q).toNat)
      case atStart => exact ⟨0, by omega, rfl, HO7.out, HB7.out⟩
      case round =>
        rename World => wr
        obtain ⟨i, hi, rfl, how, hbr⟩ := hrel
        have HOW := Lib.hid how
        have HBR := Lib.hid hbr
        clear how hbr
        by_cases hlt : i < k
        · have hci : (i : Int) < (k : Int) := by omega
          have hi0 : (0 : Int) ≤ (i : Int) := by omega
          obtain ⟨b, o, p, hA, hb, hp, c0⟩ := rdU_at1 (Rd.below HRP6.out HBR.out) hlt
          obtain ⟨hxv, hf1, hf2⟩ := HVAL.out i p hp
          obtain ⟨b7, o7, x7, hA7, hb7, hx7, c1⟩ := Rd.at1 (Rd.below HRX.out HBR.out) hlt
          rw [List.getElem?_map, hxv] at hx7
          obtain rfl := Option.some.inj hx7
          obtain ⟨v, hv⟩ : ∃ v, v = (φ p).2 := ⟨_, rfl⟩
          rw [← hv] at c1 hf2
          have HFP := Lib.hid (show φ p = (p, v) from Prod.ext hf1 hv.symm)
          have HP := Lib.hid hp
          obtain ⟨gb, x0, hA5, hgb, hgl, hs0, hs1, hsf0, hsf1, hset, hT⟩ := HOW.out.set2 (i := i) hlt (p, v)
          cases hA5
          dsimp only at hset hT
          have HSET := Lib.hid hset
          have HBS := Lib.hid (HBR.out.trans (hT.below (B := w6.heap.size) (fun y _ e => by rw [e]; exact hgb) HBR.out.size))
          subst hA hA7
          clear hp hxv hx7 hf1 hv hb hb7 hset hT hgl hgb
          repeat (first | go_skip | go_guarded | go_step)
          go_roundw
          case rel => exact ⟨i + 1, by omega, by go_num, by
            have h := HSET.out
            rw [List.set_append_right _ _ (by rw [List.length_map, List.length_take]; omega), List.length_map, List.length_take, HPL.out, Nat.min_eq_left hi, Nat.sub_self, show k - i = (k - (i + 1)) + 1 by omega, List.replicate_succ, List.set_cons_zero] at h
            rw [List.take_add_one, HP.out, List.map_append]
            simp only [Option.toList_some, List.map_cons, List.map_nil, HFP.out]
            rw [List.append_assoc]
            exact h, HBS.out⟩
          case measure => simp [intOf]; omega
        · obtain rfl : k = i := by omega
          have hci : ¬ (k : Int) < (k : Int) := by omega
          repeat (first | go_skip | go_guarded | go_step)
          go_ret2
          have hl : (ps.map φ).length = k := by rw [List.length_map]; exact HPL.out
          exact ⟨0, some ⟨g2, 0, none⟩, k, ps.map φ, by rw [hl]; rfl, HTOLD.out, by
            rw [hl]
            have h := HOW.out.rd
            rwa [List.take_of_length_le (by rw [HPL.out]; exact Nat.le_refl _), Nat.sub_self, List.replicate_zero, List.append_nil] at h, HB6.out.trans (HBR.out.mono HB6.out.size)⟩
  · have hne : ((r2 : Int) != 0) = true := by simp; omega
    have HW := Lib.hid (show LevTold C r2 [] by
      rw [HR2.out]
      exact LevTold.wrong (by have := HR2.out; omega))
    clear h0
    go_enter Try.func6, Try.ntmps6
    repeat (first | go_skip | go_guarded | go_step)
    refine hright.mono ?_
    rintro e w1 ⟨rfl, hb1⟩
    dsimp only
    repeat (first | go_skip | go_guarded | go_step)
    go_ret2
    exact ⟨r2, none, 0, [], rfl, HW.out, Rd.nil, hb1⟩
end Go.Proofs.Ytfmghkplafploaa

set_option linter.unusedVariables false
set_option linter.unusedSimpArgs false
namespace Go.Proofs.Ytfmghkplafploaa
open Go Go.RowKit Go.Maps

/-- 'm[p] = n', of a new predicate. -/
theorem putM_new {ops : Array Oper} {rest : List Oper} {o : Oper} {a : Act} {Q : Exit → Act → World → Prop} (w : World) (hg : o.guard = none) (m x v : Operand) (hop : o.op = Op.mapUpdate 62 m x v)
    (b M n : Nat) (f : LenF) (p : UInt32) (hm : a.eval m = .map (some b)) (hx : a.eval x = nv p) (hv : a.eval v = .int .i64 (n : Int)) (h : MapL w b M f) (hM : M ≤ 1000000000000000) (hn : n ≤ 1000000000)
    (hK : ∀ w', MapL w' b (M + 1) (fun q => if q = p then some n else f q) → w.grownBy w' (some b) → wpList Try.prog ops Q rest (a.put o.dst undef) w') : wpList Try.prog ops Q (o :: rest) a w := by
  obtain ⟨mm, D, hmm, h1, h2⟩ := h
  have hwf : (Lit.int .i64 (n : Int)).wf = true := by
    have e1 : IntKind.i64.min = -9223372036854775808 := rfl
    have e2 : IntKind.i64.max = 9223372036854775807 := rfl
    simp only [Lit.wf, Bool.and_eq_true, decide_eq_true_eq]
    omega
  refine wpList_mapUpdate_own w hg m x v _ hop 25 3 keyU_law Try.underlying62 (plainElem Try.prog 3) b _ D hm h1 (by simp only [maxLen]; omega) (nv p) _ (keyU p) hx hv (keyU_of p) (.lit (.int .i64 (n : Int))) [] (plainElem_int Try.underlying3 hwf) ?_
  intro w' h3 h4
  refine hK w' ⟨mm + 1, _, by omega, h3, fun q => ?_⟩ h4
  dsimp only
  by_cases hq : q = p
  · subst hq
    rw [if_pos rfl]
    refine ⟨has_put_same (World.ownsMap.isMap h1) (by trivial) _, fun k hk z => ?_⟩
    simp only [Option.some.injEq] at hk
    subst hk
    exact atKey_put_same (World.ownsMap.isMap h1) (by trivial) _ z
  · have hne : keyU q ≠ keyU p := fun e => hq (keyU_inj e)
    rw [if_neg hq]
    refine ⟨by rw [has_put_other hne]; exact (h2 q).1, fun k hk z => ?_⟩
    rw [atKey_put_other hne]
    exact (h2 q).2 k hk z
/-- 'm[p]', of a predicate that is there. -/
theorem lookM_is {ops : Array Oper} {rest : List Oper} {o : Oper} {a : Act} {Q : Exit → Act → World → Prop} (w : World) (hg : o.guard = none) (m x : Operand) (hop : o.op = Op.lookup 62 m x false)
    (b M : Nat) (f : LenF) (p : UInt32) (k : Nat) (hm : a.eval m = .map (some b)) (hx : a.eval x = nv p) (h : MapL w b M f) (hf : f p = some k)
    (hK : wpList Try.prog ops Q rest (a.put o.dst (.int .i64 (k : Int))) w) : wpList Try.prog ops Q (o :: rest) a w := by
  obtain ⟨_, D, _, h1, h2⟩ := h
  refine wpList_lookup_own_int w hg m x _ hop 25 3 .i64 keyU_law Try.underlying62 Try.underlying3 (zero_i64 w) b _ D hm h1 (nv p) (keyU p) hx (keyU_of p) ?_
  intro c hc _
  rw [(h2 p).2 k hf] at hc
  simp only [DataW.lit.injEq, Lit.int.injEq, true_and] at hc
  subst hc
  exact hK
theorem lvO_take {L : List Lv} (hn : (L.map (·.1)).Nodup) {i : Nat} {x : Lv} (hx : L[i]? = some x) : (fun q => if q = x.1 then some x.2 else lvO (L.take i) q) = lvO (L.take (i + 1)) := by
  funext q
  have htk : L.take (i + 1) = L.take i ++ [x] := by rw [List.take_add_one, hx]; rfl
  have hno : x.1 ∉ (L.take i).map (·.1) := fun h => by
    have h1 : ((L.take (i + 1)).map (·.1)).Nodup := List.Nodup.sublist ((List.take_sublist _ _).map _) hn
    rw [htk, List.map_append] at h1
    have := (List.nodup_append.1 h1).2.2 _ h x.1 (by simp)
    exact this rfl
  rw [htk]
  unfold lvO
  rw [List.find?_append]
  by_cases h : q = x.1
  · subst h
    rw [if_pos rfl, show (L.take i).find? (fun y => y.1 == x.1) = none from List.find?_eq_none.2 fun y hy e => by
      rw [beq_iff_eq] at e
      exact hno (e ▸ List.mem_map.2 ⟨y, hy, rfl⟩)]
    simp
  · rw [if_neg h]
    have : [x].find? (fun y => y.1 == q) = none := by
      rw [List.find?_eq_none]
      intro y hy e
      rw [beq_iff_eq] at e
      rw [List.mem_singleton.1 hy] at e
      exact h e.symm
    rw [this, Option.or_none]
theorem rowM_out {l : List Nat} {k : Nat} (h : topM l ≤ k) : rowM l k = [] := by
  refine List.eq_nil_iff_forall_not_mem.2 fun i hi => ?_
  have := topM_lt l (List.mem_of_getElem? (rowM_mem.1 hi))
  omega
def sliLen (q : Value) : Nat := match q with | .slice _ n _ => n | _ => 0
abbrev SN (w : World) (base : Nat) (A : Option Addr) (c n : Nat) (R : Nat → SlA) (l : List Nat) : Prop := SG 3 43 1 w base A c n R (fun j => (rowM l j).map nj)
theorem SN.snoc {w : World} {base c n v i : Nat} {A : Option Addr} {R : Nat → SlA} {l : List Nat} (hi : l.length = i) {D : Nat → List Value} (hD : D = fun j => if j = v then (rowM l v).map nj ++ [nj i] else (rowM l j).map nj)
    (h : SG 3 43 1 w base A c n R D) : SN w base A c n R (l ++ [v]) := by
  have : D = fun j => (rowM (l ++ [v]) j).map nj := by
    rw [hD]
    funext j
    rw [rowM_snoc]
    by_cases q : j = v
    · rw [if_pos q, if_pos q.symm, List.map_append, q, hi]; rfl
    · rw [if_neg q, if_neg (fun k => q k.symm), List.append_nil]
  rw [this] at h
  exact h
theorem rdS_of {w : World} {B T : Nat} {A : Option Addr} {R : Nat → SlA} {l : List Nat} (h : RdG 1 w B A T R (fun j => (rowM l j).map nj)) : RdS w B A T ((List.range T).map R) ((List.range T).map (rowM l)) := by
  refine ⟨by simp, by simp, ?_, fun i r s h1 h2 => ?_⟩
  · have := h.top
    unfold rowsC at this
    rw [List.map_map]
    exact this
  · rw [List.getElem?_map] at h1 h2
    obtain ⟨k, hk, rfl⟩ := Option.map_eq_some_iff.1 h1
    rw [hk] at h2
    simp only [Option.map_some, Option.some.injEq] at h2
    subst h2
    exact h.row k (List.mem_range.1 (List.mem_of_getElem? hk))
set_option maxRecDepth 100000 in
set_option maxHeartbeats 16000000 in
theorem strata_any (A : Option Addr) (n c : Nat) (Q : List ClA) (C : List Cl) (w : World) (h : RdCs w w.heap.size A n Q C) (hS : Slim C) :
    Calls Try.prog 7 #[.slice A n c] w fun e w' => ∃ (er : Nat) (A' : Option Addr) (c' : Nat) (S : List (List Nat)) (R : List SlA), e = .returned (.tuple #[.slice A' S.length c', .int .i64 (er : Int)]) ∧ StrTold C er S ∧ RdS w' w'.heap.size A' S.length R S ∧ Below w.heap.size w w' := by
  have hlev := levels_any A n c Q C w h hS
  have HC := Lib.hid h
  clear h hS
  have hmm := @run_makeMap Try.prog
  go_enter Try.func7, Try.ntmps7
  repeat (first | go_skip | go_guarded | go_step)
  refine hlev.mono ?_
  rintro e w1 ⟨er, Al, cl, L, rfl, htold, hol, hb1⟩
  have HB1 := Lib.hid hb1
  clear hlev hb1
  dsimp only
  by_cases he : er = 0
  · subst he
    have hcase : ∀ e, LevTold C e L → e = 0 → ∃ f, (rightM C).2 = 0 ∧ Least (edL C) f ∧ (L.map (·.1)).Pairwise (· < ·) ∧ (∀ p, p ∈ L.map (·.1) ↔ p ∈ prL C) ∧ ∀ x ∈ L, x.2 = f x.1 := fun e h he => by
      cases h with
      | wrong q => exact absurd he q
      | none _ _ => cases he
      | some a b c d e => exact ⟨_, a, b, c, d, e⟩
    obtain ⟨f, hz, hls, hsort, hmem, hval⟩ := hcase 0 htold rfl
    have hfew := few_of_right hz
    have hn : n ≤ 400 := by rw [← HC.out.lenC]; exact hfew.1
    have hll : L.length ≤ 3600 := by
      have h1 := htold.len
      have h2 := prL_few hfew C.length
      rw [List.take_of_length_le (Nat.le_refl _)] at h2
      have := hfew.1
      omega
    obtain ⟨m, hm⟩ : ∃ m, m = L.length := ⟨_, rfl⟩
    have hof : ∀ p ∈ prL C, lvO L p = some (f p) ∧ f p < m := fun p hp => by
      have h1 := (hmem p).2 hp
      have h3 := lvN_mem h1
      have h2 := hval _ h3
      dsimp only at h2
      have h4 := lvO_of (sorted_nodup hsort) h3
      dsimp only at h4
      refine ⟨by rw [h4, h2], ?_⟩
      have := hls.lt (P := L.map (·.1)) (fun e he => (hmem _).2 (edge_body he)) h1
      rwa [List.length_map, ← hm] at this
    have HLB := Lib.hid (show ∀ x ∈ L, x.2 ≤ 1000000 from fun x hx => by
      have h1 := (hof x.1 ((hmem _).1 (List.mem_map.2 ⟨x, hx, rfl⟩))).2
      rw [hval x hx]
      omega)
    rw [← hm] at hol hll ⊢
    have HM := Lib.hid hm
    have HOF := Lib.hid hof
    have HOL := Lib.hid hol
    have HZ := Lib.hid hz
    have HLS := Lib.hid hls
    have HND := Lib.hid (sorted_nodup hsort)
    clear htold hcase hsort hmem hval hm hof hol hz hls hfew
    obtain ⟨W0, hW0, hm0, hb0⟩ : ∃ W0, W0 = w1.alloc (.map #[] 0) ∧ MapL W0 w1.heap.size 0 (fun _ => none) ∧ Below w1.heap.size w1 W0 := ⟨_, rfl, MapL.made w1, (Below.refl _ _).alloc (Nat.le_refl _) _⟩
    have HW0 := Lib.hid hW0
    have HM0 := Lib.hid hm0
    have HB0 := Lib.hid hb0
    obtain ⟨gm, hgm⟩ : ∃ gm, gm = w1.heap.size := ⟨_, rfl⟩
    have HGM := Lib.hid hgm
    clear hW0 hm0 hb0 hgm
    try rw [show (((0 : Nat)) : Int) = (0 : Int) from rfl]
    go_upto_region 5 with (fail)
    rw [← HW0.out]
    clear hmm
    try rw [← HGM.out]
    repeat (first | go_skip | go_guarded | go_step)
    go_loopw [24] (fun q wr => ∃ i : Nat, i ≤ m ∧ q = .int .i64 (i : Int) ∧ MapL wr gm i (lvO (L.take i)) ∧ Below w1.heap.size w1 wr) (fun q _ => m - (intOf q).toNat)
    case atStart => exact ⟨0, by omega, rfl, by rw [HGM.out]; exact HM0.out, HB0.out⟩
    case round =>
      rename World => wr
      obtain ⟨i, hi, rfl, hml, hbr⟩ := hrel
      have HML := Lib.hid hml
      have HBR := Lib.hid hbr
      clear hml hbr
      by_cases hlt : i < m
      · have hci : (i : Int) < (m : Int) := by omega
        obtain ⟨b, o, x, hA, hb, hx, hc0, hc1⟩ := rdV_at (HOL.out.below HBR.out) hlt
        obtain ⟨p, v⟩ := x
        dsimp only at hc0 hc1
        have hvb : v ≤ 1000000 := HLB.out _ (List.mem_of_getElem? hx)
        have HTK := Lib.hid (lvO_take HND.out hx)
        obtain ⟨U, hU, hbU, hbu⟩ := box2 wr (nv p) (.int .i64 (v : Int)) 42
        have HU := Lib.hid hU
        have HMU := Lib.hid (HML.out.below hbu)
        have HBU := Lib.hid (HBR.out.trans (hbu.mono HBR.out.size))
        have k0 := hbU.read (Below.refl _ _) 0 rfl
        have k1 := hbU.read (Below.refl _ _) 1 rfl
        subst hA
        clear hx hb hU hbU hbu
        go_upto_region 8 with (fail)
        rw [← HU.out]
        clear hc0 hc1
        repeat (first
          | (at_mapUpdate; refine putM_new _ rfl _ _ _ rfl gm i v (lvO (L.take i)) p rfl rfl rfl HMU.out (by omega) (by omega) ?_
             intro w3 hm3 hg3
             have HM3 := Lib.hid hm3
             have HB3 := Lib.hid (HBU.out.trans ((Turn.ofGrown (G := fun k => k = gm) hg3 (fun k e => (Option.some.inj e).symm)).below (B := w1.heap.size) (fun y _ e => by rw [e, HGM.out]; exact Nat.le_refl _) HBU.out.size))
             clear hm3 hg3)
          | go_skip | go_guarded | go_step)
        go_roundw
        case rel => exact ⟨i + 1, by omega, by go_num, by
          have h := HM3.out
          have e := HTK.out
          dsimp only at e
          rwa [e] at h, HB3.out⟩
        case measure => simp [intOf]; omega
      · obtain rfl : m = i := by omega
        have hci : ¬ (m : Int) < (m : Int) := by omega
        have HMF := Lib.hid (show MapL wr gm m (lvO L) by
          have h := HML.out
          rwa [List.take_of_length_le (by rw [← HM.out]; exact Nat.le_refl _)] at h)
        have HGL := Lib.hid (show gm < wr.heap.size from HML.out.lt)
        repeat (first | go_skip | go_guarded | go_step)
        go_loopw [9, 36] (fun lv q wz => ∃ (i : Nat) (R : Nat → SlA) (At : Option Addr) (ct : Nat), i ≤ n ∧ lv = .slice At (topM (headsM f (C.take i))) ct ∧ q = .int .i64 (i : Int) ∧ SN wz wr.heap.size At ct (topM (headsM f (C.take i))) R (headsM f (C.take i)) ∧ Below wr.heap.size wr wz) (fun _ q _ => n - (intOf q).toNat)
        case atStart => exact ⟨0, fun _ => (none, 0, 0), none, 0, by omega, rfl, rfl, SG.begun _ _, Below.refl _ _⟩
        case round =>
          rename World => wz
          obtain ⟨i, R, At, ct, hi, rfl, rfl, hsn, hbz⟩ := hrel
          obtain ⟨l, hl⟩ : ∃ l, l = headsM f (C.take i) := ⟨_, rfl⟩
          rw [← hl] at hsn ⊢
          obtain ⟨T, hT⟩ : ∃ T, T = topM l := ⟨_, rfl⟩
          rw [← hT] at hsn ⊢
          have HL := Lib.hid hl
          have HT := Lib.hid hT
          have HSN := Lib.hid hsn
          have HBZ := Lib.hid hbz
          clear hl hT hsn hbz
          have hTm : T ≤ m := by
            rw [HT.out, HL.out]
            refine topM_le fun v hv => ?_
            obtain ⟨x, hx, rfl⟩ := List.mem_map.1 hv
            exact (HOF.out _ (List.mem_flatMap.2 ⟨x, List.mem_of_mem_take hx, by unfold prC; simp⟩)).2
          by_cases hlti : i < n
          · have hii : (i : Int) < (n : Int) := by omega
            have HBW := Lib.hid (HB1.out.trans ((HBR.out.trans (HBZ.out.mono HBR.out.size)).mono HB1.out.size))
            obtain ⟨b, o, p, la, L', A0, n0, c0, A1, n1, c1, R', hA, hb, hx, hq, hd0, hd1, hd2, hrt, hrl⟩ := (HC.out.below HBW.out).at_ hlti
            obtain ⟨v, hv⟩ : ∃ v, v = f p := ⟨_, rfl⟩
            obtain ⟨ho1, ho2⟩ := HOF.out p (List.mem_flatMap.2 ⟨_, List.mem_of_getElem? hx, by unfold prC; simp⟩)
            rw [← hv] at ho1 ho2
            have HO1 := Lib.hid ho1
            have HST := Lib.hid (show headsM f (C.take (i + 1)) = l ++ [v] by rw [HL.out, heads_step f hx, hv])
            have HLN := Lib.hid (show l.length = i by rw [HL.out]; unfold headsM; rw [List.length_map, List.length_take, HC.out.lenC]; omega)
            obtain ⟨U, hU, hbU, hbu⟩ := box3 wz p (.slice A0 n0 c0) (.slice A1 n1 c1) 31
            have HU := Lib.hid hU
            have HSU := Lib.hid (HSN.out.later hbu)
            have HBU := Lib.hid (HBZ.out.trans (hbu.mono HBZ.out.size))
            have HMU := Lib.hid (HMF.out.below (HBU.out))
            have k0 := hbU.read (Below.refl _ _) 0 rfl
            subst hA
            clear hx hq hrt hrl hb hv ho1 hU hbU hbu
            go_upto_region 14 with (fail)
            rw [← HU.out]
            clear hd0 hd1 hd2
            repeat (first
              | (at_lookup; refine lookM_is _ rfl _ _ rfl gm m (lvO L) p v rfl rfl HMU.out HO1.out ?_)
              | go_skip | go_guarded | go_step)
            clear k0
            go_loopw [9] (fun lv wy => ∃ (T' : Nat) (R : Nat → SlA) (At : Option Addr) (ct : Nat), lv = .slice At T' ct ∧ T ≤ T' ∧ T' ≤ max T (v + 1) ∧ SN wy wr.heap.size At ct T' R l ∧ Below wr.heap.size wr wy) (fun lv _ => v + 1 - sliLen lv)
            case atStart => exact ⟨T, R, At, ct, rfl, Nat.le_refl _, by omega, HSU.out, HBU.out⟩
            case round =>
              rename World => wy
              obtain ⟨T', R2, At2, ct2, rfl, hT1, hT2, hsn2, hby⟩ := hrel
              have HSY := Lib.hid hsn2
              have HBY := Lib.hid hby
              clear hsn2 hby
              by_cases hle : T' ≤ v
              · have hlei : (T' : Int) ≤ (v : Int) := by omega
                have hZ : Below wy.heap.size wy (wy.alloc (.cells #[.slice none 0 0] 43)) := (Below.refl _ _).alloc (Nat.le_refl _) _
                have HTOPZ := Lib.hid (ownBelow HSY.out.top hZ (Nat.le_refl _))
                have HZB := Lib.hid hZ
                have HLIT := Lib.hid (litS_rd none 0 0 wy)
                have hbase : wr.heap.size ≤ (wy.alloc (.cells #[.slice none 0 0] 43)).heap.size := Nat.le_trans HBY.out.size hZ.size
                have HNIL := Lib.hid (show (fun j => (rowM l j).map nj) T' = [] by
                  show (rowM l T').map nj = []
                  rw [rowM_out (by rw [← HT.out]; exact hT1)]
                  rfl)
                have hTb : T' + 1 ≤ 1000000000000 := by omega
                clear hZ
                repeat (first
                  | (at_builtin
                     refine appS _ rfl (.tmp 50) (.tmp 51) rfl wr.heap.size At2 ct2 T' _ rfl HTOPZ.out _ _ 1 1 [.slice none 0 0] rfl HLIT.out (fun u hu => by rw [List.mem_singleton.1 hu]; rfl) hTb hbase ?_
                     intro A6 c6 w6 ho6 ht6 hg6
                     have HSG := Lib.hid (HSY.out.grow HZB.out ho6 ht6 hg6 HNIL.out)
                     have HB6 := Lib.hid ((HBY.out.trans (HZB.out.mono HBY.out.size)).trans (ht6.below (B := wr.heap.size) (fun y _ e => (HSY.out.lowT e).1) hbase))
                     clear ho6 ht6 hg6)
                  | go_skip | go_guarded | go_step)
                go_roundw
                case rel => exact ⟨T' + 1, _, A6, c6, rfl, by omega, by omega, HSG.out, HB6.out⟩
                case measure => simp [sliLen]; omega
              · have hlei : ¬ (T' : Int) ≤ (v : Int) := by omega
                have hvT : v < T' := by omega
                have HTT := Lib.hid (show T' = topM (l ++ [v]) by rw [topM_snoc, ← HT.out]; omega)
                obtain ⟨g, rest, hAt, _, _, _, _, _, _⟩ := own1_block HSY.out.top (by omega)
                subst hAt
                have hcell := SG.cell_ HSY.out hvT
                have hown := HSY.out.own v hvT
                obtain ⟨⟨Av, nv', cv⟩, hsv⟩ : ∃ s, s = R2 v := ⟨_, rfl⟩
                rw [← hsv] at hcell hown
                dsimp only at hcell hown
                have hnvi : nv' ≤ 400 := by
                  have h1 := hown.1
                  have h2 := rowM_len l v
                  rw [HLN.out] at h2
                  rw [List.length_map] at h1
                  omega
                have hvi : (v : Int) < (T' : Int) := by omega
                have hv0 : (0 : Int) ≤ (v : Int) := by omega
                have hZ : Below wy.heap.size wy (wy.alloc (.cells #[.int .i64 (i : Int)] 3)) := (Below.refl _ _).alloc (Nat.le_refl _) _
                have HOZ := Lib.hid (show OwN (wy.alloc (.cells #[.int .i64 (i : Int)] 3)) wr.heap.size (Av, nv', cv) (rowM l v) from ownBelow hown hZ (Nat.le_refl _))
                have HZB := Lib.hid hZ
                have HLIT := Lib.hid (litN_rd wy i)
                have HSV := Lib.hid hsv
                have hbase : wr.heap.size ≤ (wy.alloc (.cells #[.int .i64 (i : Int)] 3)).heap.size := Nat.le_trans HBY.out.size hZ.size
                clear hsv hown hZ
                repeat (first
                  | (at_builtin
                     refine appN _ rfl (.tmp 58) (.tmp 60) rfl wr.heap.size (Av, nv', cv) _ rfl HOZ.out _ _ 1 1 [i] rfl HLIT.out (by show nv' + 1 ≤ _; omega) hbase ?_
                     intro A6 c6 w6 ho6 ht6 hg6
                     dsimp only at ht6 hg6 ho6
                     unfold OwN at ho6
                     rw [List.map_append] at ho6
                     obtain ⟨g', eg, hbg, hc6, hf6, hsg⟩ := HSY.out.put hvT HZB.out (A' := A6) (m' := nv' + 1) (c' := c6) (news := [i].map nj) ho6 (by rw [← HSV.out]; exact ht6) (by rw [← HSV.out]; exact hg6)
                     cases eg
                     rw [← HSV.out] at hc6
                     dsimp only at hc6
                     have HSG := Lib.hid hsg
                     have HB6 := Lib.hid (show Below wr.heap.size wr (w6.setCell ⟨g, v, none⟩ (.slice A6 (nv' + 1) c6)) from ((HBY.out.trans (HZB.out.mono HBY.out.size)).trans (ht6.below (B := wr.heap.size) (fun y _ e => (World.ownsRow.lt HOZ.out y (by rw [ownBlk_slice]; exact e)).1) hbase)).setCell (p := ⟨g, v, none⟩) hbg _)
                     clear ho6 ht6 hg6 hsg hbg hcell)
                  | go_skip | go_guarded | go_step)
                go_roundw
                case rel => exact ⟨i + 1, _, some ⟨g, 0, none⟩, ct2, by omega, by rw [HST.out, ← HTT.out], by go_num, by
                  rw [HST.out, ← HTT.out]
                  exact SN.snoc HLN.out rfl HSG.out, HB6.out⟩
                case measure => simp [intOf]; omega
          · obtain rfl : n = i := by omega
            have hii : ¬ (n : Int) < (n : Int) := by omega
            have htake : C.take n = C := List.take_of_length_le (by rw [HC.out.lenC]; exact Nat.le_refl _)
            repeat (first | go_skip | go_guarded | go_step)
            go_ret2
            have hlc : l = headsM f C := by rw [HL.out, htake]
            have hst : strM (headsM f C) = (List.range T).map (rowM l) := by unfold strM; rw [← hlc, ← HT.out]
            refine ⟨0, At, ct, strM (headsM f C), (List.range T).map R, ?_, StrTold.good HZ.out HLS.out, ?_, HB1.out.trans ((HBR.out.trans (HBZ.out.mono HBR.out.size)).mono HB1.out.size)⟩
            · rw [hst, List.length_map, List.length_range]; rfl
            · rw [hst, List.length_map, List.length_range]
              exact rdS_of HSN.out.rd
  · have hne : ((er : Int) != 0) = true := by simp; omega
    have hL : L = [] := by
      cases htold with
      | wrong _ => rfl
      | none _ _ => rfl
      | some _ _ _ _ _ => exact absurd rfl he
    subst hL
    have HT := Lib.hid htold
    have HE := Lib.hid he
    clear htold hol he
    repeat (first | go_skip | go_guarded | go_step)
    go_ret2
    exact ⟨er, none, 0, [], [], rfl, StrTold.bad HT.out HE.out, RdS.nil _ _, HB1.out⟩
end Go.Proofs.Ytfmghkplafploaa

