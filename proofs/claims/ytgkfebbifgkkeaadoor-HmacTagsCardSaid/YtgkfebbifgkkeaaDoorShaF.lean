/- Layer 2 (sha): Write. -/
import Derived.Test.YtgkfebbifgkkeaaDoorShaE
set_option linter.unusedVariables false
set_option linter.unusedSimpArgs false
namespace Go.Proofs.YtgkfebbifgkkeaaDoor
open Go Go.RowKit

theorem still_load_mid {P : Program} {op : Oper} {a : Act} {w : World} {K : Act → Prop} {ops : Array Oper} (hwant : Region.wanted op (yielded ops a.tmps) = true) (ty : TypeId) (x : Operand) (ho : op.op = .load ty x)
    (b o : Nat) (hx : a.eval x = .pointer (some ⟨b, o, none⟩)) (cs : List Value) (d : TypeDesc) (hc : w.rangeAt b o cs)
    (hu : P.underlying ty = some d) (hd : d.isRow = true) (hi : (P.info? ty).map (·.size) = some cs.length)
    (h : K (a.put op.dst (.agg cs.toArray))) : if Region.wanted op (yielded ops a.tmps) then op.still P a w K else K (a.put op.dst undef) := by
  rw [if_pos hwant]
  unfold Oper.still execOp
  simp only [ho, hx, Instr.loadAt, Instr.sureAddr, Sem.run_bind, Sem.run_pure, Result.andThen_ok, run_loadVar_mid w b o ty cs d hc hu hd hi, Oper.stillUpon]
  exact ⟨trivial, h⟩

theorem any_load_mid {P : Program} {op : Oper} {a : Act} {w : World} {K : Act → World → Prop} {Q : Exit → Act → World → Prop} {E : Prop} {ops : Array Oper} (hwant : Region.wanted op (yielded ops a.tmps) = true) (ty : TypeId) (x : Operand) (ho : op.op = .load ty x)
    (b o : Nat) (hx : a.eval x = .pointer (some ⟨b, o, none⟩)) (cs : List Value) (d : TypeDesc) (hc : w.rangeAt b o cs)
    (hu : P.underlying ty = some d) (hd : d.isRow = true) (hi : (P.info? ty).map (·.size) = some cs.length)
    (h : K (a.put op.dst (.agg cs.toArray)) w) : if Region.wanted op (yielded ops a.tmps) = true then Oper.wp P op a w K Q else E := by
  rw [if_pos hwant]
  exact wp_load_mid ty x ho b o hx cs d hc hu hd hi h
theorem any_store_mid {P : Program} {op : Oper} {a : Act} {w : World} {K : Act → World → Prop} {Q : Exit → Act → World → Prop} {E : Prop} {ops : Array Oper} (hwant : Region.wanted op (yielded ops a.tmps) = true) (ty : TypeId) (x y : Operand) (ho : op.op = .store ty x y)
    (b o : Nat) (cells : Array Value) (hx : a.eval x = .pointer (some ⟨b, o, none⟩)) (hy : a.eval y = .agg cells)
    (ht : w.there b o cells.size) (hi : (P.info? ty).map (·.size) = some cells.size) (h1 : cells.all (·.oneCell') = true)
    (h : K (a.put op.dst undef) (w.setCells b o cells.toList)) : if Region.wanted op (yielded ops a.tmps) = true then Oper.wp P op a w K Q else E := by
  rw [if_pos hwant]
  exact wp_store_mid ty x y ho b o cells hx hy ht hi h1 h
theorem st_there {w : World} {g : Nat} {s : W8} {rest : List UInt8} {n : Nat} (h : Bk w g 73 (stCells s rest n)) : w.there g 0 8 := fun j hj => by
  rw [Nat.zero_add, h.cell, h.frozen, List.getElem?_eq_getElem (by simp [stCells, W8.list]; omega)]
  exact ⟨rfl, rfl⟩
theorem st_mk {w : World} {g L : Nat} {s : W8} {rest : List UInt8} {all : List UInt8} (hb : Bk w g 73 (stCells s rest L)) (hl : rest.length = 64) (hL : L = all.length) (hs : runB (all.length / 64) firstW all = s)
    (ht : rest.take (all.length % 64) = all.drop (64 * (all.length / 64))) : St w g all := by
  subst hs hL
  exact ⟨rest, hl, ht, hb⟩

set_option maxRecDepth 100000 in
theorem write_nil (A : Option Addr) (n c : Nat) (w : World) :
    Calls Tryd.prog 28 #[.pointer none, .slice A n c] w fun e w' => e = .returned (.int .i64 2) ∧ w = w' := by
  go_enter Tryd.func28, Tryd.ntmps28
  go_wp2
  go_ret
  exact ⟨rfl, rfl⟩

set_option maxRecDepth 100000 in
set_option maxHeartbeats 1000000 in
theorem write_any (g : Nat) (bs : List UInt8) (A : Option Addr) (n c : Nat) (cs : List UInt8) (w : World) (hst : St w g bs) (hr : Rdg w g A n cs) (hnc : n ≤ c) (hbd : bs.length + n ≤ 1152921504606846976) (ht : Tab w)
    (hg0 : 0 ≠ g) (hg1 : 1 ≠ g) :
    Calls Tryd.prog 28 #[.pointer (some ⟨g, 0, none⟩), .slice A n c] w fun e w' => e = .returned (.int .i64 0) ∧ St w' g (bs ++ cs) ∧ w.grownBy w' (some g) := by
  have HG := Lib.hid (And.intro hg0 hg1)
  have HT := Lib.hid ht
  have HN := Lib.hid hr.1
  have HR := Lib.hid hr
  have HS := Lib.hid hst
  clear hg0 hg1 ht hr hst
  go_enter Tryd.func28, Tryd.ntmps28
  go_wp2
  go_loopw [1] (fun p wr => ∃ (pre suf : List UInt8) (A : Option Addr) (m c : Nat), p = .slice A m c ∧ m ≤ c ∧ m ≤ n ∧ pre ++ suf = bs ++ cs ∧ pre.length + m = bs.length + n ∧ Rdg wr g A m suf ∧ St wr g pre ∧ w.grownBy wr (some g))
    (fun p _ => match p with | .slice _ m _ => m | _ => 0)
  case atStart => exact ⟨bs, cs, A, n, c, rfl, hnc, Nat.le_refl _, rfl, rfl, HR.out, HS.out, World.grownBy.refl _ _⟩
  case round =>
    clear hnc
    obtain ⟨pre, suf, A, m, c, rfl, hmc, hmn, heq, hlen, hr, hst, hgr⟩ := hrel
    have HEQ := Lib.hid heq
    clear heq
    rcases Nat.eq_zero_or_pos m with rfl | hpos
    · have hd : decide ((0 : Int) < ((0 : Nat) : Int)) = false := by decide
      have hsuf := List.eq_nil_of_length_eq_zero hr.1
      subst hsuf
      rw [List.append_nil] at HEQ
      clear hr
      go_wp2
      go_ret
      exact ⟨rfl, HEQ.out ▸ hst, hgr⟩
    · obtain ⟨b, o, hA, hbg, hbl, hcells⟩ := hr.2 hpos
      subst hA
      obtain ⟨rest, hrl, htk, hbk⟩ := hst
      have hm0 : 0 < (m : Int) := by omega
      have cc := hbk.cell 72
      rw [st_cnt _ _ _ hrl] at cc
      have hsl := hr.1
      have HRL := Lib.hid hrl
      have HTK := Lib.hid htk
      have HSL := Lib.hid hsl
      have HCL := Lib.hid hcells
      have HRR := Lib.hid hr
      clear hrl htk hsl hcells hr
      have hL0 : (0 : Int) ≤ (pre.length : Int) := by omega
      have hL1 : (pre.length : Int) ≤ 1152921504606846976 := by omega
      obtain ⟨k0, hk0⟩ : ∃ k0, k0 = pre.length % 64 := ⟨_, rfl⟩
      have etm : (pre.length : Int).tmod 64 = (k0 : Int) := by rw [Int.tmod_eq_emod_of_nonneg (by omega)]; omega
      have hk1 : k0 < 64 := by omega
      have hk2 : (k0 : Int) ≤ 64 := by omega
      have hk3 : k0 ≤ 64 := by omega
      have hne : ¬ 64 = k0 := by omega
      obtain ⟨q, hq⟩ : ∃ q, q = Nat.min m (64 - k0) := ⟨_, rfl⟩
      have hqm : q ≤ m := by rw [hq]; exact Nat.min_le_left _ _
      have hqk : q ≤ 64 - k0 := by rw [hq]; exact Nat.min_le_right _ _
      have hq0 : 0 < q := by rw [hq]; exact Nat.lt_min.2 ⟨hpos, by omega⟩
      have hor : q = m ∨ q = 64 - k0 := by rw [hq]; rcases Nat.le_total m (64 - k0) with h | h; exact .inl (Nat.min_eq_left h); exact .inr (Nat.min_eq_right h)
      have hchl : (suf.take q).length = q := by rw [List.length_take, HSL.out]; omega
      have hcpn : ((suf.take q).map bv).length = q := by rw [List.length_map, hchl]
      have HCP : Hid (((suf.take q).map bv).length = Nat.min m (64 - k0)) := by
        show _ = _
        rw [hcpn, hq]
      have HSRC : Hid (∀ j v, ((suf.take q).map bv)[j]? = some v → wr.drew.cell? ((⟨b, o, none⟩ : Addr).add j) = some v) := by
        intro j v hv
        rw [List.getElem?_map] at hv
        obtain ⟨u, hu, rfl⟩ := Option.map_eq_some_iff.1 hv
        rw [List.getElem?_take] at hu
        split at hu
        · rw [addPlain]
          exact HCL.out j u hu
        · cases hu
      have HF : Hid (8 + k0 + ((suf.take q).map bv).length ≤ (stCells (runB (pre.length / 64) firstW pre) rest pre.length).toArray.size) := by
        show _ ≤ _
        rw [hcpn, List.size_toArray, st_len _ _ _ HRL.out]
        omega
      have HM := st_more pre (suf.take q) rest (by rw [hchl, ← hk0]; omega) HRL.out HTK.out
      rw [← hk0, hchl] at HM
      have HST := Lib.hid (st_copy (runB (pre.length / 64) firstW pre) rest pre.length k0 (suf.take q) HRL.out (by rw [hchl]; omega))
      rw [hchl] at HST
      obtain ⟨HMl', HMa', HMb'⟩ := HM
      have HMl := Lib.hid HMl'
      have HMa := Lib.hid HMa'
      have HMb := Lib.hid HMb'
      clear HMl' HMa' HMb'
      have HK0 := Lib.hid hk0
      have HQ := Lib.hid hq
      have HCH := Lib.hid hchl
      have HCN := Lib.hid hcpn
      have HOR := Lib.hid hor
      clear hk0 hq hchl hcpn hor
      go_wp2
      go_still_tail 10, (by kernel_rfl)
      show wpList _ _ _ _ _ wr.drew
      refine wpList_copy_own rfl (.tmp 19) (.tmp 20) 22 22 rfl 5 Tryd.underlying22 (by kernel_rfl) g (8 + k0) (64 - k0) (64 - k0) ⟨b, o, none⟩ m c rfl rfl _ _ hbk ((suf.take q).map bv) HCP.out HSRC.out HF.out (bv_one _) ?_
      have hb2 := hbk.drew.setRow_same ((stCells (runB (pre.length / 64) firstW pre) rest pre.length).take (8 + k0) ++ ((suf.take q).map bv ++ (stCells (runB (pre.length / 64) firstW pre) rest pre.length).drop (8 + k0 + ((suf.take q).map bv).length)))
      have hgr2 := grownRow (grownDrew hgr) ((stCells (runB (pre.length / 64) firstW pre) rest pre.length).take (8 + k0) ++ ((suf.take q).map bv ++ (stCells (runB (pre.length / 64) firstW pre) rest pre.length).drop (8 + k0 + ((suf.take q).map bv).length))).toArray
      have hr2 := HRR.out.grown (grownRow (grownDrew (World.grownBy.refl wr _)) ((stCells (runB (pre.length / 64) firstW pre) rest pre.length).take (8 + k0) ++ ((suf.take q).map bv ++ (stCells (runB (pre.length / 64) firstW pre) rest pre.length).drop (8 + k0 + ((suf.take q).map bv).length))).toArray)
      show wpList _ _ _ _ _ (wr.drew.setRow g ((stCells (runB (pre.length / 64) firstW pre) rest pre.length).take (8 + k0) ++ ((suf.take q).map bv ++ (stCells (runB (pre.length / 64) firstW pre) rest pre.length).drop (8 + k0 + ((suf.take q).map bv).length))).toArray)
      generalize wr.drew.setRow g ((stCells (runB (pre.length / 64) firstW pre) rest pre.length).take (8 + k0) ++ ((suf.take q).map bv ++ (stCells (runB (pre.length / 64) firstW pre) rest pre.length).drop (8 + k0 + ((suf.take q).map bv).length))).toArray = W2 at *
      rw [HCN.out]
      rw [HST.out] at hb2
      clear HSRC HF HCP HST hbk hgr cc HCL HRR HCN HTK
      generalize hrest : rest.take k0 ++ (suf.take q ++ rest.drop (k0 + q)) = rest2 at *
      clear hrest
      have cc := hb2.cell 72
      rw [st_cnt _ _ _ HMl.out] at cc
      have hc2 : W2.cell? ⟨g, 72, none⟩ = some (.int .u64 (pre.length : Int)) := cc
      have fc := hb2.frozen 72
      have hq0' : 0 < (q : Int) := by omega
      have hqm' : (q : Int) ≤ (m : Int) := by omega
      have hL2 : (pre.length : Int) + (q : Int) ≤ 1152921504606846976 := by omega
      have hL3 : 0 ≤ (pre.length : Int) + (q : Int) := by omega
      have ew : IntKind.u64.wrap ((pre.length : Int) + (q : Int)) = (pre.length : Int) + (q : Int) := by rw [IntKind.wrap_u64]; omega
      obtain ⟨k1, hk1⟩ : ∃ k1, k1 = (pre.length + q) % 64 := ⟨_, rfl⟩
      have etm2 : ((pre.length : Int) + (q : Int)).tmod 64 = (k1 : Int) := by rw [Int.tmod_eq_emod_of_nonneg (by omega)]; omega
      have HK1 := Lib.hid hk1
      clear hk1
      have hapl : (pre ++ suf.take q).length = pre.length + q := by rw [List.length_append, HCH.out]
      have HAP := Lib.hid hapl
      clear hapl
      have HB3 := Lib.hid (hb2.set_ 72 (.int .u64 ((pre.length + q : Nat) : Int)))
      rw [st_count _ _ _ _ HMl.out, Int.natCast_add] at HB3
      have HR3 := Lib.hid (hr2.grown (grownSet (World.grownBy.refl W2 _) 72 (.int .u64 ((pre.length : Int) + (q : Int)))))
      have HG3 := Lib.hid (grownSet hgr2 72 (.int .u64 ((pre.length : Int) + (q : Int))))
      have HAPP := Lib.hid (show (pre ++ suf.take q) ++ suf.drop q = bs ++ cs by rw [List.append_assoc, List.take_append_drop]; exact HEQ.out)
      generalize hs : runB (pre.length / 64) firstW pre = s at *
      clear hb2 hr2 hgr2 hs
      by_cases hz : k1 = 0
      · have hz1 : ((k1 : Int) == 0) = true := by simp [hz]
        have hk64 : k0 + q = 64 := by have := HK1.out; have := HK0.out; omega
        have HE := Lib.hid (HMb.out hk64)
        clear hz hk64 HMa HMb
        have hcq : c = q ∨ ¬ c = q := Decidable.em _
        rcases hcq with hcq | hcq
        · have HCQ := Lib.hid hcq
          go_wp2
          have hb3 := HB3.out
          have hr3 := HR3.out
          have hg3 := HG3.out
          generalize W2.setCell ⟨g, 72, none⟩ (.int .u64 ((pre.length : Int) + (q : Int))) = W3 at *
          have hw3 : W3.drew.rangeAt g 0 [uv s.a, uv s.b, uv s.c, uv s.d, uv s.e, uv s.f, uv s.g, uv s.h] := st_words hb3.drew
          have hw4 : W3.drew.rangeAt g 8 (rest2.map bv) := st_rest hb3.drew
          have hs64 : (Tryd.prog.info? 45).map (·.size) = some (rest2.map bv).length := by
            rw [List.length_map, HMl.out]
            kernel_rfl
          have HT4 := Lib.hid ((HT.out.grown (grownDrew hg3) HG.out.1 HG.out.2 : Tab W3.drew))
          have hthere : ∀ W4, Below W3.drew.heap.size W3.drew W4 → W4.there g 0 8 := fun W4 hb4 => st_there (hb3.drew.later hb4)
          have hfin : ∀ W4, Below W3.drew.heap.size W3.drew W4 → St (W4.setCells g 0 (((takeB s rest2).list.map uv).toArray).toList) g (pre ++ suf.take q) ∧ w.grownBy (W4.setCells g 0 (((takeB s rest2).list.map uv).toArray).toList) (some g) ∧ W3.grownBy (W4.setCells g 0 (((takeB s rest2).list.map uv).toArray).toList) (some g) := by
            intro W4 hb4
            have hg4 := grownSetCells ((takeB s rest2).list.map uv) 0 W4 (grownBelow (grownDrew (World.grownBy.refl W3 (some g))) hb4)
            refine ⟨?_, hg3.trans hg4, hg4⟩
            refine st_mk (rest := rest2) (s := takeB s rest2) ?_ HMl.out HAP.out.symm HE.out.2.1 ?_
            · exact (hb3.drew.later hb4).setCells8
            · rw [HE.out.1, HE.out.2.2]
              rfl
          have HFIN := Lib.hid hfin
          have HTHERE := Lib.hid hthere
          clear hc2 cc fc hcq hfin hthere
          --BEGIN any
          refine wp_region_any (by kernel_rfl) ?_
          try (change wpAny _ _ _ _ _ _ _ (World.drew _))
          refine wpAny_take (i := 0) (oi := ?oia1) (v := ?va1) ?hoa1 (by kernel_rfl) ?hfa1 ?hra1 ?hQa1 ?hya1 ?resta1
          case hoa1 => (simp only [List.getElem?_toArray, List.getElem?_cons_succ, List.getElem?_cons_zero]; exact rfl)
          case hfa1 => kernel_rfl
          case hra1 => kernel_rfl
          case hQa1 => exact fun _ _ _ h => h
          case hya1 =>
            refine Or.inl ⟨by rfl, ?_⟩
            intro w
            go_simp
            (try with_reducible rfl)
          try simp only [Act.put, List.setIfInBounds_toArray, List.set_cons_zero, List.set_cons_succ]
          refine wpAny_take (i := 1) (oi := ?oia2) (v := ?va2) ?hoa2 (by kernel_rfl) ?hfa2 ?hra2 ?hQa2 ?hya2 ?resta2
          case hoa2 => (simp only [List.getElem?_toArray, List.getElem?_cons_succ, List.getElem?_cons_zero]; exact rfl)
          case hfa2 => kernel_rfl
          case hra2 => kernel_rfl
          case hQa2 => exact fun _ _ _ h => h
          case hya2 =>
            refine Or.inl ⟨by rfl, ?_⟩
            intro w
            go_simp
            (try with_reducible rfl)
          try simp only [Act.put, List.setIfInBounds_toArray, List.set_cons_zero, List.set_cons_succ]
          refine wpAny_take (i := 2) (oi := ?oia3) (v := ?va3) ?hoa3 (by kernel_rfl) ?hfa3 ?hra3 ?hQa3 ?hya3 ?resta3
          case hoa3 => (simp only [List.getElem?_toArray, List.getElem?_cons_succ, List.getElem?_cons_zero]; exact rfl)
          case hfa3 => kernel_rfl
          case hra3 => kernel_rfl
          case hQa3 => exact fun _ _ _ h => h
          case hya3 =>
            refine Or.inl ⟨by rfl, ?_⟩
            intro w
            go_simp
            (try with_reducible rfl)
          try simp only [Act.put, List.setIfInBounds_toArray, List.set_cons_zero, List.set_cons_succ]
          refine wpAny_take (i := 3) (oi := ?oia4) (v := ?va4) ?hoa4 (by kernel_rfl) ?hfa4 ?hra4 ?hQa4 ?hya4 ?resta4
          case hoa4 => (simp only [List.getElem?_toArray, List.getElem?_cons_succ, List.getElem?_cons_zero]; exact rfl)
          case hfa4 => kernel_rfl
          case hra4 => kernel_rfl
          case hQa4 => exact fun _ _ _ h => h
          case hya4 =>
            refine Or.inl ⟨by rfl, ?_⟩
            intro w
            go_simp
            (try with_reducible rfl)
          try simp only [Act.put, List.setIfInBounds_toArray, List.set_cons_zero, List.set_cons_succ]
          refine wpAny_take (i := 5) (oi := ?oia5) (v := ?va5) ?hoa5 (by kernel_rfl) ?hfa5 ?hra5 ?hQa5 ?hya5 ?resta5
          case hoa5 => (simp only [List.getElem?_toArray, List.getElem?_cons_succ, List.getElem?_cons_zero]; exact rfl)
          case hfa5 => kernel_rfl
          case hra5 => kernel_rfl
          case hQa5 => exact fun _ _ _ h => h
          case hya5 =>
            refine Or.inl ⟨by rfl, ?_⟩
            intro w
            go_simp
            (try with_reducible rfl)
          try simp only [Act.put, List.setIfInBounds_toArray, List.set_cons_zero, List.set_cons_succ]
          refine wpAny_take (i := 6) (oi := ?oia6) (v := ?va6) ?hoa6 (by kernel_rfl) ?hfa6 ?hra6 ?hQa6 ?hya6 ?resta6
          case hoa6 => (simp only [List.getElem?_toArray, List.getElem?_cons_succ, List.getElem?_cons_zero]; exact rfl)
          case hfa6 => kernel_rfl
          case hra6 => kernel_rfl
          case hQa6 => exact fun _ _ _ h => h
          case hya6 =>
            refine Or.inl ⟨by rfl, ?_⟩
            intro w
            go_simp
            (try with_reducible rfl)
          try simp only [Act.put, List.setIfInBounds_toArray, List.set_cons_zero, List.set_cons_succ]
          refine wpAny_take (i := 7) (oi := ?oia7) (v := ?va7) ?hoa7 (by kernel_rfl) ?hfa7 ?hra7 ?hQa7 ?hya7 ?resta7
          case hoa7 => (simp only [List.getElem?_toArray, List.getElem?_cons_succ, List.getElem?_cons_zero]; exact rfl)
          case hfa7 => kernel_rfl
          case hra7 => kernel_rfl
          case hQa7 => exact fun _ _ _ h => h
          case hya7 =>
            refine Or.inl ⟨by rfl, ?_⟩
            intro w
            go_simp
            (try with_reducible rfl)
          try simp only [Act.put, List.setIfInBounds_toArray, List.set_cons_zero, List.set_cons_succ]
          refine wpAny_ready (rs := [4, 8]) (by kernel_rfl) (by simp) ?_
          refine AllReady.cons (o := ?oa8) ?hoa8 (fun K hK => ?ka8) ?ma8
          case hoa8 => (simp only [List.getElem?_toArray, List.getElem?_cons_succ, List.getElem?_cons_zero]; exact rfl)
          case ka8 =>
            refine any_load_mid (by rfl) 71 (.tmp 43) rfl g 0 rfl _ _ hw3 Tryd.underlying71 rfl (by kernel_rfl) ?_
            refine hK _ _ ?_
            clear hK K
            try simp only [Act.put, List.setIfInBounds_toArray, List.set_cons_zero, List.set_cons_succ]
            refine wpAny_ready (rs := [8]) (by kernel_rfl) (by simp) ?_
            refine AllReady.cons (o := ?oa9) ?hoa9 (fun K hK => ?ka9) ?ma9
            case hoa9 => (simp only [List.getElem?_toArray, List.getElem?_cons_succ, List.getElem?_cons_zero]; exact rfl)
            case ka9 =>
              refine any_load_mid (by rfl) 45 (.tmp 47) rfl g 8 rfl _ _ hw4 Tryd.underlying45 rfl hs64 ?_
              refine hK _ _ ?_
              clear hK K
              try simp only [Act.put, List.setIfInBounds_toArray, List.set_cons_zero, List.set_cons_succ]
              refine wpAny_ready (rs := [9]) (by kernel_rfl) (by simp) ?_
              refine AllReady.cons (o := ?oa10) ?hoa10 (fun K hK => ?ka10) ?ma10
              case hoa10 => (simp only [List.getElem?_toArray, List.getElem?_cons_succ, List.getElem?_cons_zero]; exact rfl)
              case ka10 =>
                go_simp
                refine (take_any s rest2 _ HMl.out HT4.out).mono ?_
                rintro e W4 ⟨rfl, hb4⟩
                (try dsimp only)
                refine hK _ _ ?_
                clear hK K
                try simp only [Act.put, List.setIfInBounds_toArray, List.set_cons_zero, List.set_cons_succ]
                refine wpAny_take (i := 10) (oi := ?oia11) (v := ?va11) ?hoa11 (by kernel_rfl) ?hfa11 ?hra11 ?hQa11 ?hya11 ?resta11
                case hoa11 => (simp only [List.getElem?_toArray, List.getElem?_cons_succ, List.getElem?_cons_zero]; exact rfl)
                case hfa11 => kernel_rfl
                case hra11 => kernel_rfl
                case hQa11 => exact fun _ _ _ h => h
                case hya11 =>
                  refine Or.inl ⟨by rfl, ?_⟩
                  intro w
                  go_simp
                  (try with_reducible rfl)
                try simp only [Act.put, List.setIfInBounds_toArray, List.set_cons_zero, List.set_cons_succ]
                refine wpAny_take (i := 11) (oi := ?oia12) (v := ?va12) ?hoa12 (by kernel_rfl) ?hfa12 ?hra12 ?hQa12 ?hya12 ?resta12
                case hoa12 => (simp only [List.getElem?_toArray, List.getElem?_cons_succ, List.getElem?_cons_zero]; exact rfl)
                case hfa12 => kernel_rfl
                case hra12 => kernel_rfl
                case hQa12 => exact fun _ _ _ h => h
                case hya12 =>
                  refine Or.inl ⟨by rfl, ?_⟩
                  intro w
                  go_simp
                  (try with_reducible rfl)
                try simp only [Act.put, List.setIfInBounds_toArray, List.set_cons_zero, List.set_cons_succ]
                refine wpAny_ready (rs := [12]) (by kernel_rfl) (by simp) ?_
                refine AllReady.cons (o := ?oa13) ?hoa13 (fun K hK => ?ka13) ?ma13
                case hoa13 => (simp only [List.getElem?_toArray, List.getElem?_cons_succ, List.getElem?_cons_zero]; exact rfl)
                case ka13 =>
                  refine any_store_mid (by rfl) 71 (.tmp 51) (.tmp 49) rfl g 0 (((takeB s rest2).list.map uv).toArray) rfl rfl (HTHERE.out W4 hb4) (by kernel_rfl) (by simp [W8.list, uv, Value.oneCell']) ?_
                  refine hK _ _ ?_
                  clear hK K
                  try simp only [Act.put, List.setIfInBounds_toArray, List.set_cons_zero, List.set_cons_succ]
                  refine wpAny_done (by kernel_rfl) ?_ _
                  go_wp2
                  go_roundw
                  case rel =>
                    obtain ⟨f1, f2, f3⟩ := HFIN.out W4 hb4
                    have h1 := HSL.out
                    have h2 := HCQ.out
                    have h3 := HAP.out
                    have e : m = q ∨ m ≠ q := Decidable.em _
                    refine ⟨pre ++ suf.take q, suf.drop q, _, _, _, rfl, by omega, by omega, HAPP.out, by omega, ?_, f1, f2⟩
                    first
                      | (have h4 : m - q = 0 := by omega
                         rw [h4, List.drop_of_length_le (by omega)]
                         exact Rdg.done)
                      | (have h5 := (HR3.out.cut q hqm).grown f3
                         simpa [addPlain] using h5)
                  case measure => show m - q < m; omega
                exact AllReady.nil
              exact AllReady.nil
            exact AllReady.nil
          refine AllReady.cons (o := ?oa14) ?hoa14 (fun K hK => ?ka14) ?ma14
          case hoa14 => (simp only [List.getElem?_toArray, List.getElem?_cons_succ, List.getElem?_cons_zero]; exact rfl)
          case ka14 =>
            refine any_load_mid (by rfl) 45 (.tmp 47) rfl g 8 rfl _ _ hw4 Tryd.underlying45 rfl hs64 ?_
            refine hK _ _ ?_
            clear hK K
            try simp only [Act.put, List.setIfInBounds_toArray, List.set_cons_zero, List.set_cons_succ]
            refine wpAny_ready (rs := [4]) (by kernel_rfl) (by simp) ?_
            refine AllReady.cons (o := ?oa15) ?hoa15 (fun K hK => ?ka15) ?ma15
            case hoa15 => (simp only [List.getElem?_toArray, List.getElem?_cons_succ, List.getElem?_cons_zero]; exact rfl)
            case ka15 =>
              refine any_load_mid (by rfl) 71 (.tmp 43) rfl g 0 rfl _ _ hw3 Tryd.underlying71 rfl (by kernel_rfl) ?_
              refine hK _ _ ?_
              clear hK K
              try simp only [Act.put, List.setIfInBounds_toArray, List.set_cons_zero, List.set_cons_succ]
              refine wpAny_ready (rs := [9]) (by kernel_rfl) (by simp) ?_
              refine AllReady.cons (o := ?oa16) ?hoa16 (fun K hK => ?ka16) ?ma16
              case hoa16 => (simp only [List.getElem?_toArray, List.getElem?_cons_succ, List.getElem?_cons_zero]; exact rfl)
              case ka16 =>
                go_simp
                refine (take_any s rest2 _ HMl.out HT4.out).mono ?_
                rintro e W4 ⟨rfl, hb4⟩
                (try dsimp only)
                refine hK _ _ ?_
                clear hK K
                try simp only [Act.put, List.setIfInBounds_toArray, List.set_cons_zero, List.set_cons_succ]
                refine wpAny_take (i := 10) (oi := ?oia17) (v := ?va17) ?hoa17 (by kernel_rfl) ?hfa17 ?hra17 ?hQa17 ?hya17 ?resta17
                case hoa17 => (simp only [List.getElem?_toArray, List.getElem?_cons_succ, List.getElem?_cons_zero]; exact rfl)
                case hfa17 => kernel_rfl
                case hra17 => kernel_rfl
                case hQa17 => exact fun _ _ _ h => h
                case hya17 =>
                  refine Or.inl ⟨by rfl, ?_⟩
                  intro w
                  go_simp
                  (try with_reducible rfl)
                try simp only [Act.put, List.setIfInBounds_toArray, List.set_cons_zero, List.set_cons_succ]
                refine wpAny_take (i := 11) (oi := ?oia18) (v := ?va18) ?hoa18 (by kernel_rfl) ?hfa18 ?hra18 ?hQa18 ?hya18 ?resta18
                case hoa18 => (simp only [List.getElem?_toArray, List.getElem?_cons_succ, List.getElem?_cons_zero]; exact rfl)
                case hfa18 => kernel_rfl
                case hra18 => kernel_rfl
                case hQa18 => exact fun _ _ _ h => h
                case hya18 =>
                  refine Or.inl ⟨by rfl, ?_⟩
                  intro w
                  go_simp
                  (try with_reducible rfl)
                try simp only [Act.put, List.setIfInBounds_toArray, List.set_cons_zero, List.set_cons_succ]
                refine wpAny_ready (rs := [12]) (by kernel_rfl) (by simp) ?_
                refine AllReady.cons (o := ?oa19) ?hoa19 (fun K hK => ?ka19) ?ma19
                case hoa19 => (simp only [List.getElem?_toArray, List.getElem?_cons_succ, List.getElem?_cons_zero]; exact rfl)
                case ka19 =>
                  refine any_store_mid (by rfl) 71 (.tmp 51) (.tmp 49) rfl g 0 (((takeB s rest2).list.map uv).toArray) rfl rfl (HTHERE.out W4 hb4) (by kernel_rfl) (by simp [W8.list, uv, Value.oneCell']) ?_
                  refine hK _ _ ?_
                  clear hK K
                  try simp only [Act.put, List.setIfInBounds_toArray, List.set_cons_zero, List.set_cons_succ]
                  refine wpAny_done (by kernel_rfl) ?_ _
                  go_wp2
                  go_roundw
                  case rel =>
                    obtain ⟨f1, f2, f3⟩ := HFIN.out W4 hb4
                    have h1 := HSL.out
                    have h2 := HCQ.out
                    have h3 := HAP.out
                    have e : m = q ∨ m ≠ q := Decidable.em _
                    refine ⟨pre ++ suf.take q, suf.drop q, _, _, _, rfl, by omega, by omega, HAPP.out, by omega, ?_, f1, f2⟩
                    first
                      | (have h4 : m - q = 0 := by omega
                         rw [h4, List.drop_of_length_le (by omega)]
                         exact Rdg.done)
                      | (have h5 := (HR3.out.cut q hqm).grown f3
                         simpa [addPlain] using h5)
                  case measure => show m - q < m; omega
                exact AllReady.nil
              exact AllReady.nil
            exact AllReady.nil
          exact AllReady.nil
        · have HCQ := Lib.hid hcq
          go_wp2
          have hb3 := HB3.out
          have hr3 := HR3.out
          have hg3 := HG3.out
          generalize W2.setCell ⟨g, 72, none⟩ (.int .u64 ((pre.length : Int) + (q : Int))) = W3 at *
          have hw3 : W3.drew.rangeAt g 0 [uv s.a, uv s.b, uv s.c, uv s.d, uv s.e, uv s.f, uv s.g, uv s.h] := st_words hb3.drew
          have hw4 : W3.drew.rangeAt g 8 (rest2.map bv) := st_rest hb3.drew
          have hs64 : (Tryd.prog.info? 45).map (·.size) = some (rest2.map bv).length := by
            rw [List.length_map, HMl.out]
            kernel_rfl
          have HT4 := Lib.hid ((HT.out.grown (grownDrew hg3) HG.out.1 HG.out.2 : Tab W3.drew))
          have hthere : ∀ W4, Below W3.drew.heap.size W3.drew W4 → W4.there g 0 8 := fun W4 hb4 => st_there (hb3.drew.later hb4)
          have hfin : ∀ W4, Below W3.drew.heap.size W3.drew W4 → St (W4.setCells g 0 (((takeB s rest2).list.map uv).toArray).toList) g (pre ++ suf.take q) ∧ w.grownBy (W4.setCells g 0 (((takeB s rest2).list.map uv).toArray).toList) (some g) ∧ W3.grownBy (W4.setCells g 0 (((takeB s rest2).list.map uv).toArray).toList) (some g) := by
            intro W4 hb4
            have hg4 := grownSetCells ((takeB s rest2).list.map uv) 0 W4 (grownBelow (grownDrew (World.grownBy.refl W3 (some g))) hb4)
            refine ⟨?_, hg3.trans hg4, hg4⟩
            refine st_mk (rest := rest2) (s := takeB s rest2) ?_ HMl.out HAP.out.symm HE.out.2.1 ?_
            · exact (hb3.drew.later hb4).setCells8
            · rw [HE.out.1, HE.out.2.2]
              rfl
          have HFIN := Lib.hid hfin
          have HTHERE := Lib.hid hthere
          clear hc2 cc fc hcq hfin hthere
          --AGAIN
          refine wp_region_any (by kernel_rfl) ?_
          try (change wpAny _ _ _ _ _ _ _ (World.drew _))
          refine wpAny_take (i := 0) (oi := ?oia20) (v := ?va20) ?hoa20 (by kernel_rfl) ?hfa20 ?hra20 ?hQa20 ?hya20 ?resta20
          case hoa20 => (simp only [List.getElem?_toArray, List.getElem?_cons_succ, List.getElem?_cons_zero]; exact rfl)
          case hfa20 => kernel_rfl
          case hra20 => kernel_rfl
          case hQa20 => exact fun _ _ _ h => h
          case hya20 =>
            refine Or.inl ⟨by rfl, ?_⟩
            intro w
            go_simp
            (try with_reducible rfl)
          try simp only [Act.put, List.setIfInBounds_toArray, List.set_cons_zero, List.set_cons_succ]
          refine wpAny_take (i := 1) (oi := ?oia21) (v := ?va21) ?hoa21 (by kernel_rfl) ?hfa21 ?hra21 ?hQa21 ?hya21 ?resta21
          case hoa21 => (simp only [List.getElem?_toArray, List.getElem?_cons_succ, List.getElem?_cons_zero]; exact rfl)
          case hfa21 => kernel_rfl
          case hra21 => kernel_rfl
          case hQa21 => exact fun _ _ _ h => h
          case hya21 =>
            refine Or.inl ⟨by rfl, ?_⟩
            intro w
            go_simp
            (try with_reducible rfl)
          try simp only [Act.put, List.setIfInBounds_toArray, List.set_cons_zero, List.set_cons_succ]
          refine wpAny_take (i := 2) (oi := ?oia22) (v := ?va22) ?hoa22 (by kernel_rfl) ?hfa22 ?hra22 ?hQa22 ?hya22 ?resta22
          case hoa22 => (simp only [List.getElem?_toArray, List.getElem?_cons_succ, List.getElem?_cons_zero]; exact rfl)
          case hfa22 => kernel_rfl
          case hra22 => kernel_rfl
          case hQa22 => exact fun _ _ _ h => h
          case hya22 =>
            refine Or.inl ⟨by rfl, ?_⟩
            intro w
            go_simp
            (try with_reducible rfl)
          try simp only [Act.put, List.setIfInBounds_toArray, List.set_cons_zero, List.set_cons_succ]
          refine wpAny_take (i := 3) (oi := ?oia23) (v := ?va23) ?hoa23 (by kernel_rfl) ?hfa23 ?hra23 ?hQa23 ?hya23 ?resta23
          case hoa23 => (simp only [List.getElem?_toArray, List.getElem?_cons_succ, List.getElem?_cons_zero]; exact rfl)
          case hfa23 => kernel_rfl
          case hra23 => kernel_rfl
          case hQa23 => exact fun _ _ _ h => h
          case hya23 =>
            refine Or.inl ⟨by rfl, ?_⟩
            intro w
            go_simp
            (try with_reducible rfl)
          try simp only [Act.put, List.setIfInBounds_toArray, List.set_cons_zero, List.set_cons_succ]
          refine wpAny_take (i := 5) (oi := ?oia24) (v := ?va24) ?hoa24 (by kernel_rfl) ?hfa24 ?hra24 ?hQa24 ?hya24 ?resta24
          case hoa24 => (simp only [List.getElem?_toArray, List.getElem?_cons_succ, List.getElem?_cons_zero]; exact rfl)
          case hfa24 => kernel_rfl
          case hra24 => kernel_rfl
          case hQa24 => exact fun _ _ _ h => h
          case hya24 =>
            refine Or.inl ⟨by rfl, ?_⟩
            intro w
            go_simp
            (try with_reducible rfl)
          try simp only [Act.put, List.setIfInBounds_toArray, List.set_cons_zero, List.set_cons_succ]
          refine wpAny_take (i := 6) (oi := ?oia25) (v := ?va25) ?hoa25 (by kernel_rfl) ?hfa25 ?hra25 ?hQa25 ?hya25 ?resta25
          case hoa25 => (simp only [List.getElem?_toArray, List.getElem?_cons_succ, List.getElem?_cons_zero]; exact rfl)
          case hfa25 => kernel_rfl
          case hra25 => kernel_rfl
          case hQa25 => exact fun _ _ _ h => h
          case hya25 =>
            refine Or.inl ⟨by rfl, ?_⟩
            intro w
            go_simp
            (try with_reducible rfl)
          try simp only [Act.put, List.setIfInBounds_toArray, List.set_cons_zero, List.set_cons_succ]
          refine wpAny_take (i := 7) (oi := ?oia26) (v := ?va26) ?hoa26 (by kernel_rfl) ?hfa26 ?hra26 ?hQa26 ?hya26 ?resta26
          case hoa26 => (simp only [List.getElem?_toArray, List.getElem?_cons_succ, List.getElem?_cons_zero]; exact rfl)
          case hfa26 => kernel_rfl
          case hra26 => kernel_rfl
          case hQa26 => exact fun _ _ _ h => h
          case hya26 =>
            refine Or.inl ⟨by rfl, ?_⟩
            intro w
            go_simp
            (try with_reducible rfl)
          try simp only [Act.put, List.setIfInBounds_toArray, List.set_cons_zero, List.set_cons_succ]
          refine wpAny_ready (rs := [4, 8]) (by kernel_rfl) (by simp) ?_
          refine AllReady.cons (o := ?oa27) ?hoa27 (fun K hK => ?ka27) ?ma27
          case hoa27 => (simp only [List.getElem?_toArray, List.getElem?_cons_succ, List.getElem?_cons_zero]; exact rfl)
          case ka27 =>
            refine any_load_mid (by rfl) 71 (.tmp 43) rfl g 0 rfl _ _ hw3 Tryd.underlying71 rfl (by kernel_rfl) ?_
            refine hK _ _ ?_
            clear hK K
            try simp only [Act.put, List.setIfInBounds_toArray, List.set_cons_zero, List.set_cons_succ]
            refine wpAny_ready (rs := [8]) (by kernel_rfl) (by simp) ?_
            refine AllReady.cons (o := ?oa28) ?hoa28 (fun K hK => ?ka28) ?ma28
            case hoa28 => (simp only [List.getElem?_toArray, List.getElem?_cons_succ, List.getElem?_cons_zero]; exact rfl)
            case ka28 =>
              refine any_load_mid (by rfl) 45 (.tmp 47) rfl g 8 rfl _ _ hw4 Tryd.underlying45 rfl hs64 ?_
              refine hK _ _ ?_
              clear hK K
              try simp only [Act.put, List.setIfInBounds_toArray, List.set_cons_zero, List.set_cons_succ]
              refine wpAny_ready (rs := [9]) (by kernel_rfl) (by simp) ?_
              refine AllReady.cons (o := ?oa29) ?hoa29 (fun K hK => ?ka29) ?ma29
              case hoa29 => (simp only [List.getElem?_toArray, List.getElem?_cons_succ, List.getElem?_cons_zero]; exact rfl)
              case ka29 =>
                go_simp
                refine (take_any s rest2 _ HMl.out HT4.out).mono ?_
                rintro e W4 ⟨rfl, hb4⟩
                (try dsimp only)
                refine hK _ _ ?_
                clear hK K
                try simp only [Act.put, List.setIfInBounds_toArray, List.set_cons_zero, List.set_cons_succ]
                refine wpAny_take (i := 10) (oi := ?oia30) (v := ?va30) ?hoa30 (by kernel_rfl) ?hfa30 ?hra30 ?hQa30 ?hya30 ?resta30
                case hoa30 => (simp only [List.getElem?_toArray, List.getElem?_cons_succ, List.getElem?_cons_zero]; exact rfl)
                case hfa30 => kernel_rfl
                case hra30 => kernel_rfl
                case hQa30 => exact fun _ _ _ h => h
                case hya30 =>
                  refine Or.inl ⟨by rfl, ?_⟩
                  intro w
                  go_simp
                  (try with_reducible rfl)
                try simp only [Act.put, List.setIfInBounds_toArray, List.set_cons_zero, List.set_cons_succ]
                refine wpAny_take (i := 11) (oi := ?oia31) (v := ?va31) ?hoa31 (by kernel_rfl) ?hfa31 ?hra31 ?hQa31 ?hya31 ?resta31
                case hoa31 => (simp only [List.getElem?_toArray, List.getElem?_cons_succ, List.getElem?_cons_zero]; exact rfl)
                case hfa31 => kernel_rfl
                case hra31 => kernel_rfl
                case hQa31 => exact fun _ _ _ h => h
                case hya31 =>
                  refine Or.inl ⟨by rfl, ?_⟩
                  intro w
                  go_simp
                  (try with_reducible rfl)
                try simp only [Act.put, List.setIfInBounds_toArray, List.set_cons_zero, List.set_cons_succ]
                refine wpAny_ready (rs := [12]) (by kernel_rfl) (by simp) ?_
                refine AllReady.cons (o := ?oa32) ?hoa32 (fun K hK => ?ka32) ?ma32
                case hoa32 => (simp only [List.getElem?_toArray, List.getElem?_cons_succ, List.getElem?_cons_zero]; exact rfl)
                case ka32 =>
                  refine any_store_mid (by rfl) 71 (.tmp 51) (.tmp 49) rfl g 0 (((takeB s rest2).list.map uv).toArray) rfl rfl (HTHERE.out W4 hb4) (by kernel_rfl) (by simp [W8.list, uv, Value.oneCell']) ?_
                  refine hK _ _ ?_
                  clear hK K
                  try simp only [Act.put, List.setIfInBounds_toArray, List.set_cons_zero, List.set_cons_succ]
                  refine wpAny_done (by kernel_rfl) ?_ _
                  go_wp2
                  go_roundw
                  case rel =>
                    obtain ⟨f1, f2, f3⟩ := HFIN.out W4 hb4
                    have h1 := HSL.out
                    have h2 := HCQ.out
                    have h3 := HAP.out
                    have e : m = q ∨ m ≠ q := Decidable.em _
                    refine ⟨pre ++ suf.take q, suf.drop q, _, _, _, rfl, by omega, by omega, HAPP.out, by omega, ?_, f1, f2⟩
                    first
                      | (have h4 : m - q = 0 := by omega
                         rw [h4, List.drop_of_length_le (by omega)]
                         exact Rdg.done)
                      | (have h5 := (HR3.out.cut q hqm).grown f3
                         simpa [addPlain] using h5)
                  case measure => show m - q < m; omega
                exact AllReady.nil
              exact AllReady.nil
            exact AllReady.nil
          refine AllReady.cons (o := ?oa33) ?hoa33 (fun K hK => ?ka33) ?ma33
          case hoa33 => (simp only [List.getElem?_toArray, List.getElem?_cons_succ, List.getElem?_cons_zero]; exact rfl)
          case ka33 =>
            refine any_load_mid (by rfl) 45 (.tmp 47) rfl g 8 rfl _ _ hw4 Tryd.underlying45 rfl hs64 ?_
            refine hK _ _ ?_
            clear hK K
            try simp only [Act.put, List.setIfInBounds_toArray, List.set_cons_zero, List.set_cons_succ]
            refine wpAny_ready (rs := [4]) (by kernel_rfl) (by simp) ?_
            refine AllReady.cons (o := ?oa34) ?hoa34 (fun K hK => ?ka34) ?ma34
            case hoa34 => (simp only [List.getElem?_toArray, List.getElem?_cons_succ, List.getElem?_cons_zero]; exact rfl)
            case ka34 =>
              refine any_load_mid (by rfl) 71 (.tmp 43) rfl g 0 rfl _ _ hw3 Tryd.underlying71 rfl (by kernel_rfl) ?_
              refine hK _ _ ?_
              clear hK K
              try simp only [Act.put, List.setIfInBounds_toArray, List.set_cons_zero, List.set_cons_succ]
              refine wpAny_ready (rs := [9]) (by kernel_rfl) (by simp) ?_
              refine AllReady.cons (o := ?oa35) ?hoa35 (fun K hK => ?ka35) ?ma35
              case hoa35 => (simp only [List.getElem?_toArray, List.getElem?_cons_succ, List.getElem?_cons_zero]; exact rfl)
              case ka35 =>
                go_simp
                refine (take_any s rest2 _ HMl.out HT4.out).mono ?_
                rintro e W4 ⟨rfl, hb4⟩
                (try dsimp only)
                refine hK _ _ ?_
                clear hK K
                try simp only [Act.put, List.setIfInBounds_toArray, List.set_cons_zero, List.set_cons_succ]
                refine wpAny_take (i := 10) (oi := ?oia36) (v := ?va36) ?hoa36 (by kernel_rfl) ?hfa36 ?hra36 ?hQa36 ?hya36 ?resta36
                case hoa36 => (simp only [List.getElem?_toArray, List.getElem?_cons_succ, List.getElem?_cons_zero]; exact rfl)
                case hfa36 => kernel_rfl
                case hra36 => kernel_rfl
                case hQa36 => exact fun _ _ _ h => h
                case hya36 =>
                  refine Or.inl ⟨by rfl, ?_⟩
                  intro w
                  go_simp
                  (try with_reducible rfl)
                try simp only [Act.put, List.setIfInBounds_toArray, List.set_cons_zero, List.set_cons_succ]
                refine wpAny_take (i := 11) (oi := ?oia37) (v := ?va37) ?hoa37 (by kernel_rfl) ?hfa37 ?hra37 ?hQa37 ?hya37 ?resta37
                case hoa37 => (simp only [List.getElem?_toArray, List.getElem?_cons_succ, List.getElem?_cons_zero]; exact rfl)
                case hfa37 => kernel_rfl
                case hra37 => kernel_rfl
                case hQa37 => exact fun _ _ _ h => h
                case hya37 =>
                  refine Or.inl ⟨by rfl, ?_⟩
                  intro w
                  go_simp
                  (try with_reducible rfl)
                try simp only [Act.put, List.setIfInBounds_toArray, List.set_cons_zero, List.set_cons_succ]
                refine wpAny_ready (rs := [12]) (by kernel_rfl) (by simp) ?_
                refine AllReady.cons (o := ?oa38) ?hoa38 (fun K hK => ?ka38) ?ma38
                case hoa38 => (simp only [List.getElem?_toArray, List.getElem?_cons_succ, List.getElem?_cons_zero]; exact rfl)
                case ka38 =>
                  refine any_store_mid (by rfl) 71 (.tmp 51) (.tmp 49) rfl g 0 (((takeB s rest2).list.map uv).toArray) rfl rfl (HTHERE.out W4 hb4) (by kernel_rfl) (by simp [W8.list, uv, Value.oneCell']) ?_
                  refine hK _ _ ?_
                  clear hK K
                  try simp only [Act.put, List.setIfInBounds_toArray, List.set_cons_zero, List.set_cons_succ]
                  refine wpAny_done (by kernel_rfl) ?_ _
                  go_wp2
                  go_roundw
                  case rel =>
                    obtain ⟨f1, f2, f3⟩ := HFIN.out W4 hb4
                    have h1 := HSL.out
                    have h2 := HCQ.out
                    have h3 := HAP.out
                    have e : m = q ∨ m ≠ q := Decidable.em _
                    refine ⟨pre ++ suf.take q, suf.drop q, _, _, _, rfl, by omega, by omega, HAPP.out, by omega, ?_, f1, f2⟩
                    first
                      | (have h4 : m - q = 0 := by omega
                         rw [h4, List.drop_of_length_le (by omega)]
                         exact Rdg.done)
                      | (have h5 := (HR3.out.cut q hqm).grown f3
                         simpa [addPlain] using h5)
                  case measure => show m - q < m; omega
                exact AllReady.nil
              exact AllReady.nil
            exact AllReady.nil
          exact AllReady.nil
      · have hz1 : ((k1 : Int) == 0) = false := by simp [hz]
        have hk64 : k0 + q < 64 := by have := HK1.out; have := HK0.out; omega
        have HE := Lib.hid (HMa.out hk64)
        have hqm2 : q = m := by have := HOR.out; omega
        have HQM := Lib.hid hqm2
        clear hz HMa HMb hqm2
        go_wp2
        go_roundw
        case rel =>
          refine ⟨pre ++ suf.take q, suf.drop q, _, m - q, c - q, rfl, by omega, by omega, HAPP.out, by have := HAP.out; omega, ?_, st_mk HB3.out HMl.out HAP.out.symm HE.out.2 HE.out.1, HG3.out⟩
          have h := HQM.out
          have e : suf.drop q = [] := List.drop_of_length_le (by have := HSL.out; omega)
          rw [e, show m - q = 0 from by omega]
          exact Rdg.done
        case measure => show m - q < m; omega
end Go.Proofs.YtgkfebbifgkkeaaDoor
