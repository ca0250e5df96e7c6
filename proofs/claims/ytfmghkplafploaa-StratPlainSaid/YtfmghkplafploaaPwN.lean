/- Texts, packed: GrJ -/
import Derived.Test.YtfmghkplafploaaPwM
set_option linter.unusedVariables false
set_option linter.unusedSimpArgs false
namespace Go.Proofs.Ytfmghkplafploaa
open Go Go.RowKit

theorem wpAny_meet22 {β γ : Type} {P : Program} {md : Region.Mode} {ops : Array Oper} {Q : Exit → Act → World → Prop} {fuel : Nat} {listed : Array Bool} {a : Act} {w : World} {b : β → γ → Act} (S : β → γ → World → Prop) (hc : ∀ x y V, S x y V → Q .normal (b x y) V)
    (h : (∀ x y V, S x y V → Q .normal (b x y) V) → wpAny P md ops Q fuel listed a w) : wpAny P md ops Q fuel listed a w := h hc
theorem anyd_make {P : Program} {ops : Array Oper} {E : Prop} {o : Oper} {a : Act} {K : Act → World → Prop} {Q : Exit → Act → World → Prop} {w : World} (hwant : Region.wanted o (yielded ops a.tmps) = true)
    (l c : Operand) (t : TypeId) (hop : o.op = Op.makeSlice t l c)
    (e : TypeId) (i : TypeInfo) (z : Value) (h1 : P.underlying t = some (.slice e)) (h2 : P.info? e = some i) (h3 : i.zero = some z) (h4 : i.size = 1) (hz : z.cells = #[z])
    (n : Nat) (hl : a.eval l = ni n) (hc : a.eval c = ni n) (b2 : i.bytes * n ≤ 281474976710656) (b3 : n ≤ maxLen)
    (hK : ∀ g w', g = w.heap.size → Bk w' g e (List.replicate n z) → Below w.heap.size w w' → K (a.put o.dst (.slice (some ⟨g, 0, none⟩) n n)) w') :
    if Region.wanted o (yielded ops a.tmps) = true then Oper.wp P o a w K Q else E := by
  rw [if_pos hwant]
  have hb' : (i.bytes : Int) * (n : Int) ≤ 281474976710656 := by
    have h : ((i.bytes * n : Nat) : Int) ≤ 281474976710656 := by omega
    rwa [Int.natCast_mul] at h
  have hr := run_make (P := P) w t e i z h1 h2 h3 .i64 .i64 n n (by omega) (by omega) hb' (by simp only [maxLen] at b3; omega)
  simp only [Int.toNat_natCast, h4, Nat.mul_one, hz] at hr
  have hcs : madeCells #[z] n = (List.replicate n z).toArray := by
    rw [← toList_madeCells_one]
  rw [hcs] at hr
  unfold Oper.wp
  simp [execOp, hop, hl, hc, hr, Result.andThen]
  have := hK w.heap.size (w.alloc (.cells (List.replicate n z).toArray e)) rfl (Bk.new w e _) ((Below.refl _ _).alloc (Nat.le_refl _) _)
  simp only [List.toArray_replicate] at this
  exact this

/-! ### Rows in a row -/
/-- Rows of numbers of the call's own, from base on, whose slices lie in block g. -/
structure RR (wr : World) (base g k : Nat) (fA : Nat → Option Addr) (fc : Nat → Nat) (lv : List Value) (L : Nat → List Nat) : Prop where
  lt : g < base
  blk : Bk wr g 43 lv
  len : lv.length = k
  lead : ∀ u, u < k → lv[u]? = some (.slice (fA u) (L u).length (fc u)) ∧ OwI wr base (fA u) (fc u) (L u).length (L u)
  ap : ∀ u v x, u < k → v < k → u ≠ v → blockOf (fA u) = some x → blockOf (fA v) ≠ some x
section
variable {wr Z : World} {base g k : Nat} {fA : Nat → Option Addr} {fc : Nat → Nat} {lv : List Value} {L : Nat → List Nat}
theorem RR.start {wr : World} {base g k : Nat} (hg : g < base) (h : Bk wr g 43 (List.replicate k (.slice none 0 0))) : RR wr base g k (fun _ => none) (fun _ => 0) (List.replicate k (.slice none 0 0)) (fun _ => []) :=
  ⟨hg, h, by simp, fun u hu => ⟨by rw [List.getElem?_replicate, if_pos hu]; rfl, OwI.nil _ _⟩, fun u v x _ _ _ hx => absurd hx (by simp [blockOf])⟩
theorem RR.keep {G : Nat → Prop} (h : RR wr base g k fA fc lv L) (T : Turn G wr Z) (h1 : ∀ x, G x → x ≠ g ∧ x < base ∨ wr.heap.size ≤ x) : RR Z base g k fA fc lv L := by
  refine ⟨h.lt, T.bk h.blk fun e => ?_, h.len, fun u hu => ⟨(h.lead u hu).1, turn_own T (h.lead u hu).2 fun x hx e => ?_⟩, h.ap⟩
  · rcases h1 _ e with q | q
    · exact q.1 rfl
    · have := h.blk.lt; omega
  · have h2 := own_low (h.lead u hu).2 hx
    rcases h1 _ e with q | q <;> omega
theorem RR.step (h : RR wr base g k fA fc lv L) {a b : Nat} (ha : a < k) {A3 : Option Addr} {c3 : Nat}
    (T : Turn (fun x => blockOf (fA a) = some x) wr Z) (ho : OwI Z base A3 c3 ((L a).length + 1) (L a ++ [b])) (hf : blockOf A3 = blockOf (fA a) ∨ ∃ x, blockOf A3 = some x ∧ wr.heap.size ≤ x) :
    RR (Z.setCell ⟨g, a, none⟩ (.slice A3 ((L a).length + 1) c3)) base g k (upd fA a A3) (upd fc a c3) (lv.set a (.slice A3 ((L a).length + 1) c3)) (upd L a (L a ++ [b])) := by
  have h1 := (h.lead a ha).2
  have hlt := h.lt
  have hg : ∀ x, blockOf (fA a) = some x → base ≤ x ∧ x < wr.heap.size := fun x hx => own_low h1 hx
  obtain ⟨Y, hY⟩ : ∃ Y, Y = Z.setCell ⟨g, a, none⟩ (.slice A3 ((L a).length + 1) c3) := ⟨_, rfl⟩
  have TY : Turn (fun x => x = g) Z Y := by rw [hY]; exact (Turn.refl (fun x => x = g) Z).setCell (p := ⟨g, a, none⟩) (fun _ => rfl) _
  have TT : Turn (fun x => x = g ∨ blockOf (fA a) = some x) wr Y := (T.mono fun x _ e => .inr e).then_ TY fun x _ e => .inl e
  rw [← hY]
  refine ⟨hlt, ?_, by rw [List.length_set]; exact h.len, ?_, ?_⟩
  · rw [hY]
    exact (T.bk h.blk fun e => by have := hg g e; omega).set_ _ _
  · intro u hu
    by_cases e : u = a
    · subst e
      rw [upd_same, upd_same, upd_same, List.length_append, List.length_singleton]
      exact ⟨List.getElem?_set_self (by rw [h.len]; exact hu), turn_own TY ho fun x hx e => by have := (own_low ho hx).1; omega⟩
    · rw [upd_other e, upd_other e, upd_other e]
      obtain ⟨g1, g2⟩ := h.lead u hu
      refine ⟨(List.getElem?_set_ne (fun x => e x.symm)).trans g1, turn_own TT g2 fun x hx q => ?_⟩
      rcases q with q | q
      · have := (own_low g2 hx).1; omega
      · exact h.ap u a x hu ha e hx q
  · intro u v x hu hv hne hx
    by_cases e1 : u = a
    · subst e1
      rw [upd_same] at hx
      rw [upd_other (fun e => hne e.symm)]
      intro q
      rcases hf with f | ⟨j, f, hj⟩
      · exact h.ap u v x hu hv hne (f ▸ hx) q
      · rw [f] at hx
        have := Option.some.inj hx
        have := (own_low (h.lead v hv).2 q).2
        omega
    · rw [upd_other e1] at hx
      by_cases e2 : v = a
      · subst e2
        rw [upd_same]
        intro q
        rcases hf with f | ⟨j, f, hj⟩
        · exact h.ap u v x hu hv hne hx (f ▸ q)
        · rw [f] at q
          have := Option.some.inj q
          have := (own_low (h.lead u hu).2 hx).2
          omega
      · rw [upd_other e2]
        exact h.ap u v x hu hv hne hx
end
/-! ### One edge more -/
theorem out_snoc (Q : List (List Nat)) (E : List (Nat × Nat)) (a b i : Nat) : out Q (E ++ [(a, b)]) [] i = out Q E [] i + if ofQ Q a = i ∧ ofQ Q a ≠ ofQ Q b then 1 else 0 := by
  unfold out
  rw [List.countP_append]
  congr 1
  by_cases h : ofQ Q a = i ∧ ofQ Q a ≠ ofQ Q b
  · rw [if_pos h, List.countP_cons_of_pos (by simpa using h)]; rfl
  · rw [if_neg h, List.countP_cons_of_neg (by simpa using h)]; rfl
theorem into_snoc (Q : List (List Nat)) (E : List (Nat × Nat)) (a b j : Nat) : into Q (E ++ [(a, b)]) j = if ofQ Q b = j ∧ ofQ Q a ≠ ofQ Q b then into Q E j ++ [ofQ Q a] else into Q E j := by
  unfold into
  rw [List.filter_append, List.map_append]
  by_cases h : ofQ Q b = j ∧ ofQ Q a ≠ ofQ Q b
  · rw [if_pos h, List.filter_cons_of_pos (by simpa using h)]; rfl
  · rw [if_neg h, List.filter_cons_of_neg (by simpa using h)]; simp
theorem out_len (Q : List (List Nat)) (E : List (Nat × Nat)) (D : List Nat) (i : Nat) : out Q E D i ≤ E.length := List.countP_le_length
theorem into_len (Q : List (List Nat)) (E : List (Nat × Nat)) (j : Nat) : (into Q E j).length ≤ E.length := by
  unfold into
  rw [List.length_map]
  exact List.length_filter_le _ _
/-- The numbers of a function, in a row. -/
def fnC (k : Nat) (f : Nat → Nat) : List Value := (List.range k).map fun i => ni (f i)
theorem fnC_len (k : Nat) (f : Nat → Nat) : (fnC k f).length = k := by simp [fnC]
theorem fnC_at {k : Nat} (f : Nat → Nat) {i : Nat} (hi : i < k) : (fnC k f)[i]? = some (ni (f i)) := by
  unfold fnC
  rw [List.getElem?_map, List.getElem?_range hi]; rfl
theorem fnC_set {k : Nat} (f : Nat → Nat) (i x : Nat) : (fnC k f).set i (ni x) = fnC k (upd f i x) := by
  refine List.ext_getElem? fun j => ?_
  rw [List.getElem?_set, fnC_len]
  by_cases hj : j < k
  · rw [fnC_at (upd f i x) hj, fnC_at f hj]
    by_cases e : i = j
    · subst e
      rw [if_pos rfl, if_pos hj, upd_same]
    · rw [if_neg e, upd_other (fun q => e q.symm)]
  · have h1 : (fnC k f)[j]? = none := List.getElem?_eq_none (by rw [fnC_len]; omega)
    have h2 : (fnC k (upd f i x))[j]? = none := List.getElem?_eq_none (by rw [fnC_len]; omega)
    rw [h1, h2]
    by_cases e : i = j
    · subst e; rw [if_pos rfl, if_neg hj]
    · rw [if_neg e]
theorem fnC_zero (k : Nat) : List.replicate k (Value.int .i64 0) = fnC k fun _ => 0 := by
  refine List.ext_getElem? fun j => ?_
  by_cases hj : j < k
  · rw [fnC_at _ hj, List.getElem?_replicate, if_pos hj]; rfl
  · rw [List.getElem?_eq_none (by simp; omega), List.getElem?_eq_none (by rw [fnC_len]; omega)]
set_option maxRecDepth 100000 in
set_option maxHeartbeats 4000000 in
theorem between_any (w : World) (n : Nat) (E : List (Nat × Nat)) (Ae : Option Addr) (ne ce : Nat) (hr : RdE w w.heap.size Ae ne (ei E)) (hE : In n E) (hn : n ≤ 4096) (hne : ne ≤ 16384)
    (A : Option Addr) (k c : Nat) (P : List (List Nat)) (R : List (Nat × Nat)) (hp : RdP w w.heap.size A P R) (hI : IsParts n E P) (hk : k = P.length) :
    Calls Try.prog 35 #[ni n, .slice Ae ne ce, .slice A k c] w fun e w' => ∃ gW gF fA fc lv, e = .returned (.tuple #[.slice (some ⟨gW, 0, none⟩) k k, .slice (some ⟨gF, 0, none⟩) k k]) ∧
      Bk w' gW 3 (fnC k fun i => out P E [] i) ∧ w.heap.size ≤ gW ∧ w.heap.size ≤ gF ∧ gW ≠ gF ∧ (∃ base, gW < base ∧ RR w' base gF k fA fc lv (fun j => into P E j)) ∧ Below w.heap.size w w' := by
  have hlen : E.length = ne := by rw [← ei_len]; exact hr.len
  have hkn : k ≤ n := by rw [hk]; exact hI.len_le
  have HLEN := Lib.hid hlen
  have HR := Lib.hid hr
  have HE := Lib.hid hE
  have HP := Lib.hid hp
  have HI := Lib.hid hI
  have HKP := Lib.hid hk
  clear hlen hr hE hp hI hk
  obtain ⟨i0, hi0, hz0, hz1, hz2⟩ := info_parts sliInfo
  obtain ⟨i1, hi1, hy0, hy1, hy2⟩ := info_parts intInfo
  have hb2 : i0.bytes * k ≤ 281474976710656 := by rw [hz2]; omega
  have hb3 : i1.bytes * k ≤ 281474976710656 := by rw [hy2]; omega
  have hb4 : i1.bytes * n ≤ 281474976710656 := by rw [hy2]; omega
  have hmx : n ≤ maxLen := by simp only [maxLen]; omega
  have hmk : k ≤ maxLen := by simp only [maxLen]; omega
  go_enter Try.func35, Try.ntmps35
  go_upto_region 2 with (first
    | (refine wpList_make_bk _ rfl (.tmp 17) (.tmp 17) 43 rfl 3 i1 _ Try.underlying43 hi1 hy0 hy1 rfl .i64 .i64 (n : Int) (n : Int) n n rfl rfl rfl rfl (Nat.le_refl _) hb4 hmx ?_
       intro W1 hb1 hbw1 hs1
       have HB1 := Lib.hid hb1
       have HW1 := Lib.hid hbw1
       have HS1 := Lib.hid hs1
       clear hb1 hbw1 hs1)
    | fail)
  obtain ⟨gO, hgO⟩ : ∃ gO, gO = w.heap.size := ⟨_, rfl⟩
  rw [← hgO]
  have HGO := Lib.hid hgO
  have HO1 := Lib.hid (show Bk W1 gO 3 (fnC n fun _ => 0) by rw [hgO, ← fnC_zero]; exact HB1.out)
  clear hgO
  repeat (first | go_skip | go_guarded | go_step)
  go_loopw [21] (fun q wr => ∃ (i : Nat) (f : Nat → Nat), i ≤ k ∧ q = .int .i64 (i : Int) ∧ Bk wr gO 3 (fnC n f) ∧ (∀ v, v < n → ofQ P v < i → f v = ofQ P v) ∧ Turn (fun x => x = gO) W1 wr) (fun q _ => k - (intOf q).toNat)
  case atStart => exact ⟨0, _, by omega, rfl, HO1.out, fun v _ h => absurd h (Nat.not_lt_zero _), Turn.refl _ _⟩
  case round =>
    rename World => wr
    obtain ⟨i, f, hi, rfl, hbf, hff, hT⟩ := hrel
    have HBF := Lib.hid hbf
    have HFF := Lib.hid hff
    have HT := Lib.hid hT
    have HBW := Lib.hid (show Below w.heap.size w wr from HW1.out.trans (hT.below (B := w.heap.size) (fun x _ e => by have := HGO.out; omega) HW1.out.size))
    clear hbf hff hT
    by_cases hlt : i < k
    · have hii : (i : Int) < (k : Int) := by omega
      obtain ⟨bp, op, r, p, hA, hbp, hri, hpi, hc, hrlt, hrc, hcell⟩ := HP.out.at_ (by rw [← HKP.out]; exact hlt)
      subst hA
      have c1 := (HBW.out.cell (p := ⟨bp, op + i, none⟩) hbp).trans hc
      have HPI := Lib.hid hpi
      have HCL := Lib.hid (show ∀ j v, p[j]? = some v → w.cell? ⟨r.1, j, none⟩ = some (ni v) from hcell)
      have HRL := Lib.hid hrlt
      obtain ⟨pl, hpl⟩ : ∃ pl, pl = p.length := ⟨_, rfl⟩
      rw [← hpl] at c1
      have HPL := Lib.hid hpl
      have hpl2 : pl ≤ 4096 := by
        rw [hpl]
        obtain ⟨v, hv, e⟩ := HI.out.cls p (List.mem_of_getElem? hpi)
        rw [e]
        unfold part
        have := List.length_filter_le (fun u => @decide (Both E v u) (Classical.propDecidable _)) (List.range n)
        rw [List.length_range] at this
        exact Nat.le_trans this hn
      obtain ⟨g1, hg1⟩ : ∃ g1, g1 = r.1 := ⟨_, rfl⟩
      rw [← hg1] at c1
      have HG1 := Lib.hid hg1
      clear hri hpi hc hrlt hrc hcell hpl hg1
      repeat (first | go_skip | go_guarded | go_step)
      go_loopw [28] (fun q w2 => ∃ (j : Nat) (f2 : Nat → Nat), j ≤ pl ∧ q = .int .i64 (j : Int) ∧ Bk w2 gO 3 (fnC n f2) ∧ (∀ v, v < n → ofQ P v < i → f2 v = ofQ P v) ∧ (∀ v, v ∈ p.take j → f2 v = i) ∧ Turn (fun x => x = gO) W1 w2) (fun q _ => pl - (intOf q).toNat)
      case atStart => exact ⟨0, f, by omega, rfl, HBF.out, HFF.out, fun v hv => by simp at hv, HT.out⟩
      case round =>
        rename World => w2
        obtain ⟨j, f2, hj, rfl, hbf2, hff2, hpp, hT2⟩ := hrel
        have HBF2 := Lib.hid hbf2
        have HFF2 := Lib.hid hff2
        have HPP := Lib.hid hpp
        have HT2 := Lib.hid hT2
        clear hbf2 hff2 hpp hT2
        by_cases hltj : j < pl
        · have hjj : (j : Int) < (pl : Int) := by omega
          obtain ⟨v, hv⟩ : ∃ v, p[j]? = some v := ⟨_, List.getElem?_eq_getElem (by rw [← HPL.out]; exact hltj)⟩
          obtain ⟨hvn, hvi⟩ := HI.out.of_eq HPI.out (List.mem_of_getElem? hv)
          have cv : w2.cell? ⟨g1, j, none⟩ = some (ni v) := by
            rw [HG1.out]
            exact ((HW1.out.trans (HT2.out.below (B := w.heap.size) (fun x _ e => by have := HGO.out; omega) HW1.out.size)).cell (p := ⟨r.1, j, none⟩) HRL.out).trans (HCL.out j v hv)
          have co : w2.cell? ⟨gO, v, none⟩ = some (ni (f2 v)) := (HBF2.out.cell v).trans (fnC_at f2 hvn)
          have fo := HBF2.out.frozen v
          have hvi2 : (v : Int) < (n : Int) := by omega
          have hv0 : (0 : Int) ≤ (v : Int) := by omega
          have HVV := Lib.hid hv
          have HVI := Lib.hid hvi
          clear hv hvi
          repeat (first | go_skip | go_guarded | go_step)
          have hset := HBF2.out.set_ v (ni i)
          rw [fnC_set] at hset
          have hT3 := HT2.out.setCell (p := ⟨gO, v, none⟩) (fun _ => rfl) (ni i)
          go_roundw
          case rel => exact ⟨j + 1, upd f2 v i, by omega, by go_num, hset, fun u hu hui => by
            by_cases e : u = v
            · subst e; have := HVI.out; omega
            · rw [upd_other e]; exact HFF2.out u hu hui, fun u hu => by
            by_cases e : u = v
            · subst e; rw [upd_same]
            · rw [upd_other e]
              refine HPP.out u ?_
              rw [List.take_add_one, HVV.out] at hu
              simp only [Option.toList_some, List.mem_append, List.mem_singleton] at hu
              exact hu.resolve_right e, hT3⟩
          case measure => simp [intOf]; omega
        · obtain rfl : j = pl := by omega
          have hjj : ¬ (j : Int) < (j : Int) := by omega
          repeat (first | go_skip | go_guarded | go_step)
          go_roundw
          case rel => exact ⟨i + 1, f2, by omega, by go_num, HBF2.out, fun v hv hvi => by
            by_cases e : ofQ P v = i
            · have : v ∈ p := by
                obtain ⟨q, q1, q2⟩ := HI.out.of_mem hv
                rw [e, HPI.out] at q1
                cases q1
                exact q2
              rw [e]
              exact HPP.out v (by rw [HPL.out, List.take_length]; exact this)
            · exact HFF2.out v hv (by omega), HT2.out⟩
          case measure => simp [intOf]; omega
    · obtain rfl : i = k := by omega
      have hii : ¬ (i : Int) < (i : Int) := by omega
      have HOF := Lib.hid (show Bk wr gO 3 (fnC n (ofQ P)) by
        have h := HBF.out
        have e : fnC n f = fnC n (ofQ P) := List.map_congr_left fun v hv => by
          have hv' := List.mem_range.1 hv
          rw [HFF.out v hv' (by rw [HKP.out]; exact HI.out.of_lt hv')]
        rw [← e]; exact h)
      clear HBF HFF
      go_upto_region 11 with (fail)
      refine wp_region_any (by kernel_rfl) ?_
      try (change wpAny _ _ _ _ _ _ _ (World.drew _))
      refine wpAny_meet22 (β := Nat) (γ := Nat) (b := ?aa) (fun gW gF V => Below wr.heap.size wr V ∧ wr.heap.size ≤ gW ∧ wr.heap.size ≤ gF ∧ gW ≠ gF ∧ Bk V gW 3 (fnC i fun _ => 0) ∧ Bk V gF 43 (List.replicate i (.slice none 0 0))) ?cc ?rr
      case rr =>
        intro hEnd
        have hf0 : Below wr.heap.size wr wr.drew := belowDrews (Below.refl _ wr) 1
        refine wpAny_take (i := 0) (oi := ?oid1) (v := ?vd1) ?hod1 (by kernel_rfl) ?hfd1 ?hrd1 ?hQd1 ?hyd1 ?restd1
        case hod1 => (simp only [List.getElem?_toArray, List.getElem?_cons_succ, List.getElem?_cons_zero]; exact rfl)
        case hfd1 => kernel_rfl
        case hrd1 => kernel_rfl
        case hQd1 => exact fun _ _ _ h => h
        case hyd1 =>
          refine Or.inl ⟨by rfl, ?_⟩
          intro w
          go_simp
          (try with_reducible rfl)
        try simp only [Act.put, List.setIfInBounds_toArray, List.set_cons_zero, List.set_cons_succ]
        refine wpAny_take (i := 1) (oi := ?oid2) (v := ?vd2) ?hod2 (by kernel_rfl) ?hfd2 ?hrd2 ?hQd2 ?hyd2 ?restd2
        case hod2 => (simp only [List.getElem?_toArray, List.getElem?_cons_succ, List.getElem?_cons_zero]; exact rfl)
        case hfd2 => kernel_rfl
        case hrd2 => kernel_rfl
        case hQd2 => exact fun _ _ _ h => h
        case hyd2 =>
          refine Or.inl ⟨by rfl, ?_⟩
          intro w
          go_simp
          (try with_reducible rfl)
        try simp only [Act.put, List.setIfInBounds_toArray, List.set_cons_zero, List.set_cons_succ]
        refine wpAny_take (i := 3) (oi := ?oid3) (v := ?vd3) ?hod3 (by kernel_rfl) ?hfd3 ?hrd3 ?hQd3 ?hyd3 ?restd3
        case hod3 => (simp only [List.getElem?_toArray, List.getElem?_cons_succ, List.getElem?_cons_zero]; exact rfl)
        case hfd3 => kernel_rfl
        case hrd3 => kernel_rfl
        case hQd3 => exact fun _ _ _ h => h
        case hyd3 =>
          refine Or.inl ⟨by rfl, ?_⟩
          intro w
          go_simp
          (try with_reducible rfl)
        try simp only [Act.put, List.setIfInBounds_toArray, List.set_cons_zero, List.set_cons_succ]
        refine wpAny_take (i := 4) (oi := ?oid4) (v := ?vd4) ?hod4 (by kernel_rfl) ?hfd4 ?hrd4 ?hQd4 ?hyd4 ?restd4
        case hod4 => (simp only [List.getElem?_toArray, List.getElem?_cons_succ, List.getElem?_cons_zero]; exact rfl)
        case hfd4 => kernel_rfl
        case hrd4 => kernel_rfl
        case hQd4 => exact fun _ _ _ h => h
        case hyd4 =>
          refine Or.inl ⟨by rfl, ?_⟩
          intro w
          go_simp
          (try with_reducible rfl)
        try simp only [Act.put, List.setIfInBounds_toArray, List.set_cons_zero, List.set_cons_succ]
        refine wpAny_ready (rs := [2, 5]) (by kernel_rfl) (by simp) ?_
        refine AllReady.cons (o := ?od5) ?hod5 (fun K hK => ?kd5) ?md5
        case hod5 => (simp only [List.getElem?_toArray, List.getElem?_cons_succ, List.getElem?_cons_zero]; exact rfl)
        case kd5 =>
          refine anyd_make (by rfl) (.tmp 39) (.tmp 39) 43 rfl 3 i1 _ Try.underlying43 hi1 hy0 hy1 rfl i (by rfl) (by rfl) hb3 hmk ?_
          intro gW Vd5 hgW hW hbed5
          rw [fnC_zero] at hW
          have HGW := Lib.hid hgW
          clear hgW
          have hB1 : Below wr.heap.size wr Vd5 := hf0.trans hbed5
          have sz1 := hf0.size
          have hW0 := hW
          refine hK _ _ ?_
          clear hK K
          try simp only [Act.put, List.setIfInBounds_toArray, List.set_cons_zero, List.set_cons_succ]
          refine wpAny_take (i := 6) (oi := ?oid6) (v := ?vd6) ?hod6 (by kernel_rfl) ?hfd6 ?hrd6 ?hQd6 ?hyd6 ?restd6
          case hod6 => (simp only [List.getElem?_toArray, List.getElem?_cons_succ, List.getElem?_cons_zero]; exact rfl)
          case hfd6 => kernel_rfl
          case hrd6 => kernel_rfl
          case hQd6 => exact fun _ _ _ h => h
          case hyd6 =>
            refine Or.inl ⟨by rfl, ?_⟩
            intro w
            go_simp
            (try with_reducible rfl)
          try simp only [Act.put, List.setIfInBounds_toArray, List.set_cons_zero, List.set_cons_succ]
          refine wpAny_ready (rs := [5]) (by kernel_rfl) (by simp) ?_
          refine AllReady.cons (o := ?od7) ?hod7 (fun K hK => ?kd7) ?md7
          case hod7 => (simp only [List.getElem?_toArray, List.getElem?_cons_succ, List.getElem?_cons_zero]; exact rfl)
          case kd7 =>
            refine anyd_make (by rfl) (.tmp 42) (.tmp 42) 38 rfl 43 i0 _ Try.underlying38 hi0 hz0 hz1 rfl i (by rfl) (by rfl) hb2 hmk ?_
            intro gF Vd7 hgF hF hbed7
            have HGF := Lib.hid hgF
            clear hgF
            have hW := hW.later hbed7
            have hB2 : Below wr.heap.size wr Vd7 := hB1.trans (hbed7.mono hB1.size)
            have sz2 := hB1.size
            have hne : gW ≠ gF := by have := hW0.lt; have := HGF.out; omega
            refine hK _ _ ?_
            clear hK K
            try simp only [Act.put, List.setIfInBounds_toArray, List.set_cons_zero, List.set_cons_succ]
            refine wpAny_take (i := 7) (oi := ?oid8) (v := ?vd8) ?hod8 (by kernel_rfl) ?hfd8 ?hrd8 ?hQd8 ?hyd8 ?restd8
            case hod8 => (simp only [List.getElem?_toArray, List.getElem?_cons_succ, List.getElem?_cons_zero]; exact rfl)
            case hfd8 => kernel_rfl
            case hrd8 => kernel_rfl
            case hQd8 => exact fun _ _ _ h => h
            case hyd8 =>
              refine Or.inl ⟨by rfl, ?_⟩
              intro w
              go_simp
              (try with_reducible rfl)
            try simp only [Act.put, List.setIfInBounds_toArray, List.set_cons_zero, List.set_cons_succ]
            exact wpAny_done (by kernel_rfl) (hEnd gW gF _ ⟨hB2, by have := HGW.out; omega, by have := HGF.out; omega, hne, hW, hF⟩) _
          exact AllReady.nil
        refine AllReady.cons (o := ?od9) ?hod9 (fun K hK => ?kd9) ?md9
        case hod9 => (simp only [List.getElem?_toArray, List.getElem?_cons_succ, List.getElem?_cons_zero]; exact rfl)
        case kd9 =>
          refine anyd_make (by rfl) (.tmp 42) (.tmp 42) 38 rfl 43 i0 _ Try.underlying38 hi0 hz0 hz1 rfl i (by rfl) (by rfl) hb2 hmk ?_
          intro gF Vd9 hgF hF hbed9
          have HGF := Lib.hid hgF
          clear hgF
          have hB1 : Below wr.heap.size wr Vd9 := hf0.trans hbed9
          have sz1 := hf0.size
          have hF0 := hF
          refine hK _ _ ?_
          clear hK K
          try simp only [Act.put, List.setIfInBounds_toArray, List.set_cons_zero, List.set_cons_succ]
          refine wpAny_ready (rs := [2]) (by kernel_rfl) (by simp) ?_
          refine AllReady.cons (o := ?od10) ?hod10 (fun K hK => ?kd10) ?md10
          case hod10 => (simp only [List.getElem?_toArray, List.getElem?_cons_succ, List.getElem?_cons_zero]; exact rfl)
          case kd10 =>
            refine anyd_make (by rfl) (.tmp 39) (.tmp 39) 43 rfl 3 i1 _ Try.underlying43 hi1 hy0 hy1 rfl i (by rfl) (by rfl) hb3 hmk ?_
            intro gW Vd10 hgW hW hbed10
            rw [fnC_zero] at hW
            have HGW := Lib.hid hgW
            clear hgW
            have hF := hF.later hbed10
            have hB2 : Below wr.heap.size wr Vd10 := hB1.trans (hbed10.mono hB1.size)
            have sz2 := hB1.size
            have hne : gW ≠ gF := by have := hF0.lt; have := HGW.out; omega
            refine hK _ _ ?_
            clear hK K
            try simp only [Act.put, List.setIfInBounds_toArray, List.set_cons_zero, List.set_cons_succ]
            refine wpAny_take (i := 6) (oi := ?oid11) (v := ?vd11) ?hod11 (by kernel_rfl) ?hfd11 ?hrd11 ?hQd11 ?hyd11 ?restd11
            case hod11 => (simp only [List.getElem?_toArray, List.getElem?_cons_succ, List.getElem?_cons_zero]; exact rfl)
            case hfd11 => kernel_rfl
            case hrd11 => kernel_rfl
            case hQd11 => exact fun _ _ _ h => h
            case hyd11 =>
              refine Or.inl ⟨by rfl, ?_⟩
              intro w
              go_simp
              (try with_reducible rfl)
            try simp only [Act.put, List.setIfInBounds_toArray, List.set_cons_zero, List.set_cons_succ]
            refine wpAny_take (i := 7) (oi := ?oid12) (v := ?vd12) ?hod12 (by kernel_rfl) ?hfd12 ?hrd12 ?hQd12 ?hyd12 ?restd12
            case hod12 => (simp only [List.getElem?_toArray, List.getElem?_cons_succ, List.getElem?_cons_zero]; exact rfl)
            case hfd12 => kernel_rfl
            case hrd12 => kernel_rfl
            case hQd12 => exact fun _ _ _ h => h
            case hyd12 =>
              refine Or.inl ⟨by rfl, ?_⟩
              intro w
              go_simp
              (try with_reducible rfl)
            try simp only [Act.put, List.setIfInBounds_toArray, List.set_cons_zero, List.set_cons_succ]
            exact wpAny_done (by kernel_rfl) (hEnd gW gF _ ⟨hB2, by have := HGW.out; omega, by have := HGF.out; omega, hne, hW, hF⟩) _
          exact AllReady.nil
        exact AllReady.nil
      case cc =>
        rintro gW gF V ⟨hV, hVW, hVF, hWF, hbW, hbF⟩
        have hgOl := HOF.out.lt
        have HBV := Lib.hid (show Below w.heap.size w V from HBW.out.trans (hV.mono HBW.out.size))
        have HOV := Lib.hid (HOF.out.later hV)
        have HWV := Lib.hid hbW
        have HFV := Lib.hid (RR.start (base := V.heap.size) (show gF < V.heap.size from hbF.lt) hbF)
        have hgWl : gW < V.heap.size := hbW.lt
        have hwV : w.heap.size ≤ wr.heap.size := HBW.out.size
        have hwr : wr.heap.size ≤ V.heap.size := hV.size
        obtain ⟨base, hbase⟩ : ∃ base, base = V.heap.size := ⟨_, rfl⟩
        rw [← hbase] at HFV
        have HBS := Lib.hid hbase
        have HNE := Lib.hid (show gO ≠ gW ∧ gO ≠ gF ∧ gW ≠ gF ∧ gO < base ∧ gW < base ∧ w.heap.size ≤ gO ∧ w.heap.size ≤ gW ∧ w.heap.size ≤ gF from ⟨by omega, by omega, hWF, by omega, by omega, by have := HGO.out; omega, by omega, by omega⟩)
        clear hV hVW hVF hWF hbW hbF hgOl hgWl hwV hwr hbase HBW HT
        repeat (first | go_skip | go_guarded | go_step)
        go_loopw [46] (fun q w2 => ∃ (m : Nat) (fA : Nat → Option Addr) (fc : Nat → Nat) (lv : List Value), m ≤ ne ∧ q = .int .i64 (m : Int) ∧ Bk w2 gO 3 (fnC n (ofQ P)) ∧ Bk w2 gW 3 (fnC i fun j => out P (E.take m) [] j) ∧ RR w2 base gF i fA fc lv (fun j => into P (E.take m) j) ∧ Below w.heap.size w w2 ∧ V.heap.size ≤ w2.heap.size) (fun q _ => ne - (intOf q).toNat)
        case atStart => exact ⟨0, _, _, _, by omega, rfl, HOV.out, HWV.out, HFV.out, HBV.out, Nat.le_refl _⟩
        case round =>
          rename World => w2
          obtain ⟨m, fA, fc, lv, hm, rfl, hbO, hbW, hbF, hbw, hVw⟩ := hrel
          have HVw := Lib.hid hVw
          clear hVw
          have HO := Lib.hid hbO
          have HW := Lib.hid hbW
          have HF := Lib.hid hbF
          have HB := Lib.hid hbw
          clear hbO hbW hbF hbw
          by_cases hltm : m < ne
          · have hmm : (m : Int) < (ne : Int) := by omega
            obtain ⟨be, oe, e, hAe, hbe, he, hc0, hc1⟩ := HR.out.at_ hltm
            subst hAe
            obtain ⟨⟨a, b⟩, hx, rfl⟩ := ei_at he
            have hab := HE.out _ (List.mem_of_getElem? hx)
            obtain ⟨ha, hb⟩ := hab
            dsimp only at ha hb hc0 hc1
            have k0 := (HB.out.cell (p := ⟨be, oe + m * 2, none⟩) hbe).trans hc0
            have k1 := (HB.out.cell (p := ⟨be, oe + m * 2 + 1, none⟩) hbe).trans hc1
            have HX := Lib.hid hx
            clear hx he hc0 hc1
            go_upto_region 15 with (fail)
            obtain ⟨eb, heb⟩ : ∃ eb, eb = w2.heap.size := ⟨_, rfl⟩
            obtain ⟨U, hU, hub, hbU⟩ : ∃ U, U = w2.alloc (.cells #[.int .i64 (a : Int), .int .i64 (b : Int)] 75) ∧ Bk U eb 75 [ni a, ni b] ∧ Below w2.heap.size w2 U :=
              ⟨_, rfl, by rw [heb]; exact Bk.new w2 _ [ni a, ni b], (Below.refl _ _).alloc (Nat.le_refl _) _⟩
            rw [← hU, ← heb]
            have HOU := Lib.hid (HO.out.later hbU)
            have HWU := Lib.hid (HW.out.later hbU)
            have HFU := Lib.hid (HF.out.keep (G := fun _ => False) (Turn.ofBelow hbU) (fun _ e => e.elim))
            have HBU := Lib.hid (HB.out.trans (hbU.mono HB.out.size))
            have HVU := Lib.hid (Nat.le_trans HVw.out hbU.size)
            have e0 : ∀ q, (U.drewN q).cell? ⟨eb, 0, none⟩ = some (ni a) := fun q => hub.cell 0
            have e1 : ∀ q, (U.drewN q).cell? ⟨eb, 1, none⟩ = some (ni b) := fun q => hub.cell 1
            have oa : ∀ q, (U.drewN q).cell? ⟨gO, a, none⟩ = some (ni (ofQ P a)) := fun q => (HOU.out.cell a).trans (fnC_at _ ha)
            have ob : ∀ q, (U.drewN q).cell? ⟨gO, b, none⟩ = some (ni (ofQ P b)) := fun q => (HOU.out.cell b).trans (fnC_at _ hb)
            have hfi : ofQ P a < i := by rw [HKP.out]; exact HI.out.of_lt ha
            have hti : ofQ P b < i := by rw [HKP.out]; exact HI.out.of_lt hb
            obtain ⟨fr, hfr⟩ : ∃ fr, fr = ofQ P a := ⟨_, rfl⟩
            obtain ⟨to, hto⟩ : ∃ to, to = ofQ P b := ⟨_, rfl⟩
            rw [← hfr] at oa hfi
            rw [← hto] at ob hti
            have HFR := Lib.hid hfr
            have HTO := Lib.hid hto
            have hai : (a : Int) < (n : Int) := by omega
            have hbi : (b : Int) < (n : Int) := by omega
            have ha0 : (0 : Int) ≤ (a : Int) := by omega
            have hb0 : (0 : Int) ≤ (b : Int) := by omega
            clear hU heb hub hbU k0 k1 hfr hto
            go_quiet (fail)
            obtain ⟨V2, hV2⟩ : ∃ V2, V2 = U.drewN nq := ⟨_, rfl⟩
            rw [← hV2]
            have HO2 := Lib.hid (show Bk V2 gO 3 (fnC n (ofQ P)) by rw [hV2]; exact HOU.out)
            have HW2 := Lib.hid (show Bk V2 gW 3 (fnC i fun j => out P (E.take m) [] j) by rw [hV2]; exact HWU.out)
            have hdr : Below U.heap.size U V2 := by rw [hV2]; exact belowDrews (Below.refl _ _) _
            have HF2 := Lib.hid (HFU.out.keep (G := fun _ => False) (Turn.ofBelow hdr) (fun _ e => e.elim))
            have HB2 := Lib.hid (HBU.out.trans (hdr.mono HBU.out.size))
            have HVL := Lib.hid (Nat.le_trans HVU.out hdr.size)
            clear hV2 hdr e0 e1 oa ob
            have hEm : E.take (m + 1) = E.take m ++ [(a, b)] := by rw [List.take_add_one, HX.out]; rfl
            have HEM := Lib.hid hEm
            clear hEm
            by_cases hne2 : fr = to
            · have hb1 : ((fr : Int) != (to : Int)) = false := by subst hne2; simp
              have HNN := Lib.hid (show ofQ P a = ofQ P b by rw [← HFR.out, ← HTO.out]; exact hne2)
              clear hne2
              repeat (first | go_skip | go_guarded | go_step)
              go_roundw
              case rel => exact ⟨m + 1, fA, fc, lv, by omega, by go_num, HO2.out, by
                have e : (fun j => out P (E.take (m + 1)) [] j) = fun j => out P (E.take m) [] j := by
                  funext j
                  rw [HEM.out, out_snoc, if_neg (fun h => h.2 HNN.out)]; rfl
                rw [e]; exact HW2.out, by
                have e : (fun j => into P (E.take (m + 1)) j) = fun j => into P (E.take m) j := by
                  funext j
                  rw [HEM.out, into_snoc, if_neg (fun h => h.2 HNN.out)]
                rw [e]; exact HF2.out, HB2.out, HVL.out⟩
              case measure => simp [intOf]; omega
            · have hb1 : ((fr : Int) != (to : Int)) = true := by simp; omega
              have HNN := Lib.hid (show ofQ P a ≠ ofQ P b by rw [← HFR.out, ← HTO.out]; exact hne2)
              clear hne2
              -- the count goes up
              have cw : V2.cell? ⟨gW, fr, none⟩ = some (ni (out P (E.take m) [] fr)) := (HW2.out.cell fr).trans (fnC_at _ hfi)
              have fw := HW2.out.frozen fr
              obtain ⟨wv, hwv⟩ : ∃ wv, wv = out P (E.take m) [] fr := ⟨_, rfl⟩
              rw [← hwv] at cw
              have hwb : wv ≤ 16384 := by
                have h1 := out_len P (E.take m) [] fr
                have h2 : (E.take m).length ≤ m := List.length_take_le _ _
                omega
              have HWV2 := Lib.hid hwv
              have hfri : (fr : Int) < (i : Int) := by omega
              have htoi : (to : Int) < (i : Int) := by omega
              have hfr0 : (0 : Int) ≤ (fr : Int) := by omega
              have hto0 : (0 : Int) ≤ (to : Int) := by omega
              clear hwv
              go_upto_region 18 with (fail)
              obtain ⟨V3, hV3, hbW3, hT3⟩ : ∃ V3, V3 = V2.setCell ⟨gW, fr, none⟩ (.int .i64 ((wv : Int) + 1)) ∧ Bk V3 gW 3 (fnC i (upd (fun j => out P (E.take m) [] j) fr (wv + 1))) ∧ Turn (fun x => x = gW) V2 V3 :=
                ⟨_, rfl, by have := HW2.out.set_ fr (ni (wv + 1)); rw [fnC_set] at this; exact this, (Turn.refl (fun x => x = gW) V2).setCell (p := ⟨gW, fr, none⟩) (fun _ => rfl) _⟩
              rw [← hV3]
              have HW3 := Lib.hid hbW3
              have HT3 := Lib.hid hT3
              have HO3 := Lib.hid (hT3.bk HO2.out (fun e => HNE.out.1 e))
              have HF3 := Lib.hid (HF2.out.keep hT3 (fun x e => .inl ⟨fun q => HNE.out.2.2.1 (e ▸ q), by have := HNE.out.2.2.2.2.1; omega⟩))
              have HB3 := Lib.hid (HB2.out.trans (hT3.below (B := w.heap.size) (fun x _ e => by have := HNE.out.2.2.2.2.2.2.1; omega) HB2.out.size))
              clear hV3 hbW3 hT3 cw fw
              obtain ⟨hl1, hl2⟩ := HF3.out.lead to hti
              obtain ⟨kk, hkk⟩ : ∃ kk, kk = (into P (E.take m) to).length := ⟨_, rfl⟩
              have hkb : kk ≤ 16384 := by
                have h1 := into_len P (E.take m) to
                have h2 : (E.take m).length ≤ m := List.length_take_le _ _
                omega
              rw [← hkk] at hl1 hl2
              have HKK := Lib.hid hkk
              have cf : V3.cell? ⟨gF, to, none⟩ = some (.slice (fA to) kk (fc to)) := (HF3.out.blk.cell to).trans hl1
              have hlit := run_litI (fr : Int) V3
              have hZ0 : Below V3.heap.size V3 (V3.alloc (.cells #[.int .i64 (fr : Int)] 3)) := (Below.refl _ _).alloc (Nat.le_refl _) _
              have HLZ := Lib.hid (show OwI (V3.alloc (.cells #[.int .i64 (fr : Int)] 3)) base (fA to) (fc to) kk (into P (E.take m) to) from ownBelow hl2 hZ0 (Nat.le_refl _))
              have HFZ := Lib.hid (HF3.out.keep (G := fun _ => False) (Turn.ofBelow hZ0) (fun _ e => e.elim))
              have HZ0 := Lib.hid hZ0
              have hbz : base ≤ (V3.alloc (.cells #[.int .i64 (fr : Int)] 3)).heap.size := Nat.le_trans (Nat.le_of_eq HBS.out) (Nat.le_trans HVL.out (Nat.le_trans HT3.out.size hZ0.size))
              have htoi2 : (to : Int) < (i : Int) := htoi
              clear hl1 hl2 hkk hZ0
              repeat (first
                | (at_builtin; refine appI _ rfl (.tmp 74) (.tmp 76) rfl base (fA to) (fc to) kk _ rfl HLZ.out _ _ 1 1 [fr] rfl (litI_rd fr V3) (by omega) hbz ?_
                   intro A7 c7 Y ho7 ht7 hf7
                   have HO7 := Lib.hid ho7
                   have HT7 := Lib.hid ht7
                   have HF7 := Lib.hid hf7
                   have hapF := HF3.out.lead to hti
                   have HNG := Lib.hid (show blockOf (fA to) ≠ some gF from fun e => by have := (own_low hapF.2 e).1; have := HF3.out.lt; omega)
                   have hby := ht7.bk HFZ.out.blk HNG.out
                   have cfy : Y.cell? ⟨gF, to, none⟩ = some (.slice (fA to) kk (fc to)) := (hby.cell to).trans (by have h := hapF.1; rw [← HKK.out] at h; exact h)
                   have ffy := hby.frozen to
                   clear ho7 ht7 hf7 hlit cf hapF hby)
                | go_skip | go_guarded | go_step)
              have hTall : Turn (fun x => blockOf (fA to) = some x) V3 Y := (Turn.ofBelow (G := fun x => blockOf (fA to) = some x) HZ0.out).trans HT7.out
              have hstep := HF3.out.step hti hTall (b := fr) (A3 := A7) (c3 := c7) (by rw [← HKK.out]; exact HO7.out) (HF7.out.imp id fun h => ⟨_, h, HZ0.out.size⟩)
              rw [← HKK.out] at hstep
              have hlow : ∀ x, blockOf (fA to) = some x → base ≤ x := fun x hx => (own_low (HF3.out.lead to hti).2 hx).1
              have hTf : Turn (fun x => x = gF ∨ blockOf (fA to) = some x) V3 (Y.setCell ⟨gF, to, none⟩ (.slice A7 (kk + 1) c7)) := (hTall.mono fun x _ e => .inr e).setCell (p := ⟨gF, to, none⟩) (fun _ => .inl rfl) _
              have e1 : upd (fun j => out P (E.take m) [] j) fr (wv + 1) = fun j => out P (E.take (m + 1)) [] j := by
                funext j
                rw [HEM.out, out_snoc]
                by_cases e : j = fr
                · subst e
                  rw [upd_same, if_pos ⟨HFR.out.symm, HNN.out⟩, HWV2.out]
                · rw [upd_other e, if_neg (fun h => e (by rw [HFR.out]; exact h.1.symm))]; rfl
              have e2 : upd (fun j => into P (E.take m) j) to (into P (E.take m) to ++ [fr]) = fun j => into P (E.take (m + 1)) j := by
                funext j
                rw [HEM.out, into_snoc]
                by_cases e : j = to
                · subst e
                  rw [upd_same, if_pos ⟨HTO.out.symm, HNN.out⟩, HFR.out]
                · rw [upd_other e, if_neg (fun h => e (by rw [HTO.out]; exact h.1.symm))]
              rw [e2] at hstep
              have hne9 := HNE.out
              have hW9 := hTf.bk HW3.out (by rintro (e | e); exact hne9.2.2.1 e; have := hlow _ e; omega)
              rw [e1] at hW9
              have hO9 := hTf.bk HO3.out (by rintro (e | e); exact hne9.2.1 e; have := hlow _ e; omega)
              have hB9 := HB3.out.trans (hTf.below (B := w.heap.size) (fun x _ e => by
                rcases e with e | e
                · omega
                · have := hlow _ e; omega) HB3.out.size)
              go_roundw
              case rel => exact ⟨m + 1, _, _, _, by omega, by go_num, hO9, hW9, hstep, hB9, Nat.le_trans (Nat.le_trans HVL.out HT3.out.size) hTf.size⟩
              case measure => simp [intOf]; omega
          · obtain rfl : m = ne := by omega
            have hmm : ¬ (m : Int) < (m : Int) := by omega
            have hfull : E.take m = E := List.take_of_length_le (by rw [HLEN.out]; exact Nat.le_refl _)
            have HFULL := Lib.hid hfull
            clear hfull
            repeat (first | go_skip | go_guarded | go_step)
            go_ret2
            have hne9 := HNE.out
            have h1 := HW.out
            have h2 := HF.out
            rw [HFULL.out] at h1 h2
            exact ⟨gW, gF, fA, fc, lv, rfl, h1, hne9.2.2.2.2.2.2.1, hne9.2.2.2.2.2.2.2, hne9.2.2.1, ⟨base, hne9.2.2.2.2.1, h2⟩, HB.out⟩
end Go.Proofs.Ytfmghkplafploaa

