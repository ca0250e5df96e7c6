/- Texts, packed: SfH SfR SfO -/
import Derived.Test.YtfmghkplafploaaPwR
set_option linter.unusedVariables false
set_option linter.unusedSimpArgs false
namespace Go.Proofs.Ytfmghkplafploaa
open Go Go.RowKit Go.Shelf
attribute [local go_sem] Oper.semAt_some

abbrev AtH := (AtR × Bool) × List Tm
def atH (p : UInt32) (s : SlA) (R : List SlA) (L : List Li) (l : List Tm) : List AtH := (((p, s), false), l) :: (L.zip R).map fun z => (((z.1.2.1, z.2), !z.1.1), z.1.2.2)
theorem atH_enc (p : UInt32) (s : SlA) (R : List SlA) (L : List Li) (l : List Tm) : (atH p s R L l).map (fun x => encA x.1) = litE p s R L := by
  rw [← atE_enc]
  simp [atH, atE]
def hvL (xs : List AtH) (v : UInt32) : Bool := xs.any fun x => x.1.2 && inL x.2 v
def okL (H : UInt32 → Bool) (l : List Tm) : Bool := l.all fun t => !t.1 || H t.2
def okAll (H : UInt32 → Bool) (xs : List AtH) : Bool := xs.all fun x => okL H x.2
theorem zip_any {R : List SlA} {L : List Li} (h : R.length = L.length) (f : Li → Bool) : ((L.zip R).any fun z => f z.1) = L.any f := by
  induction L generalizing R with
  | nil => rfl
  | cons x L ih =>
    cases R with
    | nil => cases h
    | cons r R => rw [List.zip_cons_cons, List.any_cons, List.any_cons, ih (by simpa using h)]
theorem zip_all {R : List SlA} {L : List Li} (h : R.length = L.length) (f : Li → Bool) : ((L.zip R).all fun z => f z.1) = L.all f := by
  induction L generalizing R with
  | nil => rfl
  | cons x L ih =>
    cases R with
    | nil => cases h
    | cons r R => rw [List.zip_cons_cons, List.all_cons, List.all_cons, ih (by simpa using h)]
theorem hvL_all {R : List SlA} {L : List Li} (h : R.length = L.length) (p : UInt32) (s : SlA) (l : List Tm) : hvL (atH p s R L l) = heldV L := by
  funext v
  unfold hvL atH heldV
  rw [List.any_cons, List.any_map, Bool.false_and, Bool.false_or]
  exact zip_any h fun x => !x.1 && inL x.2.2 v
theorem ok_safe {R : List SlA} {L : List Li} (h : R.length = L.length) (p : UInt32) (s : SlA) (l : List Tm) : ((atH p s R L l).all fun x => okL (heldV L) x.2) = safeC ((p, l), L) := by
  unfold atH
  rw [List.all_cons, List.all_map]
  have e : ((L.zip R).all ((fun x : AtH => okL (heldV L) x.2) ∘ fun z => (((z.1.2.1, z.2), !z.1.1), z.1.2.2))) = L.all fun x => okL (heldV L) x.2.2 := zip_all h fun x => okL (heldV L) x.2.2
  rw [e]
  unfold safeC
  show (heldL L l && _) = _
  congr 1
  rw [Bool.eq_iff_iff, List.all_eq_true, List.all_eq_true]
  refine forall_congr' fun x => forall_congr' fun hx => ?_
  cases hx1 : x.1 with
  | true => rfl
  | false =>
    simp only [Bool.not_false, Bool.true_or, iff_true]
    refine List.all_eq_true.2 fun t ht => ?_
    cases ht1 : t.1 with
    | false => rfl
    | true =>
      simp only [Bool.not_true, Bool.false_or]
      refine List.any_eq_true.2 ⟨x, hx, ?_⟩
      rw [hx1]
      simp only [Bool.not_false, Bool.true_and]
      refine List.any_eq_true.2 ⟨t, ht, ?_⟩
      rw [ht1]
      simp
/-- An array of 16 truths. -/
def heldC (H : UInt32 → Bool) : List Value := (List.range 16).map fun i => .bool (H (UInt32.ofNat i))
theorem heldC_at (H : UInt32 → Bool) {v : UInt32} (hv : v.toNat < 16) : (heldC H)[v.toNat]? = some (.bool (H v)) := by
  unfold heldC
  rw [List.getElem?_map, List.getElem?_range hv]
  simp
theorem heldC_set (H : UInt32 → Bool) (v : UInt32) (b : Bool) : (heldC H).set v.toNat (.bool b) = heldC (fun u => if u = v then b else H u) := by
  unfold heldC
  refine List.ext_getElem (by simp) fun i h1 h2 => ?_
  simp only [List.length_set, List.length_map, List.length_range] at h1
  rw [List.getElem_set]
  simp only [List.getElem_map, List.getElem_range]
  by_cases h : v.toNat = i
  · subst h
    simp
  · rw [if_neg h, if_neg (fun e => h (by rw [← e]; simp; omega))]
theorem heldC_zero : heldC (fun _ => false) = List.replicate 16 (.bool false) := by rfl
theorem keepsBelow {B : Nat} {W W' : World} (h : Below W.heap.size W W') : KeepsFrom B W W' :=
  ⟨h.size, fun k o _ hk _ => (h.block k (Array.getElem?_eq_some_iff.1 hk).1).trans hk⟩
theorem keepsTurn {B : Nat} {G : Nat → Prop} {W W' : World} (h : Turn G W W') (hG : ∀ k o, G k → B ≤ k → W.heap[k]? = some o → o.isCells = true) : KeepsFrom B W W' :=
  ⟨h.size, fun k o hB hk ho => (h.block k (Array.getElem?_eq_some_iff.1 hk).1 (fun g => by rw [hG k o g hB hk] at ho; cases ho)).trans hk⟩
set_option maxRecDepth 100000 in
set_option maxHeartbeats 8000000 in
theorem allHeld_any (p : UInt32) (A : Option Addr) (n c : Nat) (l : List Tm) (A1 : Option Addr) (n1 c1 : Nat) (R : List SlA) (L : List Li) (B : Nat) (w : World)
    (h : RdT w B A n l) (h1 : RdL w B A1 n1 R L) (hB : B ≤ w.heap.size) (hn1 : n1 ≤ 1000000) (hmay : mayC ((p, l), L) = true) :
    Calls Try.prog 27 #[.agg #[nv p, .slice A n c, .slice A1 n1 c1]] w fun e w' => e = .returned (.bool (safeC ((p, l), L))) ∧ Below w.heap.size w w' := by
  have hmayA : ∀ x ∈ atH p (A, n, c) R L l, RdT w B x.1.1.2.1 x.1.1.2.2.1 x.2 ∧ x.1.1.2.2.1 ≤ 6 ∧ ∀ t ∈ x.2, t.1 = true → t.2.toNat < 16 := by
    unfold mayC at hmay
    simp only [Bool.and_eq_true, List.all_eq_true, decide_eq_true_eq] at hmay
    obtain ⟨⟨hb, hh⟩, _⟩ := hmay
    have hgo : ∀ (q : UInt32) (s : SlA) (t : List Tm), RdT w B s.1 s.2.1 t → mayA (q, t) = true → s.2.1 ≤ 6 ∧ ∀ u ∈ t, u.1 = true → u.2.toNat < 16 := fun q s t hr hm => by
      unfold mayA at hm
      simp only [Bool.and_eq_true, List.all_eq_true, decide_eq_true_eq, Bool.or_eq_true, Bool.not_eq_true'] at hm
      refine ⟨by rw [← rdT_len hr]; exact hm.2, fun u hu h1 => ?_⟩
      rcases hm.1 u hu with h2 | h2
      · rw [h1] at h2; cases h2
      · exact h2
    intro x hx
    simp only [atH, List.mem_cons, List.mem_map] at hx
    rcases hx with rfl | ⟨⟨y, r⟩, hy, rfl⟩
    · exact ⟨h, hgo p (A, n, c) l h hh⟩
    · obtain ⟨i, hi⟩ := List.mem_iff_getElem?.1 hy
      rw [List.getElem?_zip_eq_some] at hi
      have h2 := h1.row i r y hi.2 hi.1
      exact ⟨h2, hgo y.2.1 r y.2.2 h2 (hb y (List.mem_of_getElem? hi.1))⟩
  obtain ⟨items, hit⟩ := subs (atH p (A, n, c) R L l) hmayA
  have HIT := Lib.hid hit
  have HLR := Lib.hid (show R.length = L.length by rw [h1.lenL, h1.lenR])
  obtain ⟨W0, hW0, bC, bR, bA, bI, hB0, hsz⟩ : ∃ W0, W0 = (((w.alloc (.cells #[nv p, .slice A n c, .slice A1 n1 c1] 31)).alloc (.cells #[.bool false] 4)).alloc (.cells (List.replicate 16 (.bool false)).toArray 99)).alloc (.cells #[nv p, .slice A n c, .slice A1 n1 c1] 31) ∧
      Bk W0 w.heap.size 31 [nv p, .slice A n c, .slice A1 n1 c1] ∧ Bk W0 (w.heap.size + 1) 4 [.bool false] ∧ Bk W0 (w.heap.size + 1 + 1) 99 (heldC fun _ => false) ∧ Bk W0 (w.heap.size + 1 + 1 + 1) 31 [nv p, .slice A n c, .slice A1 n1 c1] ∧ Below w.heap.size w W0 ∧ W0.heap.size = w.heap.size + 1 + 1 + 1 + 1 := by
    refine ⟨_, rfl, ?_, ?_, ?_, ?_, ?_, ?_⟩
    · exact (((Bk.new w _ _).later ((Below.refl _ _).alloc (Nat.le_refl _) _)).later ((Below.refl _ _).alloc (Nat.le_refl _) _)).later ((Below.refl _ _).alloc (Nat.le_refl _) _)
    · have := ((Bk.new (w.alloc (.cells #[nv p, .slice A n c, .slice A1 n1 c1] 31)) 4 [.bool false]).later ((Below.refl _ _).alloc (Nat.le_refl _) (.cells (List.replicate 16 (.bool false)).toArray 99))).later ((Below.refl _ _).alloc (Nat.le_refl _) (.cells #[nv p, .slice A n c, .slice A1 n1 c1] 31))
      simpa only [World.size_alloc] using this
    · have := (Bk.new ((w.alloc (.cells #[nv p, .slice A n c, .slice A1 n1 c1] 31)).alloc (.cells #[.bool false] 4)) 99 (List.replicate 16 (.bool false))).later ((Below.refl _ _).alloc (Nat.le_refl _) (.cells #[nv p, .slice A n c, .slice A1 n1 c1] 31))
      rw [heldC_zero]
      simpa only [World.size_alloc] using this
    · have := Bk.new (((w.alloc (.cells #[nv p, .slice A n c, .slice A1 n1 c1] 31)).alloc (.cells #[.bool false] 4)).alloc (.cells (List.replicate 16 (.bool false)).toArray 99)) 31 [nv p, .slice A n c, .slice A1 n1 c1]
      simpa only [World.size_alloc] using this
    · exact ((((Below.refl w.heap.size w).alloc (Nat.le_refl _) _).alloc (by simp) _).alloc (by simp; omega) _).alloc (by simp; omega) _
    · simp only [World.size_alloc]
  have HW0 := Lib.hid hW0
  have HB0 := Lib.hid hB0
  obtain ⟨G, hG⟩ : ∃ G : Nat → Prop, G = fun k => k = w.heap.size + 1 + 1 ∨ w.heap.size + 1 + 1 + 1 + 1 ≤ k := ⟨_, rfl⟩
  have ga : G (w.heap.size + 1 + 1) := by rw [hG]; exact Or.inl rfl
  have gn : ∀ k, w.heap.size + 1 + 1 + 1 + 1 ≤ k → G k := fun k hk => by rw [hG]; exact Or.inr hk
  have ng : ∀ k, k < w.heap.size + 1 + 1 + 1 + 1 → k ≠ w.heap.size + 1 + 1 → ¬ G k := fun k h1 h2 h4 => by rw [hG] at h4; rcases h4 with h | h <;> omega
  have HOUT := Lib.hid (show ∀ W, Turn G W0 W → Below w.heap.size w W from fun W ht => hB0.trans (ht.below (fun k _ hk => by rw [hG] at hk; rcases hk with h | h <;> omega) hB0.size))
  have HRD := Lib.hid (show ∀ W, Turn G W0 W → ∀ A n l, RdT w B A n l → RdT W B A n l from fun W ht A n l hr => ht.rd (hr.below (hB0.mono hB)) (Nat.le_trans hB hB0.size) (fun k hk => ng k (by omega) (by omega)))
  have hr0 : RdL W0 B A1 n1 R L := h1.below (hB0.mono hB)
  clear hit hW0 hG h h1 hmay hmayA
  refine (callsIn_wide (n := 6)).1 ?_
  refine callsIn_of_wp_marks Try.func27 rfl trivial ?_ rfl
  simp only [Try.ntmps27, List.size_toArray, List.length_cons, List.length_nil, Nat.reduceAdd, Nat.reduceSub, Array.replicate_succ, Array.replicate_zero, List.push_toArray, List.append_toArray, List.nil_append, List.cons_append]
  gi_wp2_with (refine ⟨trivial, ?_⟩; gi_at_call 41; refine (callsIn_wide.2 (literals_any p A n c A1 n1 c1 _)).mono ?_; rintro e w' ⟨rfl, rfl⟩)
  rw [show (.cells #[Value.bool false, Value.bool false, Value.bool false, Value.bool false, Value.bool false, Value.bool false, Value.bool false, Value.bool false, Value.bool false, Value.bool false, Value.bool false, Value.bool false, Value.bool false, Value.bool false, Value.bool false, Value.bool false] 99 : Obj) = .cells (List.replicate 16 (.bool false)).toArray 99 from rfl]
  rw [← HW0.out]
  refine wpIn_rangeFunc_ownH (α := {x : AtH // RdT w B x.1.1.2.1 x.1.1.2.2.1 x.2 ∧ x.1.1.2.2.1 ≤ 6 ∧ ∀ t ∈ x.2, t.1 = true → t.2.toNat < 16}) (n := 6) rfl (by omega) (gf := 66) (lb := #[.pointer (some ⟨w.heap.size + 1 + 1 + 1, 0, none⟩)]) rfl trivial (enters_of Try.func66 (by kernel_rfl) rfl)
    (lit_stops Fence.wide 5 trivial rfl (by omega) (fun x : {x : AtH // RdT w B x.1.1.2.1 x.1.1.2.2.1 x.2 ∧ x.1.1.2.2.1 ≤ 6 ∧ ∀ t ∈ x.2, t.1 = true → t.2.toNat < 16} => encA x.1.1) items G p A n c A1 n1 c1 R L (by rw [← atH_enc, ← HIT.out, List.map_map]; rfl) (w.heap.size + 1 + 1 + 1) B (ng _ (by omega) (by omega)) (fun k hk => ng k (by omega) (by omega)) hn1 W0 (Nat.le_trans hB hB0.size) bI hr0)
    (fun h k => Turn.trans h k) (fun W l o o' hl _ _ _ => turnKb W l o o' (gn l (by omega))) (Below.refl _ _) (fun _ => rfl)
    (fun (pre : List {x : AtH // RdT w B x.1.1.2.1 x.1.1.2.2.1 x.2 ∧ x.1.1.2.2.1 ≤ 6 ∧ ∀ t ∈ x.2, t.1 = true → t.2.toNat < 16}) W => Bk W (w.heap.size + 1 + 1) 99 (heldC (hvL (pre.map Subtype.val))) ∧ Turn G W0 W)
    (fun _ _ _ => False)
    (ownFrom_turn fun s W W' hs ht => ⟨ht.bk hs.1 (by omega), hs.2.trans (ht.mono fun k _ hk => gn k (by omega))⟩)
    (fun _ _ _ _ _ hs _ _ => hs)
    ⟨bA, Turn.refl _ _⟩
    (fun x a' W => ∃ Bx, w.heap.size + 1 + 1 + 1 + 1 ≤ Bx ∧ Bk W Bx 28 [nv x.1.1.1.1, x.1.1.1.2.val] ∧ a' = { tmps := #[.agg #[nv p, .slice A n c, .slice A1 n1 c1], .pointer (some ⟨w.heap.size, 0, none⟩), .pointer (some ⟨w.heap.size + 1, 0, none⟩), .pointer (some ⟨w.heap.size + 1 + 1, 0, none⟩), .pointer (some ⟨Bx, 0, none⟩), .bool x.1.1.2, undef, undef, undef, undef, undef, .agg #[nv p, .slice A n c, .slice A1 n1 c1], .func (.func 66) #[] #[.pointer (some ⟨w.heap.size + 1 + 1 + 1, 0, none⟩)], .agg #[nv x.1.1.1.1, x.1.1.1.2.val], .bool x.1.1.2, undef, undef, undef, undef, undef, undef, undef, undef, undef, undef, undef, undef, undef, undef, undef, undef, undef, undef, undef, undef, undef, undef, undef, undef, undef, undef, undef, undef, undef, undef, undef, undef], defers := [] })
    (fun x a' _ X Y row hs hg hr => by
      obtain ⟨Bx, h1, h2, h3⟩ := hs
      exact ⟨Bx, h1, bk_kept h2 hg (fun r e => (hr r e).2), h3⟩)
    ?assign ?body ?done ?stop
  case assign =>
    rintro l pre ⟨⟨⟨⟨q, ⟨Aq, nq, cq⟩⟩, hq⟩, tq⟩, hx⟩ W K ⟨h1, h2⟩ hK
    have hsW := h2.size
    dsimp only [encA, SlA.val]
    gi_wp2
    exact hK _ _ ((KeepsOthers.alloc _ _).from _) ((Turn.refl G W).alloc _) ⟨h1.later ((Below.refl _ _).alloc (Nat.le_refl _) _), h2.alloc _⟩ ⟨W.heap.size, by omega, Bk.new W _ _, rfl⟩
  case body =>
    rintro l pre x a' W hl hrec ⟨h1, h2⟩ ⟨Bx, hBx, bX, rfl⟩ hlt
    obtain ⟨hx1, hx2, hx3⟩ := x.2
    obtain ⟨⟨⟨⟨q, ⟨Aq, nq, cq⟩⟩, hq⟩, tq⟩, hxe⟩ : ∃ y, y = x.1 := ⟨_, rfl⟩
    rw [← hxe] at hx1 hx2 hx3 bX ⊢
    dsimp only [SlA.val] at hx1 hx2 hx3 bX ⊢
    have hsW := h2.size
    have hd := bX.cell 0
    have x1 := bX.cell 1
    simp only [List.getElem?_cons_zero, List.getElem?_cons_succ] at hd x1
    have hcall := vars_any q Aq nq cq tq W ((HRD.out W h2 _ _ _ hx1).more (by omega)) hx2
    have HT := Lib.hid h2
    have H1 := Lib.hid h1
    have HX3 := Lib.hid hx3
    have HPRE := Lib.hid (show hvL ((pre ++ [x]).map Subtype.val) = fun v => hvL (pre.map Subtype.val) v || (hq && inL tq v) from by
      funext v
      unfold hvL
      rw [List.map_append, List.map_cons, List.map_nil, ← hxe, List.any_append]
      simp)
    obtain ⟨H0, hH0⟩ : ∃ H0, H0 = hvL (pre.map Subtype.val) := ⟨_, rfl⟩
    rw [← hH0] at H1 HPRE
    clear h1 h2 hx1 hx2 hx3 hH0 hxe
    cases hq with
    | true =>
      gi_wp2_with (refine ⟨trivial, ?_⟩; gi_at_call 42; refine (CallsIn.inRound l (callsIn_wide.2 hcall)).mono ?_; rintro e w2 ⟨Av, m, cv, vs, rfl, hm6, hmem, hrd, hnew, hb2⟩; have HNEW := Lib.hid hnew; have HMEM := Lib.hid hmem; have HVS := Lib.hid hrd; have HB2 := Lib.hid hb2; clear hmem hrd hb2 hnew hd x1 hcall)
      have hB2s : W.heap.size ≤ w2.heap.size := HB2.out.size
      have HA2 := Lib.hid (show Bk w2 (w.heap.size + 1 + 1) 99 (heldC H0) from H1.out.later HB2.out)
      gi_loopw [18] (fun qv wr => ∃ i : Nat, i ≤ m ∧ qv = .int .i64 (i : Int) ∧ Bk wr (w.heap.size + 1 + 1) 99 (heldC fun u => H0 u || (vs.take i).contains u) ∧ Turn (fun k => k = w.heap.size + 1 + 1) w2 wr) (fun qv _ => m - (intOf qv).toNat)
      case atStart => exact ⟨0, by omega, rfl, by simpa using HA2.out, Turn.refl _ _⟩
      case round =>
        obtain ⟨i, hi, rfl, hbk, ht⟩ := hrel
        have HBK := Lib.hid hbk
        have HT2 := Lib.hid ht
        by_cases hlti : i < m
        · have hci : (i : Int) < (m : Int) := by omega
          obtain ⟨bv, ov, v, hA, hbv, hv, hcv⟩ := rdU_at HVS.out hlti
          subst hA
          have hne : ¬ bv = w.heap.size + 1 + 1 := by have := HNEW.out bv rfl; omega
          have cvv : wr.cell? ⟨bv, ov + i, none⟩ = some (nv v) := (ht.cell (p := ⟨bv, ov + i, none⟩) hbv hne).trans hcv
          have hv16 : v.toNat < 16 := HX3.out (true, v) ((HMEM.out v).1 (List.mem_of_getElem? hv)) rfl
          have hvi : (v.toNat : Int) < 16 := by omega
          have ca := (hbk.cell v.toNat).trans (heldC_at _ hv16)
          have HV := Lib.hid hv
          have fa := hbk.frozen v.toNat
          generalize hcur : (H0 v || (vs.take i).contains v) = cur at ca
          clear hbk ht hv hcv hbv hne
          cases cur with
          | true =>
            have HCUR := Lib.hid hcur
            clear hcur
            gi_wp2
            go_roundw
            case rel =>
              refine ⟨i + 1, by omega, by go_num, ?_, HT2.out.setCell (p := ⟨w.heap.size + 1 + 1, v.toNat, none⟩) (fun _ => rfl) _⟩
              have h9 := HBK.out.set_ v.toNat (.bool true)
              rw [heldC_set] at h9
              refine cast (congrArg (fun H => Bk _ (w.heap.size + 1 + 1) 99 (heldC H)) (funext fun u => ?_)) h9
              have hcv9 := HCUR.out
              by_cases hu : u = v
              · subst hu
                rw [if_pos rfl]
                rw [List.take_add_one, HV.out]; simp
              · rw [if_neg hu]
                rw [List.take_add_one, HV.out]; simp [hu]
            case measure => simp [intOf]; omega
          | false =>
            have HCUR := Lib.hid hcur
            clear hcur
            gi_wp2
            go_roundw
            case rel =>
              refine ⟨i + 1, by omega, by go_num, ?_, HT2.out.setCell (p := ⟨w.heap.size + 1 + 1, v.toNat, none⟩) (fun _ => rfl) _⟩
              have h9 := HBK.out.set_ v.toNat (.bool true)
              rw [heldC_set] at h9
              refine cast (congrArg (fun H => Bk _ (w.heap.size + 1 + 1) 99 (heldC H)) (funext fun u => ?_)) h9
              have hcv9 := HCUR.out
              by_cases hu : u = v
              · subst hu
                rw [if_pos rfl]
                rw [List.take_add_one, HV.out]; simp
              · rw [if_neg hu]
                rw [List.take_add_one, HV.out]; simp [hu]
            case measure => simp [intOf]; omega
        · obtain rfl : m = i := by omega
          have hci : ¬ (m : Int) < (m : Int) := by omega
          have HE := Lib.hid (show Bk wr (w.heap.size + 1 + 1) 99 (heldC (hvL ((pre ++ [x]).map Subtype.val))) by
            have h9 := HBK.out
            rw [HPRE.out]
            refine cast (congrArg (fun H => Bk wr (w.heap.size + 1 + 1) 99 (heldC H)) (funext fun u => ?_)) h9
            show (H0 u || (vs.take m).contains u) = (H0 u || (true && inL tq u))
            congr 1
            rw [Bool.true_and, List.take_of_length_le (by rw [rdU_len HVS.out]; exact Nat.le_refl _), Bool.eq_iff_iff, List.contains_iff_mem, HMEM.out]
            unfold inL
            rw [List.any_eq_true]
            constructor
            · intro hm9
              exact ⟨_, hm9, by simp⟩
            · rintro ⟨⟨b9, u9⟩, h8, h7⟩
              simp only [Bool.and_eq_true, beq_iff_eq] at h7
              obtain ⟨rfl, rfl⟩ := h7
              exact h8)
          have ht9 := HT2.out
          clear hbk ht
          gi_wp2
          refine ⟨(keepsBelow HB2.out).trans (keepsTurn ht9 fun k o hk hB9 _ => by omega), ?_, HE.out, ?_⟩
          · exact (Turn.ofBelow (G := G) HB2.out).then_ ht9 fun k _ hk => by rw [hk]; exact ga
          · exact HT.out.trans ((Turn.ofBelow (G := G) HB2.out).then_ ht9 fun k _ hk => by rw [hk]; exact ga)
    | false =>
      gi_wp2_with (refine ⟨trivial, ?_⟩; gi_at_call 42; refine (CallsIn.inRound l (callsIn_wide.2 hcall)).mono ?_; rintro e w2 ⟨Av, m, cv, vs, rfl, hm6, hmem, hrd, hnew, hb2⟩; have HNEW := Lib.hid hnew; have HMEM := Lib.hid hmem; have HVS := Lib.hid hrd; have HB2 := Lib.hid hb2; clear hmem hrd hb2 hnew hd x1 hcall)
      have hB2s : W.heap.size ≤ w2.heap.size := HB2.out.size
      have HA2 := Lib.hid (show Bk w2 (w.heap.size + 1 + 1) 99 (heldC H0) from H1.out.later HB2.out)
      gi_loopw [18] (fun qv wr => ∃ i : Nat, i ≤ m ∧ qv = .int .i64 (i : Int) ∧ Bk wr (w.heap.size + 1 + 1) 99 (heldC fun u => H0 u) ∧ Turn (fun k => k = w.heap.size + 1 + 1) w2 wr) (fun qv _ => m - (intOf qv).toNat)
      case atStart => exact ⟨0, by omega, rfl, by simpa using HA2.out, Turn.refl _ _⟩
      case round =>
        obtain ⟨i, hi, rfl, hbk, ht⟩ := hrel
        have HBK := Lib.hid hbk
        have HT2 := Lib.hid ht
        by_cases hlti : i < m
        · have hci : (i : Int) < (m : Int) := by omega
          obtain ⟨bv, ov, v, hA, hbv, hv, hcv⟩ := rdU_at HVS.out hlti
          subst hA
          have hne : ¬ bv = w.heap.size + 1 + 1 := by have := HNEW.out bv rfl; omega
          have cvv : wr.cell? ⟨bv, ov + i, none⟩ = some (nv v) := (ht.cell (p := ⟨bv, ov + i, none⟩) hbv hne).trans hcv
          have hv16 : v.toNat < 16 := HX3.out (true, v) ((HMEM.out v).1 (List.mem_of_getElem? hv)) rfl
          have hvi : (v.toNat : Int) < 16 := by omega
          have ca := (hbk.cell v.toNat).trans (heldC_at _ hv16)
          have HV := Lib.hid hv
          have fa := hbk.frozen v.toNat
          generalize hcur : (H0 v) = cur at ca
          clear hbk ht hv hcv hbv hne
          cases cur with
          | true =>
            have HCUR := Lib.hid hcur
            clear hcur
            gi_wp2
            go_roundw
            case rel =>
              refine ⟨i + 1, by omega, by go_num, ?_, HT2.out.setCell (p := ⟨w.heap.size + 1 + 1, v.toNat, none⟩) (fun _ => rfl) _⟩
              have h9 := HBK.out.set_ v.toNat (.bool true)
              rw [heldC_set] at h9
              refine cast (congrArg (fun H => Bk _ (w.heap.size + 1 + 1) 99 (heldC H)) (funext fun u => ?_)) h9
              have hcv9 := HCUR.out
              by_cases hu : u = v
              · subst hu
                rw [if_pos rfl]
                exact hcv9.symm
              · rw [if_neg hu]
                -- so it is
            case measure => simp [intOf]; omega
          | false =>
            have HCUR := Lib.hid hcur
            clear hcur
            gi_wp2
            go_roundw
            case rel =>
              refine ⟨i + 1, by omega, by go_num, ?_, HT2.out.setCell (p := ⟨w.heap.size + 1 + 1, v.toNat, none⟩) (fun _ => rfl) _⟩
              have h9 := HBK.out.set_ v.toNat (.bool false)
              rw [heldC_set] at h9
              refine cast (congrArg (fun H => Bk _ (w.heap.size + 1 + 1) 99 (heldC H)) (funext fun u => ?_)) h9
              have hcv9 := HCUR.out
              by_cases hu : u = v
              · subst hu
                rw [if_pos rfl]
                exact hcv9.symm
              · rw [if_neg hu]
                -- so it is
            case measure => simp [intOf]; omega
        · obtain rfl : m = i := by omega
          have hci : ¬ (m : Int) < (m : Int) := by omega
          have HE := Lib.hid (show Bk wr (w.heap.size + 1 + 1) 99 (heldC (hvL ((pre ++ [x]).map Subtype.val))) by
            have h9 := HBK.out
            rw [HPRE.out]
            refine cast (congrArg (fun H => Bk wr (w.heap.size + 1 + 1) 99 (heldC H)) (funext fun u => ?_)) h9
            show H0 u = (H0 u || (false && inL tq u))
            simp)
          have ht9 := HT2.out
          clear hbk ht
          gi_wp2
          refine ⟨(keepsBelow HB2.out).trans (keepsTurn ht9 fun k o hk hB9 _ => by omega), ?_, HE.out, ?_⟩
          · exact (Turn.ofBelow (G := G) HB2.out).then_ ht9 fun k _ hk => by rw [hk]; exact ga
          · exact HT.out.trans ((Turn.ofBelow (G := G) HB2.out).then_ ht9 fun k _ hk => by rw [hk]; exact ga)
  case done =>
    rintro D ys W1 hD rfl ⟨h1, h2⟩ hK
    have H1 := Lib.hid h1
    have HT := Lib.hid h2
    have hD4 := h2.size
    have cC := (h2.bk bC (ng _ (by omega) (by omega)))
    have c0 := cC.cell 0
    have c1' := cC.cell 1
    have c2' := cC.cell 2
    simp only [List.getElem?_cons_zero, List.getElem?_cons_succ] at c0 c1' c2'
    clear h1 h2 cC
    gi_wp2_with (refine ⟨trivial, ?_⟩; gi_at_call 41; refine (callsIn_wide.2 (literals_any p A n c A1 n1 c1 _)).mono ?_; rintro e w' ⟨rfl, rfl⟩)
    have hH : hvL (ys.map Subtype.val) = heldV L := by rw [HIT.out]; exact hvL_all HLR.out p (A, n, c) l
    rw [hH] at H1
    have hDlt : D < W1.heap.size := (Array.getElem?_eq_some_iff.1 hK).1
    obtain ⟨W2, hW2, hb12⟩ : ∃ W2, W2 = W1.alloc (.cells #[nv p, .slice A n c, .slice A1 n1 c1] 31) ∧ Below W1.heap.size W1 W2 := ⟨_, rfl, (Below.refl _ _).alloc (Nat.le_refl _) _⟩
    have hs2 : W2.heap.size = W1.heap.size + 1 := by rw [hW2]; simp only [World.size_alloc]
    have bI2 : Bk W2 W1.heap.size 31 [nv p, .slice A n c, .slice A1 n1 c1] := by rw [hW2]; exact Bk.new W1 _ _
    have bR2 : Bk W2 (w.heap.size + 1) 4 [.bool false] := (HT.out.bk bR (ng _ (by omega) (by omega))).later hb12
    have bA2 : Bk W2 (w.heap.size + 1 + 1) 99 (heldC (heldV L)) := H1.out.later hb12
    have hK2 : W2.heap[D]? = some (.deferred (some [])) := (hb12.block D hDlt).trans hK
    have hr2 : RdL W2 B A1 n1 R L := ⟨hr0.lenR, hr0.lenL, (HT.out.rd hr0.top (Nat.le_trans hB hB0.size) (fun k hk => ng k (by omega) (by omega))).below (hb12.mono (by omega)), fun i r x h1 h2 => (HT.out.rd (hr0.row i r x h1 h2) (Nat.le_trans hB hB0.size) (fun k hk => ng k (by omega) (by omega))).below (hb12.mono (by omega))⟩
    have HB2w := Lib.hid (show Below w.heap.size w W2 from (HOUT.out W1 HT.out).trans (hb12.mono (by omega)))
    rw [← hW2]
    obtain ⟨G2, hG2⟩ : ∃ G2 : Nat → Prop, G2 = fun k => k = w.heap.size + 1 ∨ W1.heap.size + 1 ≤ k := ⟨_, rfl⟩
    have ga2 : G2 (w.heap.size + 1) := by rw [hG2]; exact Or.inl rfl
    have gn2 : ∀ k, W1.heap.size + 1 ≤ k → G2 k := fun k hk => by rw [hG2]; exact Or.inr hk
    have ng2 : ∀ k, k < W1.heap.size + 1 → k ≠ w.heap.size + 1 → ¬ G2 k := fun k h1 h2 h4 => by rw [hG2] at h4; rcases h4 with h | h <;> omega
    have HOUT2 := Lib.hid (show ∀ W, Turn G2 W2 W → Below w.heap.size w W from fun W ht => HB2w.out.trans (ht.below (fun k _ hk => by rw [hG2] at hk; rcases hk with h | h <;> omega) HB2w.out.size))
    have HRD2 := Lib.hid (show ∀ W, Turn G2 W2 W → ∀ A n l, RdT w B A n l → RdT W B A n l from fun W ht A n l hr => ht.rd (hr.below (HB2w.out.mono hB)) (by omega) (fun k hk => ng2 k (by omega) (by omega)))
    have HSAFE := Lib.hid (show okAll (heldV L) (ys.map Subtype.val) = safeC ((p, l), L) by rw [HIT.out]; exact ok_safe HLR.out p (A, n, c) l)
    clear hW2 hG2 c0 c1' c2' hb12 hH
    refine wpIn_rangeFunc_ownH (α := {x : AtH // RdT w B x.1.1.2.1 x.1.1.2.2.1 x.2 ∧ x.1.1.2.2.1 ≤ 6 ∧ ∀ t ∈ x.2, t.1 = true → t.2.toNat < 16}) (n := 6) rfl (by omega) (gf := 66) (lb := #[.pointer (some ⟨W1.heap.size, 0, none⟩)]) rfl trivial (enters_of Try.func66 (by kernel_rfl) rfl)
      (lit_stops Fence.wide 5 trivial rfl (by omega) (fun x : {x : AtH // RdT w B x.1.1.2.1 x.1.1.2.2.1 x.2 ∧ x.1.1.2.2.1 ≤ 6 ∧ ∀ t ∈ x.2, t.1 = true → t.2.toNat < 16} => encA x.1.1) ys G2 p A n c A1 n1 c1 R L (by rw [← atH_enc p (A, n, c) R L l, ← HIT.out, List.map_map]; rfl) W1.heap.size B (ng2 _ (by omega) (by omega)) (fun k hk => ng2 k (by omega) (by omega)) hn1 W2 (by omega) bI2 hr2)
      (fun h k => Turn.trans h k) (fun W l o o' hl _ _ _ => turnKb W l o o' (gn2 l (by omega))) (Below.refl _ _) (fun _ => rfl)
      (fun (pre : List {x : AtH // RdT w B x.1.1.2.1 x.1.1.2.2.1 x.2 ∧ x.1.1.2.2.1 ≤ 6 ∧ ∀ t ∈ x.2, t.1 = true → t.2.toNat < 16}) W => okAll (heldV L) (pre.map Subtype.val) = true ∧ Bk W (w.heap.size + 1) 4 [.bool false] ∧ Turn G2 W2 W)
      (fun cc (pre : List {x : AtH // RdT w B x.1.1.2.1 x.1.1.2.2.1 x.2 ∧ x.1.1.2.2.1 ≤ 6 ∧ ∀ t ∈ x.2, t.1 = true → t.2.toNat < 16}) W => cc = .ret ∧ okAll (heldV L) (pre.map Subtype.val) = false ∧ Bk W (w.heap.size + 1) 4 [.bool false] ∧ Turn G2 W2 W)
      (ownFrom_turn fun s W W' hs ht => ⟨hs.1, ht.bk hs.2.1 (by omega), hs.2.2.trans (ht.mono fun k _ hk => gn2 k (by omega))⟩)
      (fun cc => ownFrom_turn fun s W W' hs ht => ⟨hs.1, hs.2.1, ht.bk hs.2.2.1 (by omega), hs.2.2.2.trans (ht.mono fun k _ hk => gn2 k (by omega))⟩)
      ⟨rfl, bR2, Turn.refl _ _⟩
      (fun x a' W => ∃ Bx, W1.heap.size + 1 ≤ Bx ∧ Bk W Bx 28 [nv x.1.1.1.1, x.1.1.1.2.val] ∧ a' = { tmps := #[.agg #[nv p, .slice A n c, .slice A1 n1 c1], .pointer (some ⟨w.heap.size, 0, none⟩), .pointer (some ⟨w.heap.size + 1, 0, none⟩), .pointer (some ⟨w.heap.size + 1 + 1, 0, none⟩), undef, undef, undef, undef, .pointer (some ⟨Bx, 0, none⟩), undef, undef, .agg #[nv p, .slice A n c, .slice A1 n1 c1], .func (.func 66) #[] #[.pointer (some ⟨w.heap.size + 1 + 1 + 1, 0, none⟩)], undef, undef, undef, undef, undef, undef, undef, undef, undef, undef, undef, undef, undef, undef, undef, undef, undef, undef, .agg #[nv p, .slice A n c, .slice A1 n1 c1], .func (.func 66) #[] #[.pointer (some ⟨W1.heap.size, 0, none⟩)], .agg #[nv x.1.1.1.1, x.1.1.1.2.val], .bool x.1.1.2, undef, undef, undef, undef, undef, undef, undef, undef, undef, undef, undef, undef], defers := [] })
      (fun x a' _ X Y row hs hg hr => by
        obtain ⟨Bx, h1, h2, h3⟩ := hs
        exact ⟨Bx, h1, bk_kept h2 hg (fun r e => (hr r e).2), h3⟩)
      ?assign2 ?body2 ?done2 ?stop2
    case assign2 =>
      rintro l pre ⟨⟨⟨⟨q, ⟨Aq, nq, cq⟩⟩, hq⟩, tq⟩, hx⟩ W K ⟨h0, h1, h2⟩ hK
      have hsW := h2.size
      dsimp only [encA, SlA.val]
      gi_wp2
      exact hK _ _ ((KeepsOthers.alloc _ _).from _) ((Turn.refl G2 W).alloc _) ⟨h0, h1.later ((Below.refl _ _).alloc (Nat.le_refl _) _), h2.alloc _⟩ ⟨W.heap.size, by omega, Bk.new W _ _, rfl⟩
    case body2 =>
      rintro l pre x a' W hl hrec ⟨h0, h1, h2⟩ ⟨Bx, hBx, bX, rfl⟩ hlt
      obtain ⟨hx1, hx2, hx3⟩ := x.2
      obtain ⟨⟨⟨⟨q, ⟨Aq, nq, cq⟩⟩, hq⟩, tq⟩, hxe⟩ : ∃ y, y = x.1 := ⟨_, rfl⟩
      rw [← hxe] at hx1 hx2 hx3 bX ⊢
      dsimp only [SlA.val] at hx1 hx2 hx3 bX ⊢
      have hsW := h2.size
      have hd := bX.cell 0
      have x1 := bX.cell 1
      simp only [List.getElem?_cons_zero, List.getElem?_cons_succ] at hd x1
      have hcall := vars_any q Aq nq cq tq W ((HRD2.out W h2 _ _ _ hx1).more (by omega)) hx2
      have HT2 := Lib.hid h2
      have H1' := Lib.hid h1
      have HX3 := Lib.hid hx3
      have HPRE := Lib.hid (show okAll (heldV L) ((pre ++ [x]).map Subtype.val) = okL (heldV L) tq by
        unfold okAll at h0 ⊢
        rw [List.map_append, List.map_cons, List.map_nil, ← hxe, List.all_append, h0, Bool.true_and, List.all_cons, List.all_nil, Bool.and_true])
      have H99 := Lib.hid (h2.bk bA2 (ng2 _ (by omega) (by omega)))
      clear h0 h1 h2 hx1 hx2 hx3 hxe
      gi_wp2_with (refine ⟨trivial, ?_⟩; gi_at_call 42; refine (CallsIn.inRound l (callsIn_wide.2 hcall)).mono ?_; rintro e w2 ⟨Av, m, cv, vs, rfl, hm6, hmem, hrd, hnew, hb2⟩; have HMEM := Lib.hid hmem; have HVS := Lib.hid hrd; have HB2 := Lib.hid hb2; clear hmem hrd hb2 hnew hd x1 hcall)
      have HA2 := Lib.hid (H99.out.later HB2.out)
      have hR2' := H1'.out.later HB2.out
      have cR2 := hR2'.cell 0
      have fR2 := hR2'.frozen 0
      simp only [List.getElem?_cons_zero] at cR2
      have HR2' := Lib.hid hR2'
      clear hR2'
      gi_loopw [38] (fun qv wr => ∃ i : Nat, i ≤ m ∧ qv = .int .i64 (i : Int) ∧ (vs.take i).all (heldV L) = true ∧ wr = w2) (fun qv _ => m - (intOf qv).toNat)
      case atStart => exact ⟨0, by omega, rfl, rfl, rfl⟩
      case round =>
        obtain ⟨i, hi, rfl, hall, rfl⟩ := hrel
        have HALL := Lib.hid hall
        clear hall
        by_cases hlti : i < m
        · have hci : (i : Int) < (m : Int) := by omega
          obtain ⟨bv, ov, v, hA, hbv, hv, hcv⟩ := rdU_at HVS.out hlti
          subst hA
          have hv16 : v.toNat < 16 := HX3.out (true, v) ((HMEM.out v).1 (List.mem_of_getElem? hv)) rfl
          have hvi : (v.toNat : Int) < 16 := by omega
          have ca := (HA2.out.cell v.toNat).trans (heldC_at _ hv16)
          have HV := Lib.hid hv
          generalize hcur : heldV L v = cur at ca
          clear hv hbv
          cases cur with
          | true =>
            have HCUR := Lib.hid hcur
            clear hcur
            gi_wp2
            go_roundw
            case rel => exact ⟨i + 1, by omega, by go_num, all_upto HV.out HALL.out HCUR.out, trivial⟩
            case measure => simp [intOf]; omega
          | false =>
            have hbad : okL (heldV L) tq = false := by
              refine Bool.eq_false_iff.2 fun hok => ?_
              have h9 := List.all_eq_true.1 hok (true, v) ((HMEM.out v).1 (List.mem_of_getElem? HV.out))
              rw [hcur] at h9
              cases h9
            have HBAD := Lib.hid hbad
            clear hcur hbad
            gi_wp2
            refine ⟨(keepsBelow HB2.out).trans ((KeepsOthers.setCell _ _ _).from _), rfl, by rw [HPRE.out]; exact HBAD.out, HR2'.out.set_ 0 (.bool false), (HT2.out.trans (Turn.ofBelow HB2.out)).setCell (p := ⟨w.heap.size + 1, 0, none⟩) (fun _ => ga2) _⟩
        · obtain rfl : m = i := by omega
          have hci : ¬ (m : Int) < (m : Int) := by omega
          have hgood : okL (heldV L) tq = true := List.all_eq_true.2 fun t ht => by
            obtain ⟨b9, u9⟩ := t
            cases b9 with
            | false => rfl
            | true =>
              have h8 := (HMEM.out u9).2 ht
              have h7 := List.all_eq_true.1 (all_whole (l := vs) (by rw [rdU_len HVS.out]; exact Nat.le_refl _) HALL.out) u9 h8
              show (!true || heldV L u9) = true
              rw [h7]
              rfl
          have HGOOD := Lib.hid hgood
          clear hgood
          gi_wp2
          exact ⟨keepsBelow HB2.out, Turn.ofBelow HB2.out, by rw [HPRE.out]; exact HGOOD.out, HR2'.out, HT2.out.trans (Turn.ofBelow HB2.out)⟩
    case done2 =>
      rintro D2 zs W hD2 rfl ⟨h1, h3, h4⟩ hKd
      have c2 := h3.cell 0
      have f2 := h3.frozen 0
      simp only [List.getElem?_cons_zero] at c2
      have H3 := Lib.hid h3
      have HT4 := Lib.hid h4
      have H1' := Lib.hid h1
      have hD9 : W.heap[D]? = some (.deferred (some [])) := (h4.block D (by omega) (ng2 D (by omega) (by omega))).trans hK2
      have HD9 := Lib.hid hD9
      have HKD := Lib.hid hKd
      clear h1 h3 h4 hD9 hKd hK hK2
      gi_wp2
      have hK2' : (W.setCell ⟨w.heap.size + 1, 0, none⟩ (.bool true)).heap[D2]? = some (.deferred (some [])) := (KeepsOthers.setCell W ⟨w.heap.size + 1, 0, none⟩ (.bool true)).same D2 _ HKD.out rfl
      have hK1' : ((W.setCell ⟨w.heap.size + 1, 0, none⟩ (.bool true)).putObj D2 (.deferred none)).heap[D]? = some (.deferred (some [])) := (World.putObj_heap_other (by omega)).trans ((KeepsOthers.setCell W ⟨w.heap.size + 1, 0, none⟩ (.bool true)).same D _ HD9.out rfl)
      have b3 := H3.out.set_ 0 (.bool true)
      have c3 := (bk_kept (bk_kept b3 (grownBy_putObj' _ D2 (.deferred none)) (fun r e => by cases e; exact ⟨_, hK2', rfl⟩)) (grownBy_putObj' _ D (.deferred none)) (fun r e => by cases e; exact ⟨_, hK1', rfl⟩)).cell 0
      simp only [List.set_cons_zero, List.getElem?_cons_zero] at c3
      refine ⟨by simp, .inl ⟨_, _, rfl, run_takeDeferred hK2', ?_⟩⟩
      refine ⟨by simp, .inl ⟨_, _, rfl, run_takeDeferred hK1', ?_⟩⟩
      refine ⟨.bool true, by simp [results, Try.f27, go_sem, c3], ?_, ?_⟩
      · rw [← HSAFE.out, H1'.out]
      · have hbw := HOUT2.out _ (((HT4.out.setCell (p := ⟨w.heap.size + 1, 0, none⟩) (fun _ => ga2) (.bool true))).trans (turnKb _ D2 (.deferred (some [])) (.deferred none) (gn2 D2 (by omega))))
        exact hbw.trans (belowK_b (w := w) (Nat.le_refl _) _ D _ _ (by omega) hK1' rfl rfl)
    case stop2 =>
      rintro D2 cc pre W hD2 hpre ⟨rfl, h1, h3, h4⟩ hKd
      have H3 := Lib.hid h3
      have HT4 := Lib.hid h4
      have H1' := Lib.hid h1
      have hD9 : W.heap[D]? = some (.deferred (some [])) := (h4.block D (by omega) (ng2 D (by omega) (by omega))).trans hK2
      have HD9 := Lib.hid hD9
      have HKD := Lib.hid hKd
      clear h1 h3 h4 hD9 hKd hK hK2
      gi_wp2
      have hK1' : (W.putObj D2 (.deferred none)).heap[D]? = some (.deferred (some [])) := (World.putObj_heap_other (by omega)).trans HD9.out
      have c3 := (bk_kept (bk_kept H3.out (grownBy_putObj' _ D2 (.deferred none)) (fun r e => by cases e; exact ⟨_, HKD.out, rfl⟩)) (grownBy_putObj' _ D (.deferred none)) (fun r e => by cases e; exact ⟨_, hK1', rfl⟩)).cell 0
      simp only [List.getElem?_cons_zero] at c3
      refine ⟨by simp, .inl ⟨_, _, rfl, run_takeDeferred HKD.out, ?_⟩⟩
      refine ⟨by simp, .inl ⟨_, _, rfl, run_takeDeferred hK1', ?_⟩⟩
      refine ⟨.bool false, by simp [results, Try.f27, go_sem, c3], ?_, ?_⟩
      · obtain ⟨r, hr⟩ := hpre
        have h9 := H1'.out
        unfold okAll at h9
        rw [← HSAFE.out]
        unfold okAll
        rw [← hr, List.map_append, List.all_append, h9, Bool.false_and]
      · have hbw := HOUT2.out _ (HT4.out.trans (turnKb _ D2 (.deferred (some [])) (.deferred none) (gn2 D2 (by omega))))
        exact hbw.trans (belowK_b (w := w) (Nat.le_refl _) _ D _ _ (by omega) hK1' rfl rfl)
  case stop =>
    rintro D cc pre W _ _ h _
    exact h.elim
end Go.Proofs.Ytfmghkplafploaa

set_option linter.unusedVariables false
set_option linter.unusedSimpArgs false
namespace Go.Proofs.Ytfmghkplafploaa
open Go Go.RowKit

/-! ### Mathematics: the lengths that were seen -/
/-- What f tells is of the keys, and of each of their predicates it tells one. -/
def Agree (f : LenF) (K : List Key) : Prop := ∀ p, (∀ n, f p = some n → (p, n) ∈ K) ∧ (f p = none → ∀ k ∈ K, k.1 ≠ p)
theorem pair_all {K : List Key} (hK : K.Pairwise Fit) : ∀ a ∈ K, ∀ b ∈ K, Fit a b := by
  induction K with
  | nil => intro a ha; cases ha
  | cons k K ih =>
    rw [List.pairwise_cons] at hK
    intro a ha b hb
    rcases List.mem_cons.1 ha with h1 | h1 <;> rcases List.mem_cons.1 hb with h2 | h2
    · rw [h1, h2]; exact fun _ => rfl
    · rw [h1]; exact hK.1 b h2
    · rw [h2]; exact (hK.1 a h1).symm
    · exact ih hK.2 a h1 b h2
theorem agree_fits {f : LenF} {K : List Key} (h : Agree f K) (hK : K.Pairwise Fit) (k : Key) : fitsB f k = true ↔ ∀ y ∈ K, Fit y k := by
  obtain ⟨p, n⟩ := k
  unfold fitsB
  dsimp only
  cases hf : f p with
  | none =>
    have h2 := (h p).2 hf
    simp only [true_iff]
    intro y hy e
    exact absurd e (h2 y hy)
  | some m =>
    have h1 := (h p).1 m hf
    simp only [decide_eq_true_eq]
    constructor
    · rintro rfl y hy e
      exact pair_all hK y hy (p, m) h1 e
    · intro hall
      exact hall (p, m) h1 rfl
theorem agree_add {f : LenF} {K : List Key} (h : Agree f K) (k : Key) (hk : fitsB f k = true) : Agree (fitsF f k) (K ++ [k]) := by
  obtain ⟨p, n⟩ := k
  unfold fitsB at hk
  unfold fitsF
  dsimp only at hk ⊢
  cases hf : f p with
  | none =>
    intro q
    dsimp only
    by_cases hq : q = p
    · rw [if_pos hq]
      refine ⟨fun m hm => ?_, fun hm => by cases hm⟩
      cases hm
      rw [hq]
      simp
    · rw [if_neg hq]
      refine ⟨fun m hm => List.mem_append_left _ ((h q).1 m hm), fun hm y hy => ?_⟩
      rcases List.mem_append.1 hy with hy | hy
      · exact (h q).2 hm y hy
      · simp only [List.mem_singleton] at hy
        subst hy
        exact fun e => hq e.symm
  | some m =>
    intro q
    dsimp only
    refine ⟨fun m hm => List.mem_append_left _ ((h q).1 m hm), fun hm y hy => ?_⟩
    rcases List.mem_append.1 hy with hy | hy
    · exact (h q).2 hm y hy
    · simp only [List.mem_singleton] at hy
      subst hy
      intro e
      dsimp only at e
      rw [← e, hf] at hm
      cases hm
theorem pair_snoc {K : List Key} {k : Key} : (K ++ [k]).Pairwise Fit ↔ K.Pairwise Fit ∧ ∀ y ∈ K, Fit y k := by
  rw [List.pairwise_append]
  simp
theorem runK_spec (r : List Key) : ∀ (f : LenF) (K : List Key), Agree f K → K.Pairwise Fit → ((runK f r).1 = true ↔ (K ++ r).Pairwise Fit) ∧ ((runK f r).1 = true → Agree (runK f r).2 (K ++ r)) := by
  induction r with
  | nil => intro f K h hK; simp only [runK, List.append_nil, true_iff]; exact ⟨hK, fun _ => h⟩
  | cons k r ih =>
    intro f K h hK
    have hf := agree_fits h hK k
    simp only [runK]
    rw [show K ++ k :: r = (K ++ [k]) ++ r by simp]
    by_cases hb : fitsB f k = true
    · rw [if_pos hb]
      exact ih _ _ (agree_add h k hb) (pair_snoc.2 ⟨hK, hf.1 hb⟩)
    · rw [if_neg hb]
      refine ⟨⟨fun e => (by cases e), fun hp => ?_⟩, fun e => (by cases e)⟩
      exact absurd (hf.2 (pair_snoc.1 (List.pairwise_append.1 hp).1).2) hb
theorem agree_nil : Agree (fun _ => none) [] := fun p => ⟨fun n hn => (by cases hn), fun _ k hk => (by cases hk)⟩
/-- The state behind some clauses whose atoms all fit. -/
def Seen (f : LenF) (K : List Key) : Prop := Agree f K ∧ K.Pairwise Fit
theorem seen_nil : Seen (fun _ => none) [] := ⟨agree_nil, List.Pairwise.nil⟩
theorem seen_run {f : LenF} {K : List Key} (h : Seen f K) (r : List Key) : (runK f r).1 = fitL (K ++ r) := by
  rw [Bool.eq_iff_iff, (runK_spec r f K h.1 h.2).1, fitL, decide_eq_true_iff]
theorem seen_more {f : LenF} {K : List Key} (h : Seen f K) (r : List Key) (hr : (runK f r).1 = true) : Seen (runK f r).2 (K ++ r) :=
  ⟨(runK_spec r f K h.1 h.2).2 hr, (runK_spec r f K h.1 h.2).1.1 hr⟩
/-- What wrong answers, and what is seen behind it. -/
def wrongM (f : LenF) (c : Cl) : Nat := if mayC c = false then 8 else if safeC c = false then 10 else if (runK f (keysC c)).1 = false then 9 else 0
theorem wrong_bad {f : LenF} {C : List Cl} {i : Nat} {x : Cl} (h : Seen f ((C.take i).flatMap keysC)) (hx : C[i]? = some x) : wrongM f x = badAt C i x := by
  unfold wrongM badAt
  rw [take_len_flat hx, ← seen_run h]
set_option maxRecDepth 100000 in
set_option maxHeartbeats 4000000 in
theorem wrong_any (b M : Nat) (f : LenF) (p : UInt32) (A : Option Addr) (n c : Nat) (l : List Tm) (A1 : Option Addr) (n1 c1 : Nat) (R : List SlA) (L : List Li) (B : Nat) (w : World) (hm : MapL w b M f) (hM : M + (n1 + 1) ≤ 1000000000000000)
    (h : RdT w B A n l) (h1 : RdL w B A1 n1 R L) (hB : B ≤ w.heap.size) (hbB : B ≤ b) (hn : n ≤ 1000000) (hn1 : n1 ≤ 1000000) (hk : ∀ x ∈ L, x.2.2.length ≤ 1000000) :
    Calls Try.prog 18 #[.map (some b), .agg #[nv p, .slice A n c, .slice A1 n1 c1]] w fun e w' =>
      e = .returned (.int .i64 (wrongM f ((p, l), L) : Int)) ∧ (wrongM f ((p, l), L) = 0 → MapL w' b (M + (n1 + 1)) (runK f (keysC ((p, l), L))).2 ∧ (runK f (keysC ((p, l), L))).1 = true) ∧ Turn (fun k => k = b) w w' := by
  have HK := Lib.hid hk
  have hbw := hm.lt
  obtain ⟨W, hW, hb, hbw0⟩ := box3 w p (.slice A n c) (.slice A1 n1 c1) 31
  have HW := Lib.hid hW
  have HH := Lib.hid hb
  have HBW := Lib.hid hbw0
  have HR := Lib.hid (h.below (hbw0.mono hB))
  have HR1 := Lib.hid (h1.below (hbw0.mono hB))
  have HM := Lib.hid (hm.below hbw0)
  have hsW : w.heap.size ≤ W.heap.size := hbw0.size
  have k0 := hb.read (Below.refl _ _) 0 rfl
  have k1 := hb.read (Below.refl _ _) 1 rfl
  have k2 := hb.read (Below.refl _ _) 2 rfl
  have hmay := cMay_any p A n c l A1 n1 c1 R L W (HR.out.more (by omega)) (HR1.out.more (by omega)) hn hn1 hk
  clear h h1 hk hm hW hb hbw0
  go_enter Try.func18, Try.ntmps18
  go_upto_region 1 with (fail)
  rw [← HW.out]
  repeat (first | go_skip | go_guarded | go_step)
  refine hmay.mono ?_
  rintro e w1 ⟨rfl, hb1⟩
  have HB1 := Lib.hid hb1
  have hs1 : W.heap.size ≤ w1.heap.size := hb1.size
  have hh1 := HH.out.later hb1
  have HH1 := Lib.hid hh1
  clear hmay hb1 k0 k1 k2
  have k0 := hh1.read (Below.refl _ _) 0 rfl
  have k1 := hh1.read (Below.refl _ _) 1 rfl
  have k2 := hh1.read (Below.refl _ _) 2 rfl
  clear hh1
  dsimp only
  cases hmm : mayC ((p, l), L) with
  | false =>
    have HE := Lib.hid (show wrongM f ((p, l), L) = 8 by unfold wrongM; rw [if_pos hmm])
    clear hmm
    repeat (first | go_skip | go_guarded | go_step)
    go_ret
    exact ⟨by rw [HE.out]; rfl, fun h => by rw [HE.out] at h; exact absurd h (by decide), (Turn.ofBelow HBW.out).trans (Turn.ofBelow (HB1.out.mono (Nat.le_refl _)))⟩
  | true =>
    have HMY := Lib.hid hmm
    have hheld := allHeld_any p A n c l A1 n1 c1 R L B w1 (HR.out.below (HB1.out.mono (by omega))) (HR1.out.below (HB1.out.mono (by omega))) (by omega) hn1 hmm
    clear hmm
    repeat (first | go_skip | go_guarded | go_step)
    refine hheld.mono ?_
    rintro e w2 ⟨rfl, hb2⟩
    have HB2 := Lib.hid (HB1.out.trans (hb2.mono hs1))
    have hs2 : w1.heap.size ≤ w2.heap.size := hb2.size
    have hh2 := HH1.out.later hb2
    have HH2 := Lib.hid hh2
    clear hheld hb2 k0 k1 k2
    have k0 := hh2.read (Below.refl _ _) 0 rfl
    have k1 := hh2.read (Below.refl _ _) 1 rfl
    have k2 := hh2.read (Below.refl _ _) 2 rfl
    clear hh2
    dsimp only
    cases hsf : safeC ((p, l), L) with
    | false =>
      have HE := Lib.hid (show wrongM f ((p, l), L) = 10 by unfold wrongM; rw [if_neg (by rw [HMY.out]; exact Bool.noConfusion), if_pos hsf])
      clear hsf
      repeat (first | go_skip | go_guarded | go_step)
      go_ret
      exact ⟨by rw [HE.out]; rfl, fun h => by rw [HE.out] at h; exact absurd h (by decide), (Turn.ofBelow HBW.out).trans (Turn.ofBelow HB2.out)⟩
    | true =>
      have HSF := Lib.hid hsf
      clear hsf
      have hfit := fitAll_any b M f p A n c l A1 n1 c1 R L B w2 (HM.out.below HB2.out) hM (HR.out.below (HB2.out.mono (by omega))) (HR1.out.below (HB2.out.mono (by omega))) (by omega) hbB hn hn1 HK.out
      repeat (first | go_skip | go_guarded | go_step)
      refine hfit.mono ?_
      rintro e w3 ⟨rfl, hm3, ht3⟩
      have HM3 := Lib.hid hm3
      have HT3 := Lib.hid (((Turn.ofBelow (G := fun k => k = b) HBW.out).trans (Turn.ofBelow HB2.out)).trans ht3)
      clear hfit hm3 ht3 k0 k1 k2
      dsimp only
      cases hrk : (runK f (keysC ((p, l), L))).1 with
      | false =>
        have HE := Lib.hid (show wrongM f ((p, l), L) = 9 by unfold wrongM; rw [if_neg (by rw [HMY.out]; exact Bool.noConfusion), if_neg (by rw [HSF.out]; exact Bool.noConfusion), if_pos hrk])
        clear hrk
        repeat (first | go_skip | go_guarded | go_step)
        go_ret
        exact ⟨by rw [HE.out]; rfl, fun h => by rw [HE.out] at h; exact absurd h (by decide), HT3.out⟩
      | true =>
        have HE := Lib.hid (show wrongM f ((p, l), L) = 0 by unfold wrongM; rw [if_neg (by rw [HMY.out]; exact Bool.noConfusion), if_neg (by rw [HSF.out]; exact Bool.noConfusion), if_neg (by rw [hrk]; exact Bool.noConfusion)])
        have HRK := Lib.hid hrk
        clear hrk
        repeat (first | go_skip | go_guarded | go_step)
        go_ret
        exact ⟨by rw [HE.out]; rfl, fun _ => ⟨HM3.out, HRK.out⟩, HT3.out⟩
end Go.Proofs.Ytfmghkplafploaa

set_option linter.unusedVariables false
set_option linter.unusedSimpArgs false
namespace Go.Proofs.Ytfmghkplafploaa
open Go Go.RowKit

set_option maxRecDepth 100000 in
set_option maxHeartbeats 4000000 in
theorem right_any (A : Option Addr) (n c : Nat) (Q : List ClA) (C : List Cl) (w : World) (h : RdCs w w.heap.size A n Q C) (hs : Slim C) :
    Calls Try.prog 12 #[.slice A n c] w fun e w' => e = .returned (.tuple #[.int .i64 ((rightM C).1 : Int), .int .i64 ((rightM C).2 : Int)]) ∧ Below w.heap.size w w' := by
  have HC := Lib.hid h
  have HS := Lib.hid hs
  have hlen := h.lenC
  clear h hs
  have hmm := @run_makeMap Try.prog
  by_cases hb : 400 < n
  · have hbi : (400 : Int) < (n : Int) := by omega
    have HM := Lib.hid (show rightM C = (0, 6) by unfold rightM; rw [if_pos (by omega)])
    clear hlen
    go_enter Try.func12, Try.ntmps12
    repeat (first | go_skip | go_guarded | go_step)
    go_ret2
    exact ⟨by rw [HM.out]; rfl, Below.refl _ _⟩
  · have hbi : ¬ (400 : Int) < (n : Int) := by omega
    have HM := Lib.hid (show rightM C = rightFrom C C 0 by unfold rightM; rw [if_neg (by omega)])
    have HLEN := Lib.hid hlen
    clear hlen
    obtain ⟨W0, hW0, hm0, hb0⟩ : ∃ W0, W0 = w.alloc (.map #[] 0) ∧ MapL W0 w.heap.size 0 (fun _ => none) ∧ Below w.heap.size w W0 := ⟨_, rfl, MapL.made w, (Below.refl _ _).alloc (Nat.le_refl _) _⟩
    have HW0 := Lib.hid hW0
    have HM0 := Lib.hid hm0
    have HB0 := Lib.hid hb0
    clear hW0 hm0 hb0
    go_enter Try.func12, Try.ntmps12
    go_upto_region 4 with (fail)
    rw [← HW0.out]
    clear hmm
    repeat (first | go_skip | go_guarded | go_step)
    go_loopw [14] (fun q wr => ∃ (i : Nat) (f : LenF), i ≤ n ∧ q = .int .i64 (i : Int) ∧ rightM C = rightFrom C (C.drop i) i ∧ Seen f ((C.take i).flatMap keysC) ∧ MapL wr w.heap.size (i * 1000001) f ∧ Below w.heap.size w wr) (fun q _ => n - (intOf q).toNat)
    case atStart => exact ⟨0, fun _ => none, by omega, rfl, HM.out, seen_nil, HM0.out, HB0.out⟩
    case round =>
      obtain ⟨i, f, hi, rfl, hrm, hseen, hml, hbr⟩ := hrel
      have HRM := Lib.hid hrm
      have HBR := Lib.hid hbr
      have HSN := Lib.hid hseen
      have HML := Lib.hid hml
      clear hrm hbr hseen hml
      by_cases hlt : i < n
      · have hci : (i : Int) < (n : Int) := by omega
        have hrc := HC.out.below HBR.out
        obtain ⟨b, o, p, l, L, A0, n0, c0, A1, n1, c1, R, hA, hb, hx, hq, hd0, hd1, hd2, hrt, hrl⟩ := hrc.at_ hlt
        obtain ⟨hs1, hs2, hs3⟩ := HS.out _ (List.mem_of_getElem? hx)
        dsimp only at hs1 hs2 hs3
        have hn0 : n0 ≤ 1000000 := by have := rdT_len hrt; omega
        have hn1 : n1 ≤ 1000000 := by have := hrl.lenL; omega
        have HDROP := Lib.hid (show C.drop i = ((p, l), L) :: C.drop (i + 1) by
          obtain ⟨q1, q2⟩ := List.getElem?_eq_some_iff.1 hx
          rw [List.drop_eq_getElem_cons q1, q2])
        have HTK := Lib.hid (take_len_flat hx)
        have HBAD := Lib.hid (wrong_bad HSN.out hx)
        subst hA
        obtain ⟨U, hU, hbU, hbu⟩ := box3 wr p (.slice A0 n0 c0) (.slice A1 n1 c1) 31
        have HU := Lib.hid hU
        have hcall := wrong_any w.heap.size (i * 1000001) f p A0 n0 c0 l A1 n1 c1 R L w.heap.size U (HML.out.below hbu) (by omega) (hrt.below (hbu.mono HBR.out.size)) (hrl.below (hbu.mono HBR.out.size)) (Nat.le_trans HBR.out.size hbu.size) (Nat.le_refl _) hn0 hn1 hs3
        have HBU := Lib.hid (HBR.out.trans (hbu.mono HBR.out.size))
        have k0 := hbU.read (Below.refl _ _) 0 rfl
        have k1 := hbU.read (Below.refl _ _) 1 rfl
        have k2 := hbU.read (Below.refl _ _) 2 rfl
        clear hrc hx hq hrt hrl hb hs1 hs2 hs3 hU hbU hbu
        go_upto_region 7 with (fail)
        rw [← HU.out]
        clear hd0 hd1 hd2
        repeat (first | go_skip | go_guarded | go_step)
        refine hcall.mono ?_
        rintro e w2 ⟨rfl, hok, ht2⟩
        have HOK := Lib.hid hok
        have HBW2 := Lib.hid (HBU.out.trans (ht2.below (B := w.heap.size) (fun y _ e => by rw [e]; exact Nat.le_refl _) HBU.out.size))
        clear hcall hok ht2 k0 k1 k2
        dsimp only
        obtain ⟨er, her⟩ : ∃ er, er = wrongM f ((p, l), L) := ⟨_, rfl⟩
        rw [← her] at HOK HBAD ⊢
        by_cases h0 : er = 0
        · have hd : ((er : Int) != 0) = false := by rw [h0]; rfl
          obtain ⟨hm2, hr2⟩ := HOK.out h0
          have HM2 := Lib.hid hm2
          have HR2 := Lib.hid hr2
          have H0 := Lib.hid h0
          clear hm2 hr2 h0 her
          repeat (first | go_skip | go_guarded | go_step)
          go_roundw
          case rel =>
            refine ⟨i + 1, _, by omega, by go_num, ?_, ?_, HM2.out.more (by omega), HBW2.out⟩
            · rw [HRM.out, HDROP.out, rightFrom_ok (by rw [← HBAD.out]; exact H0.out)]
            · rw [HTK.out]; exact seen_more HSN.out _ HR2.out
          case measure => simp [intOf]; omega
        · have hd : ((er : Int) != 0) = true := by rw [bne_iff_ne]; omega
          have H0 := Lib.hid h0
          clear h0 her
          repeat (first | go_skip | go_guarded | go_step)
          go_ret2
          exact ⟨by rw [HRM.out, HDROP.out, rightFrom_bad (by rw [← HBAD.out]; exact H0.out), ← HBAD.out]; rfl, HBW2.out⟩
      · obtain rfl : n = i := by omega
        have hci : ¬ (n : Int) < (n : Int) := by omega
        have HE := Lib.hid (show rightM C = (0, 0) by rw [HRM.out, List.drop_eq_nil_of_le (by have := HLEN.out; omega)]; rfl)
        repeat (first | go_skip | go_guarded | go_step)
        go_ret2
        exact ⟨by rw [HE.out]; rfl, HBR.out⟩
end Go.Proofs.Ytfmghkplafploaa

