/- Layer 11 (safe), the landed program: fitAll. -/
import Derived.Test.YtggnhgfickkgdaaSfL
set_option linter.unusedVariables false
set_option linter.unusedSimpArgs false
namespace Go.Proofs.Ytggnhgfickkgdaa
open Go Go.RowKit Go.Shelf
attribute [local go_sem] Oper.semAt_some

/-- Keys that come one by one: whether all fit, and the lengths behind. -/
def runK (f : LenF) : List Key → Bool × LenF
  | [] => (true, f)
  | k :: r => if fitsB f k = true then runK (fitsF f k) r else (false, f)
theorem runK_snoc {f g : LenF} {l : List Key} (k : Key) (h : runK f l = (true, g)) : runK f (l ++ [k]) = if fitsB g k = true then (true, fitsF g k) else (false, g) := by
  induction l generalizing f with
  | nil =>
    simp only [runK, Prod.mk.injEq, true_and] at h
    subst h
    simp [runK]
  | cons a l ih =>
    simp only [runK, List.cons_append] at h ⊢
    by_cases ha : fitsB f a = true
    · rw [if_pos ha] at h ⊢
      exact ih h
    · rw [if_neg ha] at h
      cases h
theorem runK_false {f g : LenF} {l : List Key} (r : List Key) (h : runK f l = (false, g)) : runK f (l ++ r) = (false, g) := by
  induction l generalizing f with
  | nil => simp [runK] at h
  | cons a l ih =>
    simp only [runK, List.cons_append] at h ⊢
    by_cases ha : fitsB f a = true
    · rw [if_pos ha] at h ⊢
      exact ih h
    · rw [if_neg ha] at h ⊢
      exact h
/-- All atoms of a clause, as they are yielded. -/
def atE (p : UInt32) (s : SlA) (R : List SlA) (L : List Li) : List (AtR × Bool) := ((p, s), false) :: (L.zip R).map fun z => ((z.1.2.1, z.2), !z.1.1)
def encA (x : AtR × Bool) : Array Value := #[.agg #[nv x.1.1, x.1.2.val], .bool x.2]
theorem atE_enc (p : UInt32) (s : SlA) (R : List SlA) (L : List Li) : (atE p s R L).map encA = litE p s R L := by
  simp [atE, litE, encA]
theorem atE_keys {w : World} {B n1 : Nat} {A1 : Option Addr} {R : List SlA} {L : List Li} (h : RdL w B A1 n1 R L) (p : UInt32) (A : Option Addr) (n c : Nat) (l : List Tm) (hl : l.length = n) :
    (atE p (A, n, c) R L).map (fun x => keyR x.1) = keysC ((p, l), L) := by
  rw [← keys_atoms h p A n c l hl]
  simp [atE, atomsR]
theorem subs {β : Type} {P : β → Prop} : ∀ (l : List β), (∀ x ∈ l, P x) → ∃ items : List {x // P x}, items.map (·.1) = l
  | [], _ => ⟨[], rfl⟩
  | x :: l, h => by
    obtain ⟨i, hi⟩ := subs l fun y hy => h y (List.mem_cons_of_mem _ hy)
    exact ⟨⟨x, h x (List.mem_cons_self ..)⟩ :: i, by simp [hi]⟩
theorem ownFrom_turn {β : Type} {B : Nat} {I : β → World → Prop} (h : ∀ s W W', I s W → Turn (fun k => B ≤ k) W W' → I s W') : OwnFrom B I :=
  fun s W W' row hs hg hr => h s W W' hs (Turn.ofGrown hg fun k e => (hr k e).1)
theorem bk_kept {W W' : World} {g : Nat} {t : TypeId} {cs : List Value} {row : Option Nat} (h : Bk W g t cs) (hg : W.grownBy W' row) (hr : ∀ r, row = some r → ∃ o : Obj, W.heap[r]? = some o ∧ o.isCells = false) : Bk W' g t cs :=
  (hg.block g h.lt fun e => by
    obtain ⟨o, ho, hc⟩ := hr g e.symm
    rw [show W.heap[g]? = _ from h] at ho
    cases ho
    cases hc).trans h
theorem turnKb {G : Nat → Prop} (W : World) (l : Nat) (o o' : Obj) (hl : G l) : Turn G W (W.putObj l o') := Turn.ofGrown (grownBy_putObj' W l o') fun k e => by cases e; exact hl
set_option maxRecDepth 100000 in
set_option maxHeartbeats 4000000 in
theorem fitAll_any (b M : Nat) (f : LenF) (p : UInt32) (A : Option Addr) (n c : Nat) (l : List Tm) (A1 : Option Addr) (n1 c1 : Nat) (R : List SlA) (L : List Li) (B : Nat) (w : World) (hm : MapL w b M f) (hM : M + (n1 + 1) ≤ 1000000000000000)
    (h : RdT w B A n l) (h1 : RdL w B A1 n1 R L) (hB : B ≤ w.heap.size) (hbB : B ≤ b) (hn : n ≤ 1000000) (hn1 : n1 ≤ 1000000) (hk : ∀ x ∈ L, x.2.2.length ≤ 1000000) :
    Calls Try.prog 23 #[.map (some b), .agg #[nv p, .slice A n c, .slice A1 n1 c1]] w fun e w' =>
      e = .returned (.bool (runK f (keysC ((p, l), L))).1) ∧ MapL w' b (M + (n1 + 1)) (runK f (keysC ((p, l), L))).2 ∧ Turn (fun k => k = b) w w' := by
  have HM := Lib.hid hm
  have HR1 := Lib.hid h1
  have HKE := Lib.hid (atE_keys h1 p A n c l (rdT_len h))
  have hbw := hm.lt
  obtain ⟨items, hit⟩ : ∃ items : List {x : AtR × Bool // x.1.2.2.1 ≤ 1000000}, items.map (·.1) = atE p (A, n, c) R L := subs _ (fun x hx => by
    simp only [atE, List.mem_cons, List.mem_map] at hx
    rcases hx with rfl | ⟨⟨y, r⟩, hy, rfl⟩
    · exact hn
    · obtain ⟨i, hi⟩ := List.mem_iff_getElem?.1 hy
      rw [List.getElem?_zip_eq_some] at hi
      have h2 := rdT_len (h1.row i r y hi.2 hi.1)
      have h3 := hk y (List.mem_of_getElem? hi.1)
      dsimp only
      omega)
  have hlen : items.length = n1 + 1 := by
    have := congrArg List.length hit
    simp only [atE, List.length_map, List.length_cons, List.length_zip, h1.lenL, h1.lenR] at this
    omega
  have HIT := Lib.hid hit
  have HLEN := Lib.hid hlen
  obtain ⟨W0, hW0, bS, bC, bR, hB0, hsz⟩ : ∃ W0, W0 = (((w.alloc (.cells #[.map (some b)] 52)).alloc (.cells #[nv p, .slice A n c, .slice A1 n1 c1] 36)).alloc (.cells #[.bool false] 4)).alloc (.cells #[nv p, .slice A n c, .slice A1 n1 c1] 36) ∧
      Bk W0 w.heap.size 52 [.map (some b)] ∧ Bk W0 (w.heap.size + 1 + 1 + 1) 36 [nv p, .slice A n c, .slice A1 n1 c1] ∧ Bk W0 (w.heap.size + 1 + 1) 4 [.bool false] ∧ Below w.heap.size w W0 ∧ W0.heap.size = w.heap.size + 1 + 1 + 1 + 1 := by
    refine ⟨_, rfl, ?_, ?_, ?_, ?_, ?_⟩
    · exact (((Bk.new w _ _).later ((Below.refl _ _).alloc (Nat.le_refl _) _)).later ((Below.refl _ _).alloc (Nat.le_refl _) _)).later ((Below.refl _ _).alloc (Nat.le_refl _) _)
    · have := Bk.new (((w.alloc (.cells #[.map (some b)] 52)).alloc (.cells #[nv p, .slice A n c, .slice A1 n1 c1] 36)).alloc (.cells #[.bool false] 4)) 36 [nv p, .slice A n c, .slice A1 n1 c1]
      simpa only [World.size_alloc] using this
    · have := (Bk.new ((w.alloc (.cells #[.map (some b)] 52)).alloc (.cells #[nv p, .slice A n c, .slice A1 n1 c1] 36)) 4 [.bool false]).later ((Below.refl _ _).alloc (Nat.le_refl _) (.cells #[nv p, .slice A n c, .slice A1 n1 c1] 36))
      simpa only [World.size_alloc] using this
    · exact ((((Below.refl w.heap.size w).alloc (Nat.le_refl _) _).alloc (by simp) _).alloc (by simp; omega) _).alloc (by simp; omega) _
    · simp only [World.size_alloc]
  have HW0 := Lib.hid hW0
  have HB0 := Lib.hid hB0
  obtain ⟨G, hG⟩ : ∃ G : Nat → Prop, G = fun k => k = b ∨ k = w.heap.size + 1 + 1 ∨ w.heap.size + 1 + 1 + 1 + 1 ≤ k := ⟨_, rfl⟩
  have gb : G b := by rw [hG]; exact Or.inl rfl
  have gr : G (w.heap.size + 1 + 1) := by rw [hG]; exact Or.inr (Or.inl rfl)
  have gn : ∀ k, w.heap.size + 1 + 1 + 1 + 1 ≤ k → G k := fun k hk => by rw [hG]; exact Or.inr (Or.inr hk)
  have ng : ∀ k, k < w.heap.size + 1 + 1 + 1 + 1 → k ≠ b → k ≠ w.heap.size + 1 + 1 → ¬ G k := fun k h1 h2 h3 h4 => by rw [hG] at h4; rcases h4 with h | h | h <;> omega
  have hout : ∀ W, Turn G W0 W → Turn (fun k => k = b) w W := fun W ht =>
    ⟨ht.os.trans hB0.os, ht.tape.trans hB0.tape, ht.output.trans hB0.output, Nat.le_trans hB0.size ht.size, fun k hk hn => (ht.block k (by omega) (ng k (by omega) hn (by omega))).trans (hB0.block k hk)⟩
  have HOUT := Lib.hid hout
  have hm0 : MapL W0 b M f := hm.below hB0
  have hr0 : RdL W0 B A1 n1 R L := h1.below (hB0.mono hB)
  clear hit hlen hW0 hG hout hm h h1 hk
  refine (callsIn_wide (n := 6)).1 ?_
  refine callsIn_of_wp_marks Try.func23 rfl trivial ?_ rfl
  simp only [Try.ntmps23, List.size_toArray, List.length_cons, List.length_nil, Nat.reduceAdd, Nat.reduceSub, Array.replicate_succ, Array.replicate_zero, List.push_toArray, List.append_toArray, List.nil_append, List.cons_append]
  gi_wp2_with (refine ⟨trivial, ?_⟩; gi_at_call 30; refine (callsIn_wide.2 (literals_any p A n c A1 n1 c1 _)).mono ?_; rintro e w' ⟨rfl, rfl⟩)
  rw [← HW0.out]
  refine wpIn_rangeFunc_ownH (n := 6) rfl (by omega) (gf := 34) (lb := #[.pointer (some ⟨w.heap.size + 1 + 1 + 1, 0, none⟩)]) rfl trivial (enters_of Try.func34 (by kernel_rfl) rfl)
    (lit_stops Fence.wide 5 trivial rfl (by omega) (fun x : {x : AtR × Bool // x.1.2.2.1 ≤ 1000000} => encA x.1) items G p A n c A1 n1 c1 R L (by rw [← atE_enc, ← HIT.out, List.map_map]; rfl) (w.heap.size + 1 + 1 + 1) B (ng _ (by omega) (by omega) (by omega)) (fun k hk => ng k (by omega) (by omega) (by omega)) hn1 W0 (Nat.le_trans hB hB0.size) bC hr0)
    (fun h k => Turn.trans h k) (fun W l o o' hl _ _ _ => turnKb W l o o' (gn l (by omega))) (Below.refl _ _) (fun _ => rfl)
    (fun pre W => (∃ g, runK f (pre.map fun x => keyR x.1.1) = (true, g) ∧ MapL W b (M + pre.length) g) ∧ Bk W (w.heap.size + 1 + 1) 4 [.bool false] ∧ Turn G W0 W)
    (fun cc pre W => cc = .ret ∧ (∃ g, runK f (pre.map fun x => keyR x.1.1) = (false, g) ∧ MapL W b (M + pre.length) g) ∧ Bk W (w.heap.size + 1 + 1) 4 [.bool false] ∧ Turn G W0 W)
    (ownFrom_turn fun s W W' hs ht => by
      obtain ⟨⟨g, h1, h2⟩, h3, h4⟩ := hs
      exact ⟨⟨g, h1, h2.turn ht (by omega)⟩, ht.bk h3 (by omega), h4.trans (ht.mono fun k _ hk => gn k (by omega))⟩)
    (fun cc => ownFrom_turn fun s W W' hs ht => by
      obtain ⟨h0, ⟨g, h1, h2⟩, h3, h4⟩ := hs
      exact ⟨h0, ⟨g, h1, h2.turn ht (by omega)⟩, ht.bk h3 (by omega), h4.trans (ht.mono fun k _ hk => gn k (by omega))⟩)
    ⟨⟨f, rfl, hm0⟩, bR, Turn.refl _ _⟩
    (fun x a' W => ∃ Bx, w.heap.size + 1 + 1 + 1 + 1 ≤ Bx ∧ Bk W Bx 33 [nv x.1.1.1, x.1.1.2.val] ∧ a' = { tmps := #[.map (some b), .agg #[nv p, .slice A n c, .slice A1 n1 c1], .pointer (some ⟨w.heap.size, 0, none⟩), .pointer (some ⟨w.heap.size + 1, 0, none⟩), .pointer (some ⟨w.heap.size + 1 + 1, 0, none⟩), .pointer (some ⟨Bx, 0, none⟩), .agg #[nv p, .slice A n c, .slice A1 n1 c1], .func (.func 34) #[] #[.pointer (some ⟨w.heap.size + 1 + 1 + 1, 0, none⟩)], .agg #[nv x.1.1.1, x.1.1.2.val], .bool x.1.2, undef, undef, undef, undef, undef, undef, undef, undef], defers := [] })
    (fun x a' _ X Y row hs hg hr => by
      obtain ⟨Bx, h1, h2, h3⟩ := hs
      exact ⟨Bx, h1, bk_kept h2 hg (fun r e => (hr r e).2), h3⟩)
    ?assign ?body ?done ?stop
  case assign =>
    rintro l pre ⟨⟨⟨q, ⟨Aq, nq, cq⟩⟩, hq⟩, hx⟩ W K ⟨⟨g, h1, h2⟩, h3, h4⟩ hK
    have hsW := h4.size
    dsimp only [encA, SlA.val]
    gi_wp2
    exact hK _ _ ((KeepsOthers.alloc _ _).from _) ((Turn.refl G W).alloc _) ⟨⟨g, h1, h2.below ((Below.refl _ _).alloc (Nat.le_refl _) _)⟩, h3.later ((Below.refl _ _).alloc (Nat.le_refl _) _), h4.alloc _⟩ ⟨W.heap.size, by omega, Bk.new W _ _, rfl⟩
  case body =>
    rintro l pre ⟨⟨⟨q, ⟨Aq, nq, cq⟩⟩, hq⟩, hx⟩ a' W hl hrec ⟨⟨g, h1, h2⟩, h3, h4⟩ ⟨Bx, hBx, bX, rfl⟩ hlt
    have hsW := h4.size
    have cS := (h4.bk bS (ng _ (by omega) (by omega) (by omega))).cell 0
    have x0 := bX.cell 0
    have x1 := bX.cell 1
    dsimp only [SlA.val] at hx x0 x1
    simp only [List.getElem?_cons_zero, List.getElem?_cons_succ] at cS x0 x1
    have hcall := fits_any b (M + pre.length) g q nq W h2 (by have := HLEN.out; omega) (by omega)
    have HT := Lib.hid h4
    have H3 := Lib.hid h3
    have HL := Lib.hid h1
    clear h1 h2 h3 h4
    cases hfb : fitsB g (q, nq) with
    | false =>
      rw [hfb] at hcall
      have HF := Lib.hid hfb
      clear hfb
      gi_wp2_with (refine ⟨trivial, ?_⟩; gi_at_call 24; refine (CallsIn.inRound l (callsIn_wide.2 hcall)).mono ?_; rintro e w2 ⟨rfl, hm2, hg2⟩; have b2 := (Turn.ofGrown (G := fun k => k = b) hg2 fun k e => by cases e; rfl).bk H3.out (by omega); have c2 := b2.cell 0; have f2 := b2.frozen 0; simp only [List.getElem?_cons_zero] at c2)
      have ht2 : Turn G W w2 := Turn.ofGrown hg2 fun k e => by cases e; exact gb
      refine ⟨(KeepsFrom.of_grownBy hg2 (by intro j e; cases e; omega)).trans ((KeepsOthers.setCell _ _ _).from _), rfl, ⟨fitsF g (q, nq), ?_, ?_⟩, ?_, ?_⟩
      · rw [List.map_append, List.map_cons, List.map_nil, runK_snoc _ HL.out]
        have e : fitsB g (keyR (q, Aq, nq, cq)) = false := HF.out
        rw [e, if_neg (by decide)]
        have e2 : fitsF g (q, nq) = g := by
          have := HF.out
          unfold fitsB at this
          unfold fitsF
          split at this
          · rfl
          · cases this
        rw [e2]
      · have := hm2.turn ((Turn.refl (fun k => k = w.heap.size + 1 + 1) w2).setCell (p := ⟨w.heap.size + 1 + 1, 0, none⟩) (fun _ => rfl) (.bool false)) (by omega)
        rw [List.length_append, List.length_cons, List.length_nil]
        exact this
      · exact b2.set_ 0 (.bool false)
      · exact (HT.out.trans ht2).setCell (p := ⟨w.heap.size + 1 + 1, 0, none⟩) (fun _ => gr) _
    | true =>
      rw [hfb] at hcall
      have HF := Lib.hid hfb
      clear hfb
      gi_wp2_with (refine ⟨trivial, ?_⟩; gi_at_call 24; refine (CallsIn.inRound l (callsIn_wide.2 hcall)).mono ?_; rintro e w2 ⟨rfl, hm2, hg2⟩)
      have ht2 : Turn G W w2 := Turn.ofGrown hg2 fun k e => by cases e; exact gb
      refine ⟨KeepsFrom.of_grownBy hg2 (by intro j e; cases e; omega), ht2, ⟨fitsF g (q, nq), ?_, ?_⟩, ?_, HT.out.trans ht2⟩
      · rw [List.map_append, List.map_cons, List.map_nil, runK_snoc _ HL.out]
        have e : fitsB g (keyR (q, Aq, nq, cq)) = true := HF.out
        rw [e, if_pos rfl]
        rfl
      · rw [List.length_append, List.length_cons, List.length_nil]
        exact hm2
      · exact (Turn.ofGrown (G := fun k => k = b) hg2 fun k e => by cases e; rfl).bk H3.out (by omega)
  case done =>
    rintro D ys W hD rfl ⟨⟨g, h1, h2⟩, h3, h4⟩ hK
    have c2 := h3.cell 0
    have f2 := h3.frozen 0
    simp only [List.getElem?_cons_zero] at c2
    have hkeys : ys.map (fun x => keyR x.1.1) = keysC ((p, l), L) := by
      rw [← HKE.out, ← HIT.out, List.map_map]
      rfl
    rw [hkeys] at h1
    have H1 := Lib.hid h1
    have H3 := Lib.hid h3
    have HT := Lib.hid h4
    have hD4 := h4.size
    clear h1 hkeys h3 h4
    gi_wp2
    have hK2 : (W.setCell ⟨w.heap.size + 1 + 1, 0, none⟩ (.bool true)).heap[D]? = some (.deferred (some [])) := (KeepsOthers.setCell W ⟨w.heap.size + 1 + 1, 0, none⟩ (.bool true)).same D _ hK rfl
    have b3 := H3.out.set_ 0 (.bool true)
    have c3 := (bk_kept b3 (grownBy_putObj' _ D (.deferred none)) (fun r e => by cases e; exact ⟨_, hK2, rfl⟩)).cell 0
    simp only [List.set_cons_zero, List.getElem?_cons_zero] at c3
    refine ⟨by simp, .inl ⟨_, _, rfl, run_takeDeferred hK2, ?_⟩⟩
    refine ⟨.bool true, by simp [results, Try.f23, go_sem, c3], ?_, ?_, ?_⟩
    · rw [H1.out]
    · rw [H1.out]
      have hl2 : M + ys.length = M + (n1 + 1) := by rw [HLEN.out]
      rw [← hl2]
      exact (h2.turn ((Turn.refl (fun k => k = w.heap.size + 1 + 1) W).setCell (p := ⟨w.heap.size + 1 + 1, 0, none⟩) (fun _ => rfl) (.bool true)) (by omega)).turn (turnKb (G := fun k => k = D) _ D (.deferred (some [])) (.deferred none) rfl) (by omega)
    · exact HOUT.out _ ((HT.out.setCell (p := ⟨w.heap.size + 1 + 1, 0, none⟩) (fun _ => gr) _).trans (turnKb _ D (.deferred (some [])) (.deferred none) (gn D (by omega))))
  case stop =>
    rintro D cc pre W hD hpre ⟨rfl, ⟨g, h1, h2⟩, h3, h4⟩ hK
    have H1 := Lib.hid h1
    have H3 := Lib.hid h3
    have HT := Lib.hid h4
    clear h1 h3 h4
    gi_wp2
    have c3 := (bk_kept H3.out (grownBy_putObj' _ D (.deferred none)) (fun r e => by cases e; exact ⟨_, hK, rfl⟩)).cell 0
    simp only [List.getElem?_cons_zero] at c3
    have hkeys : runK f (keysC ((p, l), L)) = (false, g) := by
      obtain ⟨r, hr⟩ := hpre
      rw [← HKE.out, ← HIT.out, ← hr, List.map_append, List.map_append, List.map_map]
      exact runK_false _ H1.out
    have hpl := hpre.length_le
    refine ⟨by simp, .inl ⟨_, _, rfl, run_takeDeferred hK, ?_⟩⟩
    refine ⟨.bool false, by simp [results, Try.f23, go_sem, c3], ?_, ?_, ?_⟩
    · rw [hkeys]
    · rw [hkeys]
      exact (h2.turn (turnKb (G := fun k => k = D) _ D (.deferred (some [])) (.deferred none) rfl) (by omega)).more (by have := HLEN.out; omega)
    · exact HOUT.out _ (HT.out.trans (turnKb _ D (.deferred (some [])) (.deferred none) (gn D (by omega))))
end Go.Proofs.Ytggnhgfickkgdaa
