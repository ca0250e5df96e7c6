/- Layer 18 (ring), the landed program: slices.AppendSeq and slices.Collect over the map's keys. -/
import Derived.Test.YtedgigoelhcfnaaRqB
import Derived.Sort.OwnSorted
set_option linter.unusedVariables false
set_option linter.unusedSimpArgs false
namespace Go.Proofs.Ytedgigoelhcfnaa
open Go Go.RowKit Go.Maps Go.Shelf
attribute [local go_sem] Oper.semAt_some

theorem u32InfoR : (Try.prog.info? 31).map (fun i => (i.zero, i.size, i.bytes)) = some (some (.int .u32 0), 1, 4) := by kernel_rfl
def OwR (w : World) (base : Nat) (A : Option Addr) (c n : Nat) (l : List UInt32) : Prop := w.ownsRow base 31 1 (.slice A n c) n (l.map nr)
theorem OwR.cells {w : World} {base c n : Nat} {A : Option Addr} {l : List UInt32} (h : OwR w base A c n l) {j : Nat} {o : Obj} (hj : (Value.slice A n c).ownBlock = some j) (ho : w.heap[j]? = some o) : o.isCells = true := by
  rcases h.2 with ⟨hv, h0⟩ | ⟨g, cap, cur, hv, hb, hg, h1, h2, h3, h4⟩
  · rw [hv] at hj
    cases hj
  · rw [hv] at hj
    cases hj
    rw [hg] at ho
    cases ho
    rfl
theorem OwR.kept {w w' : World} {row : Option Nat} {base c n : Nat} {A : Option Addr} {l : List UInt32} (h : OwR w base A c n l) (hg : w.grownBy w' row) (hr : ∀ r, row = some r → ∃ o : Obj, w.heap[r]? = some o ∧ o.isCells = false) : OwR w' base A c n l := by
  refine World.ownsRow.kept h hg ?_
  cases hb : (Value.slice A n c).ownBlock with
  | none => exact .inl rfl
  | some j =>
    refine .inr fun e => ?_
    obtain ⟨o, h1, h2⟩ := hr j e.symm
    have := h.cells hb h1
    rw [h2] at this
    cases this
theorem bkKeptR {W W' : World} {g : Nat} {t : TypeId} {cs : List Value} {row : Option Nat} (h : Bk W g t cs) (hg : W.grownBy W' row) (hr : ∀ r, row = some r → ∃ o : Obj, W.heap[r]? = some o ∧ o.isCells = false) : Bk W' g t cs :=
  (hg.block g h.lt fun e => by
    obtain ⟨o, ho, hc⟩ := hr g e.symm
    rw [show W.heap[g]? = _ from h] at ho
    cases ho
    cases hc).trans h
/-- Between two rounds: the box holds a slice of what has come. -/
def BoxR (w : World) (pre : List UInt32) (W : World) : Prop :=
  ∃ A c, Bk W w.heap.size 40 [.slice A pre.length c] ∧ OwR W (w.heap.size + 1) A c pre.length pre ∧ Below w.heap.size w W ∧ w.heap.size + 1 ≤ W.heap.size
set_option maxRecDepth 100000 in
set_option maxHeartbeats 4000000 in
theorem rAppendSeq_any (mb : Option Nat) (O : Nat → Prop) (K : List RgE) (hr : (K.map (·.1)).Pairwise (· < ·)) (hK : K.length ≤ 1000) (Bm : Nat) (w : World) (hB : Bm < w.heap.size) (hm : w.cell? ⟨Bm, 0, none⟩ = some (.map mb)) (h : MapN w mb O K) (hO : ∀ x, O x → x < w.heap.size) :
    Calls Try.prog 25 #[.slice none 0 0, .func (.func 24) #[] #[.pointer (some ⟨Bm, 0, none⟩)]] w fun e w' => ∃ A c ys, e = .returned (.slice A ys.length c) ∧ AllR K ys ∧ OwR w' w.heap.size A c ys.length ys ∧ Below w.heap.size w w' := by
  obtain ⟨i0, hi, hz0, hz1, hz2⟩ := info_parts u32InfoR
  obtain ⟨W0, hW0, b0, hb0, hs0⟩ : ∃ W0, W0 = w.alloc (.cells #[.slice none 0 0] 40) ∧ Bk W0 w.heap.size 40 [.slice none 0 0] ∧ Below w.heap.size w W0 ∧ W0.heap.size = w.heap.size + 1 :=
    ⟨_, rfl, Bk.new w _ _, (Below.refl _ _).alloc (Nat.le_refl _) _, by simp⟩
  have HW0 := Lib.hid hW0
  have HB0 := Lib.hid hb0
  have hm0 : W0.cell? ⟨Bm, 0, none⟩ = some (.map mb) := (hb0.cell (p := ⟨Bm, 0, none⟩) hB).trans hm
  have hseq := rKeys_stops Fence.wide 5 trivial rfl (by omega) Bm mb O K hr W0 (by omega) hm0 (by
    cases mb with
    | none => exact h
    | some b => exact ⟨h.1, h.2.turn (H := fun _ => False) (Turn.ofBelow hb0) id (fun _ _ => id) hO⟩) (fun x hx => by have := hO x hx; omega)
  clear hW0 hb0 h hm hm0
  refine (callsIn_wide (n := 6)).1 ?_
  refine callsIn_of_wp_marks Try.func25 rfl trivial ?_ rfl
  simp only [Try.ntmps25, List.size_toArray, List.length_cons, List.length_nil, Nat.reduceAdd, Nat.reduceSub, Array.replicate_succ, Array.replicate_zero, List.push_toArray, List.append_toArray, List.nil_append, List.cons_append]
  gi_wp2
  rw [← HW0.out]
  refine wpIn_rangeFunc_ownH (n := 6) rfl (by omega) (gf := 24) (lb := #[.pointer (some ⟨Bm, 0, none⟩)]) rfl trivial (enters_of Try.func24 (by kernel_rfl) rfl)
    hseq (fun h k => KeepsWalks.trans h k) (fun W l o o' hl ho _ hw => KeepsWalks.putObj o' ho hw) (Below.refl _ _) (fun _ => rfl)
    (BoxR w) (fun _ _ _ => False)
    (fun pre W W' row hs hg hrow => by
      obtain ⟨A, c, h1, h2, h3, h4⟩ := hs
      exact ⟨A, c, bkKeptR h1 hg (fun r e => (hrow r e).2), h2.kept hg (fun r e => (hrow r e).2), h3.grown hg h3.size (fun k e => by have := (hrow k e).1; omega), Nat.le_trans h4 hg.size⟩)
    (fun _ _ _ _ _ hs _ _ => hs)
    ⟨none, 0, b0, World.ownsRow_nil _ _ _ _, HB0.out, by omega⟩
    (fun x a' W => a' = { tmps := #[.slice none 0 0, .func (.func 24) #[] #[.pointer (some ⟨Bm, 0, none⟩)], .pointer (some ⟨w.heap.size, 0, none⟩), undef, .slice none 0 0, nr x, .func (.func 24) #[] #[.pointer (some ⟨Bm, 0, none⟩)], nr x, undef, undef, undef, undef, undef], defers := [] })
    (fun x a' _ X Y row hs hg hr => hs)
    ?assign ?body ?done ?stop
  case assign =>
    intro l pre x W K hI hK
    dsimp only [encR]
    gi_wp2
    exact hK _ _ (KeepsFrom.refl _ _) (KeepsWalks.refl _) hI rfl
  case body =>
    rintro l pre x a' W hl hrec ⟨A, c, h1, h2, h3, h4⟩ rfl hlt
    have k0 := h1.cell 0
    simp only [List.getElem?_cons_zero] at k0
    have H1 := Lib.hid h1
    have H2 := Lib.hid h2
    have H3 := Lib.hid h3
    clear h1 h2 h3
    gi_wp2_with (first
      | (gi_at_builtin
         refine wpListIn_append_own _ rfl _ _ 40 rfl (w.heap.size + 1) 31 i0 (.int .u32 0) 1 4 Try.underlying40 hi hz0 hz1 hz2 rfl (by decide) _ pre.length _ rfl (World.ownsRow.alloc H2.out _) ⟨W.heap.size, 0, none⟩ 1 1 [nr x] rfl rfl (cell_one_new _ _ _) (by simp [Value.oneCell']) (by simp only [maxLen]; omega) (by omega) (by simp; omega) ?_
         intro v' w3 ho3 hg3 hn3
         obtain ⟨A3, c3, e3, hc3⟩ := ownForm ho3
         subst e3
         have hnb : some w.heap.size ≠ (Value.slice A pre.length c).ownBlock := fun e => by
           have := (World.ownsRow.lt H2.out w.heap.size e.symm).1
           omega
         have b3 : Bk w3 w.heap.size 40 [.slice A pre.length c] := (hg3.block w.heap.size (by simp; omega) hnb).trans (H1.out.alloc _)
         have q3 := b3.cell 0
         have f3 := b3.frozen 0
         simp only [List.getElem?_cons_zero] at q3)
      | gi_in)
    have hk : KeepsOthers W (w3.setCell ⟨w.heap.size, 0, none⟩ (.slice A3 (pre.length + 1) c3)) := ((KeepsOthers.alloc W _).trans (KeepsOthers.of_grownBy hg3 fun j o ej ho => OwR.cells (World.ownsRow.alloc H2.out _) ej ho)).trans (KeepsOthers.setCell _ _ _)
    refine ⟨hk.from _, hk.walks, A3, c3, ?_, ?_, ?_, ?_⟩
    · rw [List.length_append, List.length_cons, List.length_nil]
      exact b3.set_ 0 _
    · rw [List.length_append, List.length_cons, List.length_nil]
      unfold OwR
      rw [List.map_append, List.map_cons, List.map_nil]
      exact ((Turn.refl (fun k => k = w.heap.size) w3).setCell (p := ⟨w.heap.size, 0, none⟩) (fun _ => rfl) _).own ho3 (fun k hk e => by
        have := (World.ownsRow.lt ho3 k hk).1
        omega)
    · exact ((H3.out.alloc H3.out.size _).grown hg3 (by have := H3.out.size; simp; omega) (fun k e => by have := (World.ownsRow.lt H2.out k e).1; omega)).setCell (p := ⟨w.heap.size, 0, none⟩) (Nat.le_refl _) _
    · have := hg3.size
      simp at this ⊢
      omega
  case done =>
    rintro D ys W hD hys ⟨A, c, h1, h2, h3, h4⟩ hK
    have k0 := h1.cell 0
    simp only [List.getElem?_cons_zero] at k0
    have H1 := Lib.hid h1
    have H2 := Lib.hid h2
    have H3 := Lib.hid h3
    clear h1 h2 h3
    gi_wp2
    refine ⟨by simp, .inl ⟨_, _, rfl, run_takeDeferred hK, ?_⟩⟩
    refine ⟨_, results_tmp rfl _ _ _, A, c, ys, rfl, hys, ?_, ?_⟩
    · exact ownBase (H2.out.kept (grownBy_putObj' W D (.deferred none)) (fun r e => by cases e; exact ⟨_, hK, rfl⟩)) (by omega)
    · exact H3.out.grown (grownBy_putObj' W D (.deferred none)) H3.out.size (fun k e => by cases e; omega)
  case stop =>
    rintro D cc pre W hD hpre hf hK
    exact hf.elim
end Go.Proofs.Ytedgigoelhcfnaa
