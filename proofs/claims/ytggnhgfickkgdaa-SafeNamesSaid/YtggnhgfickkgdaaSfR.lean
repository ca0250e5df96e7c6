/- Layer 11 (safe), the landed program: wrong, Right. -/
import Derived.Test.YtggnhgfickkgdaaSfH
set_option linter.unusedVariables false
set_option linter.unusedSimpArgs false
namespace Go.Proofs.Ytggnhgfickkgdaa
open Go Go.RowKit

/-! ### Mathematics: the lengths that were seen -/
/-- What f tells is of the keys, and of each of their predicates it tells one. -/
def Agree (f : LenF) (K : List Key) : Prop := ∀ p, (∀ n, f p = some n → (p, n) ∈ K) ∧ (f p = none → ∀ k ∈ K, k.1 ≠ p)
theorem pair_all {K : List Key} (hK : K.Pairwise Fit) : ∀ a ∈ K, ∀ b ∈ K, Fit a b := by
  induction K with
  | nil => intro a ha; cases ha
  | cons k K ih =>
    rw [List.pairwise_cons] at hK
    intro a ha b hb
    rcases List.mem_cons.1 ha with h1 | h1 <;> rcases List.mem_cons.1 hb with h2 | h2
    · rw [h1, h2]; exact fun _ => rfl
    · rw [h1]; exact hK.1 b h2
    · rw [h2]; exact (hK.1 a h1).symm
    · exact ih hK.2 a h1 b h2
theorem agree_fits {f : LenF} {K : List Key} (h : Agree f K) (hK : K.Pairwise Fit) (k : Key) : fitsB f k = true ↔ ∀ y ∈ K, Fit y k := by
  obtain ⟨p, n⟩ := k
  unfold fitsB
  dsimp only
  cases hf : f p with
  | none =>
    have h2 := (h p).2 hf
    simp only [true_iff]
    intro y hy e
    exact absurd e (h2 y hy)
  | some m =>
    have h1 := (h p).1 m hf
    simp only [decide_eq_true_eq]
    constructor
    · rintro rfl y hy e
      exact pair_all hK y hy (p, m) h1 e
    · intro hall
      exact hall (p, m) h1 rfl
theorem agree_add {f : LenF} {K : List Key} (h : Agree f K) (k : Key) (hk : fitsB f k = true) : Agree (fitsF f k) (K ++ [k]) := by
  obtain ⟨p, n⟩ := k
  unfold fitsB at hk
  unfold fitsF
  dsimp only at hk ⊢
  cases hf : f p with
  | none =>
    intro q
    dsimp only
    by_cases hq : q = p
    · rw [if_pos hq]
      refine ⟨fun m hm => ?_, fun hm => by cases hm⟩
      cases hm
      rw [hq]
      simp
    · rw [if_neg hq]
      refine ⟨fun m hm => List.mem_append_left _ ((h q).1 m hm), fun hm y hy => ?_⟩
      rcases List.mem_append.1 hy with hy | hy
      · exact (h q).2 hm y hy
      · simp only [List.mem_singleton] at hy
        subst hy
        exact fun e => hq e.symm
  | some m =>
    intro q
    dsimp only
    refine ⟨fun m hm => List.mem_append_left _ ((h q).1 m hm), fun hm y hy => ?_⟩
    rcases List.mem_append.1 hy with hy | hy
    · exact (h q).2 hm y hy
    · simp only [List.mem_singleton] at hy
      subst hy
      intro e
      dsimp only at e
      rw [← e, hf] at hm
      cases hm
theorem pair_snoc {K : List Key} {k : Key} : (K ++ [k]).Pairwise Fit ↔ K.Pairwise Fit ∧ ∀ y ∈ K, Fit y k := by
  rw [List.pairwise_append]
  simp
theorem runK_spec (r : List Key) : ∀ (f : LenF) (K : List Key), Agree f K → K.Pairwise Fit → ((runK f r).1 = true ↔ (K ++ r).Pairwise Fit) ∧ ((runK f r).1 = true → Agree (runK f r).2 (K ++ r)) := by
  induction r with
  | nil => intro f K h hK; simp only [runK, List.append_nil, true_iff]; exact ⟨hK, fun _ => h⟩
  | cons k r ih =>
    intro f K h hK
    have hf := agree_fits h hK k
    simp only [runK]
    rw [show K ++ k :: r = (K ++ [k]) ++ r by simp]
    by_cases hb : fitsB f k = true
    · rw [if_pos hb]
      exact ih _ _ (agree_add h k hb) (pair_snoc.2 ⟨hK, hf.1 hb⟩)
    · rw [if_neg hb]
      refine ⟨⟨fun e => (by cases e), fun hp => ?_⟩, fun e => (by cases e)⟩
      exact absurd (hf.2 (pair_snoc.1 (List.pairwise_append.1 hp).1).2) hb
theorem agree_nil : Agree (fun _ => none) [] := fun p => ⟨fun n hn => (by cases hn), fun _ k hk => (by cases hk)⟩
/-- The state behind some clauses whose atoms all fit. -/
def Seen (f : LenF) (K : List Key) : Prop := Agree f K ∧ K.Pairwise Fit
theorem seen_nil : Seen (fun _ => none) [] := ⟨agree_nil, List.Pairwise.nil⟩
theorem seen_run {f : LenF} {K : List Key} (h : Seen f K) (r : List Key) : (runK f r).1 = fitL (K ++ r) := by
  rw [Bool.eq_iff_iff, (runK_spec r f K h.1 h.2).1, fitL, decide_eq_true_iff]
theorem seen_more {f : LenF} {K : List Key} (h : Seen f K) (r : List Key) (hr : (runK f r).1 = true) : Seen (runK f r).2 (K ++ r) :=
  ⟨(runK_spec r f K h.1 h.2).2 hr, (runK_spec r f K h.1 h.2).1.1 hr⟩
/-- What wrong answers, and what is seen behind it. -/
def wrongM (f : LenF) (c : Cl) : Nat := if mayC c = false then 8 else if safeC c = false then 10 else if (runK f (keysC c)).1 = false then 9 else 0
theorem wrong_bad {f : LenF} {C : List Cl} {i : Nat} {x : Cl} (h : Seen f ((C.take i).flatMap keysC)) (hx : C[i]? = some x) : wrongM f x = badAt C i x := by
  unfold wrongM badAt
  rw [take_len_flat hx, ← seen_run h]
set_option maxRecDepth 100000 in
set_option maxHeartbeats 4000000 in
theorem wrong_any (b M : Nat) (f : LenF) (p : UInt32) (A : Option Addr) (n c : Nat) (l : List Tm) (A1 : Option Addr) (n1 c1 : Nat) (R : List SlA) (L : List Li) (B : Nat) (w : World) (hm : MapL w b M f) (hM : M + (n1 + 1) ≤ 1000000000000000)
    (h : RdT w B A n l) (h1 : RdL w B A1 n1 R L) (hB : B ≤ w.heap.size) (hbB : B ≤ b) (hn : n ≤ 1000000) (hn1 : n1 ≤ 1000000) (hk : ∀ x ∈ L, x.2.2.length ≤ 1000000) :
    Calls Try.prog 19 #[.map (some b), .agg #[nv p, .slice A n c, .slice A1 n1 c1]] w fun e w' =>
      e = .returned (.int .i64 (wrongM f ((p, l), L) : Int)) ∧ (wrongM f ((p, l), L) = 0 → MapL w' b (M + (n1 + 1)) (runK f (keysC ((p, l), L))).2 ∧ (runK f (keysC ((p, l), L))).1 = true) ∧ Turn (fun k => k = b) w w' := by
  have HK := Lib.hid hk
  have hbw := hm.lt
  obtain ⟨W, hW, hb, hbw0⟩ := box3 w p (.slice A n c) (.slice A1 n1 c1) 36
  have HW := Lib.hid hW
  have HH := Lib.hid hb
  have HBW := Lib.hid hbw0
  have HR := Lib.hid (h.below (hbw0.mono hB))
  have HR1 := Lib.hid (h1.below (hbw0.mono hB))
  have HM := Lib.hid (hm.below hbw0)
  have hsW : w.heap.size ≤ W.heap.size := hbw0.size
  have k0 := hb.read (Below.refl _ _) 0 rfl
  have k1 := hb.read (Below.refl _ _) 1 rfl
  have k2 := hb.read (Below.refl _ _) 2 rfl
  have hmay := cMay_any p A n c l A1 n1 c1 R L W (HR.out.more (by omega)) (HR1.out.more (by omega)) hn hn1 hk
  clear h h1 hk hm hW hb hbw0
  go_enter Try.func19, Try.ntmps19
  go_upto_region 1 with (fail)
  rw [← HW.out]
  repeat (first | go_skip | go_guarded | go_step)
  refine hmay.mono ?_
  rintro e w1 ⟨rfl, hb1⟩
  have HB1 := Lib.hid hb1
  have hs1 : W.heap.size ≤ w1.heap.size := hb1.size
  have hh1 := HH.out.later hb1
  have HH1 := Lib.hid hh1
  clear hmay hb1 k0 k1 k2
  have k0 := hh1.read (Below.refl _ _) 0 rfl
  have k1 := hh1.read (Below.refl _ _) 1 rfl
  have k2 := hh1.read (Below.refl _ _) 2 rfl
  clear hh1
  dsimp only
  cases hmm : mayC ((p, l), L) with
  | false =>
    have HE := Lib.hid (show wrongM f ((p, l), L) = 8 by unfold wrongM; rw [if_pos hmm])
    clear hmm
    repeat (first | go_skip | go_guarded | go_step)
    go_ret
    exact ⟨by rw [HE.out]; rfl, fun h => by rw [HE.out] at h; exact absurd h (by decide), (Turn.ofBelow HBW.out).trans (Turn.ofBelow (HB1.out.mono (Nat.le_refl _)))⟩
  | true =>
    have HMY := Lib.hid hmm
    have hheld := allHeld_any p A n c l A1 n1 c1 R L B w1 (HR.out.below (HB1.out.mono (by omega))) (HR1.out.below (HB1.out.mono (by omega))) (by omega) hn1 hmm
    clear hmm
    repeat (first | go_skip | go_guarded | go_step)
    refine hheld.mono ?_
    rintro e w2 ⟨rfl, hb2⟩
    have HB2 := Lib.hid (HB1.out.trans (hb2.mono hs1))
    have hs2 : w1.heap.size ≤ w2.heap.size := hb2.size
    have hh2 := HH1.out.later hb2
    have HH2 := Lib.hid hh2
    clear hheld hb2 k0 k1 k2
    have k0 := hh2.read (Below.refl _ _) 0 rfl
    have k1 := hh2.read (Below.refl _ _) 1 rfl
    have k2 := hh2.read (Below.refl _ _) 2 rfl
    clear hh2
    dsimp only
    cases hsf : safeC ((p, l), L) with
    | false =>
      have HE := Lib.hid (show wrongM f ((p, l), L) = 10 by unfold wrongM; rw [if_neg (by rw [HMY.out]; exact Bool.noConfusion), if_pos hsf])
      clear hsf
      repeat (first | go_skip | go_guarded | go_step)
      go_ret
      exact ⟨by rw [HE.out]; rfl, fun h => by rw [HE.out] at h; exact absurd h (by decide), (Turn.ofBelow HBW.out).trans (Turn.ofBelow HB2.out)⟩
    | true =>
      have HSF := Lib.hid hsf
      clear hsf
      have hfit := fitAll_any b M f p A n c l A1 n1 c1 R L B w2 (HM.out.below HB2.out) hM (HR.out.below (HB2.out.mono (by omega))) (HR1.out.below (HB2.out.mono (by omega))) (by omega) hbB hn hn1 HK.out
      repeat (first | go_skip | go_guarded | go_step)
      refine hfit.mono ?_
      rintro e w3 ⟨rfl, hm3, ht3⟩
      have HM3 := Lib.hid hm3
      have HT3 := Lib.hid (((Turn.ofBelow (G := fun k => k = b) HBW.out).trans (Turn.ofBelow HB2.out)).trans ht3)
      clear hfit hm3 ht3 k0 k1 k2
      dsimp only
      cases hrk : (runK f (keysC ((p, l), L))).1 with
      | false =>
        have HE := Lib.hid (show wrongM f ((p, l), L) = 9 by unfold wrongM; rw [if_neg (by rw [HMY.out]; exact Bool.noConfusion), if_neg (by rw [HSF.out]; exact Bool.noConfusion), if_pos hrk])
        clear hrk
        repeat (first | go_skip | go_guarded | go_step)
        go_ret
        exact ⟨by rw [HE.out]; rfl, fun h => by rw [HE.out] at h; exact absurd h (by decide), HT3.out⟩
      | true =>
        have HE := Lib.hid (show wrongM f ((p, l), L) = 0 by unfold wrongM; rw [if_neg (by rw [HMY.out]; exact Bool.noConfusion), if_neg (by rw [HSF.out]; exact Bool.noConfusion), if_neg (by rw [hrk]; exact Bool.noConfusion)])
        have HRK := Lib.hid hrk
        clear hrk
        repeat (first | go_skip | go_guarded | go_step)
        go_ret
        exact ⟨by rw [HE.out]; rfl, fun _ => ⟨HM3.out, HRK.out⟩, HT3.out⟩
end Go.Proofs.Ytggnhgfickkgdaa
