/- slices.Sort of numbers of 32 bits: the pivot chosen, and the hint. (Written by genUsP.py.) -/
import Derived.Test.YtedgigoelhcfnaaUsG
set_option linter.unusedVariables false
set_option linter.unusedSimpArgs false
namespace Go.Proofs.Ytedgigoelhcfnaa
open Go Go.RowKit

theorem pivot_far {d : Array UInt32} {a b I J K i1 s1 j1 s2 k1 s3 p z : Nat} (hI : I = a + (b - a) / 4 * 1) (hJ : J = a + (b - a) / 4 * 2) (hK : K = a + (b - a) / 4 * 3) (hl : 50 ≤ b - a)
    (h1 : Go.Sort.medianAdjacent ltU d I 0 = (i1, s1)) (h2 : Go.Sort.medianAdjacent ltU d J s1 = (j1, s2)) (h3 : Go.Sort.medianAdjacent ltU d K s2 = (k1, s3)) (h4 : Go.Sort.median ltU d i1 j1 k1 s3 = (p, z)) :
    Go.Sort.choosePivot ltU d a b = (p, Go.Sort.hintOf z) := by
  subst hI hJ hK
  rw [Go.Sort.choosePivot_eq]
  unfold Go.Sort.rawPivot
  rw [if_pos (by omega), if_pos (by omega)]
  simp only [h1, h2, h3, h4]
theorem pivot_near {d : Array UInt32} {a b I J K p z : Nat} (hI : I = a + (b - a) / 4 * 1) (hJ : J = a + (b - a) / 4 * 2) (hK : K = a + (b - a) / 4 * 3) (hl : 8 ≤ b - a) (hl2 : ¬ 50 ≤ b - a)
    (h4 : Go.Sort.median ltU d I J K 0 = (p, z)) : Go.Sort.choosePivot ltU d a b = (p, Go.Sort.hintOf z) := by
  subst hI hJ hK
  rw [Go.Sort.choosePivot_eq]
  unfold Go.Sort.rawPivot
  rw [if_pos (by omega), if_neg (by omega)]
  simp only [h4]
theorem adj_told {d : Array UInt32} {a k n p z : Nat} (h : Go.Sort.medianAdjacent ltU d a k = (p, z)) (ha : a + 1 < n) : p < n ∧ z ≤ k + 3 := by
  have h1 := Go.Sort.medianAdjacent_mem ltU d a k
  have h2 := Go.Sort.medianAdjacent_count ltU d a k
  rw [h] at h1 h2
  simp only at h1 h2
  omega
set_option maxRecDepth 100000 in
set_option maxHeartbeats 8000000 in
theorem usPivot (g c a b : Nat) (d : Array UInt32) (rest : List Value) (w : World) (n : Nat) (hn : n = d.size) (hb : BkA w g d rest) (hab : a + 12 < b) (hbd : b ≤ n) (hsz : n ≤ 1000000000000) :
    Calls Try.prog 31 #[.slice (some ⟨g, 0, none⟩) n c, .int .i64 (a : Int), .int .i64 (b : Int)] w fun e w' =>
      e = .returned (.tuple #[.int .i64 ((Go.Sort.choosePivot ltU d a b).1 : Int), .int .i64 (Go.Sort.hintCode (Go.Sort.choosePivot ltU d a b).2)]) ∧ BkA w' g d rest ∧ Turn (fun k => k = g) w w' := by
  obtain ⟨l, hl⟩ : ∃ l, l = b - a := ⟨_, rfl⟩
  obtain ⟨q, hq⟩ : ∃ q, q = l / 4 := ⟨_, rfl⟩
  obtain ⟨I, hI⟩ : ∃ I, I = a + (b - a) / 4 * 1 := ⟨_, rfl⟩
  obtain ⟨J, hJ⟩ : ∃ J, J = a + (b - a) / 4 * 2 := ⟨_, rfl⟩
  obtain ⟨K, hK⟩ : ∃ K, K = a + (b - a) / 4 * 3 := ⟨_, rfl⟩
  have e0 : ((b : Int) - (a : Int)) = (l : Int) := by omega
  have e1 : Int.tdiv (l : Int) 4 = (q : Int) := by rw [Int.tdiv_eq_ediv_of_nonneg (by omega)]; omega
  have e2 : ((a : Int) + (q : Int)) = (I : Int) := by omega
  have e2' : ((a : Int) + (q : Int) * 1) = (I : Int) := by omega
  have e3 : ((a : Int) + (q : Int) * 2) = (J : Int) := by omega
  have e4 : ((a : Int) + (q : Int) * 3) = (K : Int) := by omega
  have hIn : I + 1 < n := by omega
  have hJn : J + 1 < n := by omega
  have hKn : K + 1 < n := by omega
  have hI0 : 0 < I := by omega
  have hJ0 : 0 < J := by omega
  have hK0 : 0 < K := by omega
  have hqn : q < n := by omega
  have hln : l ≤ n := by omega
  have hl8 : (8 : Int) ≤ (l : Int) := by omega
  have hl8n : 8 ≤ b - a := by omega
  have HL := Lib.hid hl
  have HI := Lib.hid hI
  have HJ := Lib.hid hJ
  have HK := Lib.hid hK
  have HN := Lib.hid hn
  have HLN := Lib.hid hb.lt
  have HB1 := Lib.hid (hb.alloc (.cells #[.int .i64 0] 3))
  have HS1 := Lib.hid (show BkN (w.alloc (.cells #[.int .i64 0] 3)) w.heap.size 0 from Bk.new w 3 [.int .i64 0])
  have HT1 := Lib.hid (show Turn (fun k => k = g) w (w.alloc (.cells #[.int .i64 0] 3)) from Turn.ofBelow ((Below.refl _ _).alloc (Nat.le_refl _) _))
  have hne : w.heap.size ≠ g := by have := hb.lt; omega
  clear hq hl hI hJ hK hn hb
  go_enter Try.func31, Try.ntmps31
  by_cases h50 : 50 ≤ b - a
  · have h50i : (50 : Int) ≤ (l : Int) := by have := HL.out; omega
    obtain ⟨i1, s1, h1⟩ : ∃ x y, Go.Sort.medianAdjacent ltU d I 0 = (x, y) := ⟨_, _, rfl⟩
    obtain ⟨j1, s2, h2⟩ : ∃ x y, Go.Sort.medianAdjacent ltU d J s1 = (x, y) := ⟨_, _, rfl⟩
    obtain ⟨k1, s3, h3⟩ : ∃ x y, Go.Sort.medianAdjacent ltU d K s2 = (x, y) := ⟨_, _, rfl⟩
    obtain ⟨p, z, h4⟩ : ∃ x y, Go.Sort.median ltU d i1 j1 k1 s3 = (x, y) := ⟨_, _, rfl⟩
    have HE := Lib.hid (pivot_far HI.out HJ.out HK.out h50 h1 h2 h3 h4)
    obtain ⟨b1, b2⟩ := adj_told h1 hIn
    obtain ⟨b3, b4⟩ := adj_told h2 hJn
    obtain ⟨b5, b6⟩ := adj_told h3 hKn
    have E1 := Lib.hid h1
    have E2 := Lib.hid h2
    have E3 := Lib.hid h3
    have E4 := Lib.hid h4
    clear h1 h2 h3 h4
    repeat (first | go_skip | go_guarded | go_step)
    refine (usAdj g c I w.heap.size 0 d rest _ n HN.out HB1.out HS1.out hne hI0 hIn (by omega) hsz).mono ?_
    rintro r w2 ⟨rfl, hs1, ht1⟩
    rw [E1.out] at hs1 ⊢
    have HS2 := Lib.hid hs1
    have HB2 := Lib.hid (BkA.turned HB1.out ht1 hne)
    have HT2 := Lib.hid (HT1.out.then_ ht1 fun k h1 h2 => absurd h1 (by show ¬ k < w.heap.size; have h3 : k = w.heap.size := h2; omega))
    clear hs1 ht1
    dsimp only
    repeat (first | go_skip | go_guarded | go_step)
    refine (usAdj g c J w.heap.size s1 d rest w2 n HN.out HB2.out HS2.out hne hJ0 hJn (by omega) hsz).mono ?_
    rintro r w3 ⟨rfl, hs1, ht1⟩
    rw [E2.out] at hs1 ⊢
    have HS3 := Lib.hid hs1
    have HB3 := Lib.hid (BkA.turned HB2.out ht1 hne)
    have HT3 := Lib.hid (HT2.out.then_ ht1 fun k h1 h2 => absurd h1 (by show ¬ k < w.heap.size; have h3 : k = w.heap.size := h2; omega))
    clear hs1 ht1
    dsimp only
    repeat (first | go_skip | go_guarded | go_step)
    refine (usAdj g c K w.heap.size s2 d rest w3 n HN.out HB3.out HS3.out hne hK0 hKn (by omega) hsz).mono ?_
    rintro r w4 ⟨rfl, hs1, ht1⟩
    rw [E3.out] at hs1 ⊢
    have HS4 := Lib.hid hs1
    have HB4 := Lib.hid (BkA.turned HB3.out ht1 hne)
    have HT4 := Lib.hid (HT3.out.then_ ht1 fun k h1 h2 => absurd h1 (by show ¬ k < w.heap.size; have h3 : k = w.heap.size := h2; omega))
    clear hs1 ht1
    dsimp only
    repeat (first | go_skip | go_guarded | go_step)
    refine (usMedian g c i1 j1 k1 w.heap.size s3 d rest w4 n HN.out HB4.out HS4.out hne b1 b3 b5 (by omega) hsz).mono ?_
    rintro r W9 ⟨rfl, hs1, ht1⟩
    rw [E4.out] at hs1 ⊢
    have HS9 := Lib.hid hs1
    have HB9 := Lib.hid (BkA.turned HB4.out ht1 hne)
    have HT9 := Lib.hid (HT4.out.then_ ht1 fun k h1 h2 => absurd h1 (by show ¬ k < w.heap.size; have h3 : k = w.heap.size := h2; omega))
    clear hs1 ht1
    dsimp only
    by_cases hz0 : z = 0
    · have HZ0 := Lib.hid hz0
      have hz0i : (z : Int) = 0 := by omega
      clear hz0
      have c3 : W9.cell? ⟨w.heap.size, 0, none⟩ = some (.int .i64 (z : Int)) := by rw [HS9.out.cell]; rfl
      rw [hz0i] at c3
      clear hz0i
      repeat (first | go_skip | go_guarded | go_step)
      go_ret2
      exact ⟨by rw [HE.out, HZ0.out]; rfl, HB9.out, HT9.out⟩
    · have hz0i : ¬ (z : Int) = 0 := by omega
      by_cases hz1 : z = 12
      · have HZ0 := Lib.hid hz1
        have hz1i : (z : Int) = 12 := by omega
        clear hz1 hz0i hz0
        have c3 : W9.cell? ⟨w.heap.size, 0, none⟩ = some (.int .i64 (z : Int)) := by rw [HS9.out.cell]; rfl
        rw [hz1i] at c3
        clear hz1i
        repeat (first | go_skip | go_guarded | go_step)
        go_ret2
        exact ⟨by rw [HE.out, HZ0.out]; rfl, HB9.out, HT9.out⟩
      · have hz1i : ¬ (z : Int) = 12 := by omega
        have c3 : W9.cell? ⟨w.heap.size, 0, none⟩ = some (.int .i64 (z : Int)) := by rw [HS9.out.cell]; rfl
        have HZ0 := Lib.hid (show Go.Sort.hintOf z = .unknown by unfold Go.Sort.hintOf; rw [if_neg hz0, if_neg hz1])
        repeat (first | go_skip | go_guarded | go_step)
        go_ret2
        exact ⟨by rw [HE.out, HZ0.out]; rfl, HB9.out, HT9.out⟩
  · have h50i : ¬ (50 : Int) ≤ (l : Int) := by have := HL.out; omega
    obtain ⟨p, z, h4⟩ : ∃ x y, Go.Sort.median ltU d I J K 0 = (x, y) := ⟨_, _, rfl⟩
    have HE := Lib.hid (pivot_near HI.out HJ.out HK.out hl8n h50 h4)
    have E4 := Lib.hid h4
    clear h4
    repeat (first | go_skip | go_guarded | go_step)
    refine (usMedian g c I J K w.heap.size 0 d rest _ n HN.out HB1.out HS1.out hne (by omega) (by omega) (by omega) (by omega) hsz).mono ?_
    rintro r W9 ⟨rfl, hs1, ht1⟩
    rw [E4.out] at hs1 ⊢
    have HS9 := Lib.hid hs1
    have HB9 := Lib.hid (BkA.turned HB1.out ht1 hne)
    have HT9 := Lib.hid (HT1.out.then_ ht1 fun k h1 h2 => absurd h1 (by show ¬ k < w.heap.size; have h3 : k = w.heap.size := h2; omega))
    clear hs1 ht1
    dsimp only
    by_cases hz0 : z = 0
    · have HZ0 := Lib.hid hz0
      have hz0i : (z : Int) = 0 := by omega
      clear hz0
      have c3 : W9.cell? ⟨w.heap.size, 0, none⟩ = some (.int .i64 (z : Int)) := by rw [HS9.out.cell]; rfl
      rw [hz0i] at c3
      clear hz0i
      repeat (first | go_skip | go_guarded | go_step)
      go_ret2
      exact ⟨by rw [HE.out, HZ0.out]; rfl, HB9.out, HT9.out⟩
    · have hz0i : ¬ (z : Int) = 0 := by omega
      by_cases hz1 : z = 12
      · have HZ0 := Lib.hid hz1
        have hz1i : (z : Int) = 12 := by omega
        clear hz1 hz0i hz0
        have c3 : W9.cell? ⟨w.heap.size, 0, none⟩ = some (.int .i64 (z : Int)) := by rw [HS9.out.cell]; rfl
        rw [hz1i] at c3
        clear hz1i
        repeat (first | go_skip | go_guarded | go_step)
        go_ret2
        exact ⟨by rw [HE.out, HZ0.out]; rfl, HB9.out, HT9.out⟩
      · have hz1i : ¬ (z : Int) = 12 := by omega
        have c3 : W9.cell? ⟨w.heap.size, 0, none⟩ = some (.int .i64 (z : Int)) := by rw [HS9.out.cell]; rfl
        have HZ0 := Lib.hid (show Go.Sort.hintOf z = .unknown by unfold Go.Sort.hintOf; rw [if_neg hz0, if_neg hz1])
        repeat (first | go_skip | go_guarded | go_step)
        go_ret2
        exact ⟨by rw [HE.out, HZ0.out]; rfl, HB9.out, HT9.out⟩
end Go.Proofs.Ytedgigoelhcfnaa
