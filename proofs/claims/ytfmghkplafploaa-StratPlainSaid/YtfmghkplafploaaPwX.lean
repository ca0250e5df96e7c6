/- Texts, packed: UsG UsP UsF UsH -/
import Derived.Test.YtfmghkplafploaaPwW
import Derived.Sort.LotD4
import Derived.Sort.Walk7
import Derived.Shelf.Small.Bits
set_option linter.unusedVariables false
set_option linter.unusedSimpArgs false
namespace Go.Proofs.Ytfmghkplafploaa
open Go Go.RowKit

/-- A counter in a block of its own. -/
abbrev BkN (w : World) (s k : Nat) : Prop := Bk w s 3 [.int .i64 (k : Int)]
theorem BkA.turned {w w' : World} {g s : Nat} {d : Array UInt32} {rest : List Value} (h : BkA w g d rest) (ht : Turn (fun k => k = s) w w') (hne : s ≠ g) : BkA w' g d rest := (ht.block g h.lt fun e => hne e.symm).trans h
theorem order2_yes {d : Array UInt32} {a b k : Nat} (h : ltU d[b]! d[a]! = true) : Go.Sort.order2 ltU d a b k = (b, a, k + 1) := by unfold Go.Sort.order2; rw [if_pos h]
theorem order2_no {d : Array UInt32} {a b k : Nat} (h : ltU d[b]! d[a]! = false) : Go.Sort.order2 ltU d a b k = (a, b, k) := by unfold Go.Sort.order2; rw [if_neg (by rw [h]; simp)]
set_option maxRecDepth 100000 in
set_option maxHeartbeats 4000000 in
theorem usOrder2 (g c a b s k : Nat) (d : Array UInt32) (rest : List Value) (w : World) (n : Nat) (hn : n = d.size) (hb : BkA w g d rest) (hs : BkN w s k) (hne : s ≠ g) (ha : a < n) (hbn : b < n) (hk : k ≤ 1000) (hsz : n ≤ 1000000000000) :
    Calls Try.prog 84 #[.slice (some ⟨g, 0, none⟩) n c, .int .i64 (a : Int), .int .i64 (b : Int), .pointer (some ⟨s, 0, none⟩)] w fun e w' =>
      e = .returned (.tuple #[.int .i64 ((Go.Sort.order2 ltU d a b k).1 : Int), .int .i64 ((Go.Sort.order2 ltU d a b k).2.1 : Int)]) ∧ BkN w' s (Go.Sort.order2 ltU d a b k).2.2 ∧ Turn (fun q => q = s) w w' := by
  have HN := Lib.hid hn
  have c1 := hb.at_ (i := a) (by omega)
  have c2 := hb.at_ (i := b) (by omega)
  generalize hx : d[a]! = x at c1
  generalize hy : d[b]! = y at c2
  have HX := Lib.hid hx
  have HY := Lib.hid hy
  have HS := Lib.hid hs
  clear hb hx hy hn hs
  go_enter Try.func84, Try.ntmps84
  go_upto_region 1 with (fail)
  go_quiet (refine Calls.quiet_of_same (usLess _ _ _))
  obtain ⟨V, hV, hsV, htV⟩ : ∃ V, V = w.drewN nq ∧ BkN V s k ∧ Turn (fun q => q = s) w V := ⟨_, rfl, HS.out, usDrew (Turn.refl _ _) _⟩
  rw [← hV]
  have HSV := Lib.hid hsV
  have HTV := Lib.hid htV
  have c3 : V.cell? ⟨s, 0, none⟩ = some (.int .i64 (k : Int)) := by rw [hsV.cell]; rfl
  have f3 := hsV.frozen 0
  clear hV hsV htV c1 c2
  cases hl : ltU y x with
  | true =>
    have HE := Lib.hid (show Go.Sort.order2 ltU d a b k = (b, a, k + 1) from order2_yes (by rw [HX.out, HY.out]; exact hl))
    clear hl
    repeat (first | go_skip | go_guarded | go_step)
    have HZ := Lib.hid (show BkN (V.setCell ⟨s, 0, none⟩ (.int .i64 ((k + 1 : Nat) : Int))) s (k + 1) from HSV.out.set_ 0 _)
    have HTZ := Lib.hid ((HTV.out).setCell (p := ⟨s, 0, none⟩) (fun _ => rfl) (.int .i64 ((k + 1 : Nat) : Int)))
    go_ret2
    exact ⟨by rw [HE.out]; rfl, by rw [HE.out]; exact HZ.out, HTZ.out⟩
  | false =>
    have HE := Lib.hid (show Go.Sort.order2 ltU d a b k = (a, b, k) from order2_no (by rw [HX.out, HY.out]; exact hl))
    clear hl
    repeat (first | go_skip | go_guarded | go_step)
    go_ret2
    exact ⟨by rw [HE.out]; rfl, by rw [HE.out]; exact HSV.out, HTV.out⟩
theorem median_told {d : Array UInt32} {a b c k a1 b1 k1 b2 c2 k2 a3 b3 k3 : Nat} (h1 : Go.Sort.order2 ltU d a b k = (a1, b1, k1)) (h2 : Go.Sort.order2 ltU d b1 c k1 = (b2, c2, k2)) (h3 : Go.Sort.order2 ltU d a1 b2 k2 = (a3, b3, k3)) : Go.Sort.median ltU d a b c k = (b3, k3) := by
  unfold Go.Sort.median
  simp only [h1, h2, h3]
theorem order2_told {d : Array UInt32} {a b k n a1 b1 k1 : Nat} (h : Go.Sort.order2 ltU d a b k = (a1, b1, k1)) (ha : a < n) (hb : b < n) : a1 < n ∧ b1 < n ∧ k1 ≤ k + 1 := by
  have h1 := Go.Sort.order2_mem ltU d a b k
  have h2 := Go.Sort.order2_count ltU d a b k
  rw [h] at h1 h2
  simp only at h1 h2
  omega
set_option maxRecDepth 100000 in
set_option maxHeartbeats 4000000 in
theorem usMedian (g c a b e s k : Nat) (d : Array UInt32) (rest : List Value) (w : World) (n : Nat) (hn : n = d.size) (hb : BkA w g d rest) (hs : BkN w s k) (hne : s ≠ g) (ha : a < n) (hbn : b < n) (hen : e < n) (hk : k ≤ 990) (hsz : n ≤ 1000000000000) :
    Calls Try.prog 71 #[.slice (some ⟨g, 0, none⟩) n c, .int .i64 (a : Int), .int .i64 (b : Int), .int .i64 (e : Int), .pointer (some ⟨s, 0, none⟩)] w fun r w' =>
      r = .returned (.int .i64 ((Go.Sort.median ltU d a b e k).1 : Int)) ∧ BkN w' s (Go.Sort.median ltU d a b e k).2 ∧ Turn (fun q => q = s) w w' := by
  obtain ⟨a1, b1, k1, h1⟩ : ∃ a1 b1 k1, Go.Sort.order2 ltU d a b k = (a1, b1, k1) := ⟨_, _, _, rfl⟩
  obtain ⟨b2, c2, k2, h2⟩ : ∃ x1 y1 z1, Go.Sort.order2 ltU d b1 e k1 = (x1, y1, z1) := ⟨_, _, _, rfl⟩
  obtain ⟨a3, b3, k3, h3⟩ : ∃ x1 y1 z1, Go.Sort.order2 ltU d a1 b2 k2 = (x1, y1, z1) := ⟨_, _, _, rfl⟩
  obtain ⟨p1, p2, p3⟩ := order2_told h1 ha hbn
  obtain ⟨p4, p5, p6⟩ := order2_told h2 p2 hen
  obtain ⟨p7, p8, p9⟩ := order2_told h3 p1 p4
  rw [median_told h1 h2 h3]
  have HB := Lib.hid hb
  have HS := Lib.hid hs
  have HN := Lib.hid hn
  have E1 := Lib.hid h1
  have E2 := Lib.hid h2
  have E3 := Lib.hid h3
  clear hb hs hn h1 h2 h3
  go_enter Try.func71, Try.ntmps71
  repeat (first | go_skip | go_guarded | go_step)
  refine (usOrder2 g c a b s k d rest w n HN.out HB.out HS.out hne ha hbn (by omega) hsz).mono ?_
  rintro r w1 ⟨rfl, hs1, ht1⟩
  rw [E1.out] at hs1 ⊢
  have HS1 := Lib.hid hs1
  have HT1 := Lib.hid ht1
  have HB1 := Lib.hid (HB.out.turned ht1 hne)
  clear hs1 ht1
  dsimp only
  repeat (first | go_skip | go_guarded | go_step)
  refine (usOrder2 g c b1 e s k1 d rest w1 n HN.out HB1.out HS1.out hne p2 hen (by omega) hsz).mono ?_
  rintro r w2 ⟨rfl, hs1, ht1⟩
  rw [E2.out] at hs1 ⊢
  have HS2 := Lib.hid hs1
  have HT2 := Lib.hid (HT1.out.trans ht1)
  have HB2 := Lib.hid (HB1.out.turned ht1 hne)
  clear hs1 ht1
  dsimp only
  repeat (first | go_skip | go_guarded | go_step)
  refine (usOrder2 g c a1 b2 s k2 d rest w2 n HN.out HB2.out HS2.out hne p1 p4 (by omega) hsz).mono ?_
  rintro r w3 ⟨rfl, hs1, ht1⟩
  rw [E3.out] at hs1 ⊢
  have HS3 := Lib.hid hs1
  have HT3 := Lib.hid (HT2.out.trans ht1)
  clear hs1 ht1
  dsimp only
  repeat (first | go_skip | go_guarded | go_step)
  go_ret
  exact ⟨rfl, HS3.out, HT3.out⟩
set_option maxRecDepth 100000 in
set_option maxHeartbeats 4000000 in
theorem usAdj (g c a s k : Nat) (d : Array UInt32) (rest : List Value) (w : World) (n : Nat) (hn : n = d.size) (hb : BkA w g d rest) (hs : BkN w s k) (hne : s ≠ g) (ha0 : 0 < a) (ha : a + 1 < n) (hk : k ≤ 990) (hsz : n ≤ 1000000000000) :
    Calls Try.prog 70 #[.slice (some ⟨g, 0, none⟩) n c, .int .i64 (a : Int), .pointer (some ⟨s, 0, none⟩)] w fun r w' =>
      r = .returned (.int .i64 ((Go.Sort.medianAdjacent ltU d a k).1 : Int)) ∧ BkN w' s (Go.Sort.medianAdjacent ltU d a k).2 ∧ Turn (fun q => q = s) w w' := by
  have e1 : ((a : Int) - 1) = ((a - 1 : Nat) : Int) := by omega
  have HB := Lib.hid hb
  have HS := Lib.hid hs
  have HN := Lib.hid hn
  clear hb hs hn
  go_enter Try.func70, Try.ntmps70
  repeat (first | go_skip | go_guarded | go_step)
  refine (usMedian g c (a - 1) a (a + 1) s k d rest w n HN.out HB.out HS.out hne (by omega) (by omega) (by omega) hk hsz).mono ?_
  rintro r w1 ⟨rfl, hs1, ht1⟩
  have HS1 := Lib.hid hs1
  have HT1 := Lib.hid ht1
  clear hs1 ht1
  dsimp only
  repeat (first | go_skip | go_guarded | go_step)
  go_ret
  exact ⟨rfl, HS1.out, HT1.out⟩
end Go.Proofs.Ytfmghkplafploaa

set_option linter.unusedVariables false
set_option linter.unusedSimpArgs false
namespace Go.Proofs.Ytfmghkplafploaa
open Go Go.RowKit

theorem pivot_far {d : Array UInt32} {a b I J K i1 s1 j1 s2 k1 s3 p z : Nat} (hI : I = a + (b - a) / 4 * 1) (hJ : J = a + (b - a) / 4 * 2) (hK : K = a + (b - a) / 4 * 3) (hl : 50 ≤ b - a)
    (h1 : Go.Sort.medianAdjacent ltU d I 0 = (i1, s1)) (h2 : Go.Sort.medianAdjacent ltU d J s1 = (j1, s2)) (h3 : Go.Sort.medianAdjacent ltU d K s2 = (k1, s3)) (h4 : Go.Sort.median ltU d i1 j1 k1 s3 = (p, z)) :
    Go.Sort.choosePivot ltU d a b = (p, Go.Sort.hintOf z) := by
  subst hI hJ hK
  rw [Go.Sort.choosePivot_eq]
  unfold Go.Sort.rawPivot
  rw [if_pos (by omega), if_pos (by omega)]
  simp only [h1, h2, h3, h4]
theorem pivot_near {d : Array UInt32} {a b I J K p z : Nat} (hI : I = a + (b - a) / 4 * 1) (hJ : J = a + (b - a) / 4 * 2) (hK : K = a + (b - a) / 4 * 3) (hl : 8 ≤ b - a) (hl2 : ¬ 50 ≤ b - a)
    (h4 : Go.Sort.median ltU d I J K 0 = (p, z)) : Go.Sort.choosePivot ltU d a b = (p, Go.Sort.hintOf z) := by
  subst hI hJ hK
  rw [Go.Sort.choosePivot_eq]
  unfold Go.Sort.rawPivot
  rw [if_pos (by omega), if_neg (by omega)]
  simp only [h4]
theorem adj_told {d : Array UInt32} {a k n p z : Nat} (h : Go.Sort.medianAdjacent ltU d a k = (p, z)) (ha : a + 1 < n) : p < n ∧ z ≤ k + 3 := by
  have h1 := Go.Sort.medianAdjacent_mem ltU d a k
  have h2 := Go.Sort.medianAdjacent_count ltU d a k
  rw [h] at h1 h2
  simp only at h1 h2
  omega
set_option maxRecDepth 100000 in
set_option maxHeartbeats 8000000 in
theorem usPivot (g c a b : Nat) (d : Array UInt32) (rest : List Value) (w : World) (n : Nat) (hn : n = d.size) (hb : BkA w g d rest) (hab : a + 12 < b) (hbd : b ≤ n) (hsz : n ≤ 1000000000000) :
    Calls Try.prog 47 #[.slice (some ⟨g, 0, none⟩) n c, .int .i64 (a : Int), .int .i64 (b : Int)] w fun e w' =>
      e = .returned (.tuple #[.int .i64 ((Go.Sort.choosePivot ltU d a b).1 : Int), .int .i64 (Go.Sort.hintCode (Go.Sort.choosePivot ltU d a b).2)]) ∧ BkA w' g d rest ∧ Turn (fun k => k = g) w w' := by
  obtain ⟨l, hl⟩ : ∃ l, l = b - a := ⟨_, rfl⟩
  obtain ⟨q, hq⟩ : ∃ q, q = l / 4 := ⟨_, rfl⟩
  obtain ⟨I, hI⟩ : ∃ I, I = a + (b - a) / 4 * 1 := ⟨_, rfl⟩
  obtain ⟨J, hJ⟩ : ∃ J, J = a + (b - a) / 4 * 2 := ⟨_, rfl⟩
  obtain ⟨K, hK⟩ : ∃ K, K = a + (b - a) / 4 * 3 := ⟨_, rfl⟩
  have e0 : ((b : Int) - (a : Int)) = (l : Int) := by omega
  have e1 : Int.tdiv (l : Int) 4 = (q : Int) := by rw [Int.tdiv_eq_ediv_of_nonneg (by omega)]; omega
  have e2 : ((a : Int) + (q : Int)) = (I : Int) := by omega
  have e2' : ((a : Int) + (q : Int) * 1) = (I : Int) := by omega
  have e3 : ((a : Int) + (q : Int) * 2) = (J : Int) := by omega
  have e4 : ((a : Int) + (q : Int) * 3) = (K : Int) := by omega
  have hIn : I + 1 < n := by omega
  have hJn : J + 1 < n := by omega
  have hKn : K + 1 < n := by omega
  have hI0 : 0 < I := by omega
  have hJ0 : 0 < J := by omega
  have hK0 : 0 < K := by omega
  have hqn : q < n := by omega
  have hln : l ≤ n := by omega
  have hl8 : (8 : Int) ≤ (l : Int) := by omega
  have hl8n : 8 ≤ b - a := by omega
  have HL := Lib.hid hl
  have HI := Lib.hid hI
  have HJ := Lib.hid hJ
  have HK := Lib.hid hK
  have HN := Lib.hid hn
  have HLN := Lib.hid hb.lt
  have HB1 := Lib.hid (hb.alloc (.cells #[.int .i64 0] 3))
  have HS1 := Lib.hid (show BkN (w.alloc (.cells #[.int .i64 0] 3)) w.heap.size 0 from Bk.new w 3 [.int .i64 0])
  have HT1 := Lib.hid (show Turn (fun k => k = g) w (w.alloc (.cells #[.int .i64 0] 3)) from Turn.ofBelow ((Below.refl _ _).alloc (Nat.le_refl _) _))
  have hne : w.heap.size ≠ g := by have := hb.lt; omega
  clear hq hl hI hJ hK hn hb
  go_enter Try.func47, Try.ntmps47
  by_cases h50 : 50 ≤ b - a
  · have h50i : (50 : Int) ≤ (l : Int) := by have := HL.out; omega
    obtain ⟨i1, s1, h1⟩ : ∃ x y, Go.Sort.medianAdjacent ltU d I 0 = (x, y) := ⟨_, _, rfl⟩
    obtain ⟨j1, s2, h2⟩ : ∃ x y, Go.Sort.medianAdjacent ltU d J s1 = (x, y) := ⟨_, _, rfl⟩
    obtain ⟨k1, s3, h3⟩ : ∃ x y, Go.Sort.medianAdjacent ltU d K s2 = (x, y) := ⟨_, _, rfl⟩
    obtain ⟨p, z, h4⟩ : ∃ x y, Go.Sort.median ltU d i1 j1 k1 s3 = (x, y) := ⟨_, _, rfl⟩
    have HE := Lib.hid (pivot_far HI.out HJ.out HK.out h50 h1 h2 h3 h4)
    obtain ⟨b1, b2⟩ := adj_told h1 hIn
    obtain ⟨b3, b4⟩ := adj_told h2 hJn
    obtain ⟨b5, b6⟩ := adj_told h3 hKn
    have E1 := Lib.hid h1
    have E2 := Lib.hid h2
    have E3 := Lib.hid h3
    have E4 := Lib.hid h4
    clear h1 h2 h3 h4
    repeat (first | go_skip | go_guarded | go_step)
    refine (usAdj g c I w.heap.size 0 d rest _ n HN.out HB1.out HS1.out hne hI0 hIn (by omega) hsz).mono ?_
    rintro r w2 ⟨rfl, hs1, ht1⟩
    rw [E1.out] at hs1 ⊢
    have HS2 := Lib.hid hs1
    have HB2 := Lib.hid (BkA.turned HB1.out ht1 hne)
    have HT2 := Lib.hid (HT1.out.then_ ht1 fun k h1 h2 => absurd h1 (by show ¬ k < w.heap.size; have h3 : k = w.heap.size := h2; omega))
    clear hs1 ht1
    dsimp only
    repeat (first | go_skip | go_guarded | go_step)
    refine (usAdj g c J w.heap.size s1 d rest w2 n HN.out HB2.out HS2.out hne hJ0 hJn (by omega) hsz).mono ?_
    rintro r w3 ⟨rfl, hs1, ht1⟩
    rw [E2.out] at hs1 ⊢
    have HS3 := Lib.hid hs1
    have HB3 := Lib.hid (BkA.turned HB2.out ht1 hne)
    have HT3 := Lib.hid (HT2.out.then_ ht1 fun k h1 h2 => absurd h1 (by show ¬ k < w.heap.size; have h3 : k = w.heap.size := h2; omega))
    clear hs1 ht1
    dsimp only
    repeat (first | go_skip | go_guarded | go_step)
    refine (usAdj g c K w.heap.size s2 d rest w3 n HN.out HB3.out HS3.out hne hK0 hKn (by omega) hsz).mono ?_
    rintro r w4 ⟨rfl, hs1, ht1⟩
    rw [E3.out] at hs1 ⊢
    have HS4 := Lib.hid hs1
    have HB4 := Lib.hid (BkA.turned HB3.out ht1 hne)
    have HT4 := Lib.hid (HT3.out.then_ ht1 fun k h1 h2 => absurd h1 (by show ¬ k < w.heap.size; have h3 : k = w.heap.size := h2; omega))
    clear hs1 ht1
    dsimp only
    repeat (first | go_skip | go_guarded | go_step)
    refine (usMedian g c i1 j1 k1 w.heap.size s3 d rest w4 n HN.out HB4.out HS4.out hne b1 b3 b5 (by omega) hsz).mono ?_
    rintro r W9 ⟨rfl, hs1, ht1⟩
    rw [E4.out] at hs1 ⊢
    have HS9 := Lib.hid hs1
    have HB9 := Lib.hid (BkA.turned HB4.out ht1 hne)
    have HT9 := Lib.hid (HT4.out.then_ ht1 fun k h1 h2 => absurd h1 (by show ¬ k < w.heap.size; have h3 : k = w.heap.size := h2; omega))
    clear hs1 ht1
    dsimp only
    by_cases hz0 : z = 0
    · have HZ0 := Lib.hid hz0
      have hz0i : (z : Int) = 0 := by omega
      clear hz0
      have c3 : W9.cell? ⟨w.heap.size, 0, none⟩ = some (.int .i64 (z : Int)) := by rw [HS9.out.cell]; rfl
      rw [hz0i] at c3
      clear hz0i
      repeat (first | go_skip | go_guarded | go_step)
      go_ret2
      exact ⟨by rw [HE.out, HZ0.out]; rfl, HB9.out, HT9.out⟩
    · have hz0i : ¬ (z : Int) = 0 := by omega
      by_cases hz1 : z = 12
      · have HZ0 := Lib.hid hz1
        have hz1i : (z : Int) = 12 := by omega
        clear hz1 hz0i hz0
        have c3 : W9.cell? ⟨w.heap.size, 0, none⟩ = some (.int .i64 (z : Int)) := by rw [HS9.out.cell]; rfl
        rw [hz1i] at c3
        clear hz1i
        repeat (first | go_skip | go_guarded | go_step)
        go_ret2
        exact ⟨by rw [HE.out, HZ0.out]; rfl, HB9.out, HT9.out⟩
      · have hz1i : ¬ (z : Int) = 12 := by omega
        have c3 : W9.cell? ⟨w.heap.size, 0, none⟩ = some (.int .i64 (z : Int)) := by rw [HS9.out.cell]; rfl
        have HZ0 := Lib.hid (show Go.Sort.hintOf z = .unknown by unfold Go.Sort.hintOf; rw [if_neg hz0, if_neg hz1])
        repeat (first | go_skip | go_guarded | go_step)
        go_ret2
        exact ⟨by rw [HE.out, HZ0.out]; rfl, HB9.out, HT9.out⟩
  · have h50i : ¬ (50 : Int) ≤ (l : Int) := by have := HL.out; omega
    obtain ⟨p, z, h4⟩ : ∃ x y, Go.Sort.median ltU d I J K 0 = (x, y) := ⟨_, _, rfl⟩
    have HE := Lib.hid (pivot_near HI.out HJ.out HK.out hl8n h50 h4)
    have E4 := Lib.hid h4
    clear h4
    repeat (first | go_skip | go_guarded | go_step)
    refine (usMedian g c I J K w.heap.size 0 d rest _ n HN.out HB1.out HS1.out hne (by omega) (by omega) (by omega) (by omega) hsz).mono ?_
    rintro r W9 ⟨rfl, hs1, ht1⟩
    rw [E4.out] at hs1 ⊢
    have HS9 := Lib.hid hs1
    have HB9 := Lib.hid (BkA.turned HB1.out ht1 hne)
    have HT9 := Lib.hid (HT1.out.then_ ht1 fun k h1 h2 => absurd h1 (by show ¬ k < w.heap.size; have h3 : k = w.heap.size := h2; omega))
    clear hs1 ht1
    dsimp only
    by_cases hz0 : z = 0
    · have HZ0 := Lib.hid hz0
      have hz0i : (z : Int) = 0 := by omega
      clear hz0
      have c3 : W9.cell? ⟨w.heap.size, 0, none⟩ = some (.int .i64 (z : Int)) := by rw [HS9.out.cell]; rfl
      rw [hz0i] at c3
      clear hz0i
      repeat (first | go_skip | go_guarded | go_step)
      go_ret2
      exact ⟨by rw [HE.out, HZ0.out]; rfl, HB9.out, HT9.out⟩
    · have hz0i : ¬ (z : Int) = 0 := by omega
      by_cases hz1 : z = 12
      · have HZ0 := Lib.hid hz1
        have hz1i : (z : Int) = 12 := by omega
        clear hz1 hz0i hz0
        have c3 : W9.cell? ⟨w.heap.size, 0, none⟩ = some (.int .i64 (z : Int)) := by rw [HS9.out.cell]; rfl
        rw [hz1i] at c3
        clear hz1i
        repeat (first | go_skip | go_guarded | go_step)
        go_ret2
        exact ⟨by rw [HE.out, HZ0.out]; rfl, HB9.out, HT9.out⟩
      · have hz1i : ¬ (z : Int) = 12 := by omega
        have c3 : W9.cell? ⟨w.heap.size, 0, none⟩ = some (.int .i64 (z : Int)) := by rw [HS9.out.cell]; rfl
        have HZ0 := Lib.hid (show Go.Sort.hintOf z = .unknown by unfold Go.Sort.hintOf; rw [if_neg hz0, if_neg hz1])
        repeat (first | go_skip | go_guarded | go_step)
        go_ret2
        exact ⟨by rw [HE.out, HZ0.out]; rfl, HB9.out, HT9.out⟩
end Go.Proofs.Ytfmghkplafploaa

set_option linter.unusedVariables false
set_option linter.unusedSimpArgs false
namespace Go.Proofs.Ytfmghkplafploaa
open Go Go.RowKit

theorem sorted_go {d : Array UInt32} {b i : Nat} (h : i < b) (hp : ltU d[i]! d[i - 1]! = false) : Go.Sort.scanSorted ltU d b (i + 1) = Go.Sort.scanSorted ltU d b i := by
  conv => rhs; rw [Go.Sort.scanSorted, if_pos (by simp [h, hp])]
theorem sorted_stop {d : Array UInt32} {b i : Nat} (h : ¬ i < b ∨ ltU d[i]! d[i - 1]! = true) : Go.Sort.scanSorted ltU d b i = i := by
  rw [Go.Sort.scanSorted, if_neg]
  rcases h with h | h
  · simp [h]
  · simp [h]
theorem sdown_go {d : Array UInt32} {j : Nat} (h : 0 < j) (hp : ltU d[j]! d[j - 1]! = true) : Go.Sort.shiftDown ltU (j - 1) (Go.Sort.swp d j (j - 1)) = Go.Sort.shiftDown ltU j d := by
  obtain ⟨k, rfl⟩ : ∃ k, j = k + 1 := ⟨j - 1, by omega⟩
  simp only [Nat.add_sub_cancel] at hp ⊢
  conv => rhs; rw [Go.Sort.shiftDown, if_neg (by simp [hp])]
theorem sdown_stop {d : Array UInt32} {j : Nat} (h : ¬ 0 < j ∨ ltU d[j]! d[j - 1]! = false) : Go.Sort.shiftDown ltU j d = d := by
  cases j with
  | zero => rfl
  | succ k =>
    rcases h with h | h
    · omega
    · simp only [Nat.add_sub_cancel] at h
      rw [Go.Sort.shiftDown, if_pos (by simp [h])]
theorem sup_go {d : Array UInt32} {b j : Nat} (h : j < b) (hp : ltU d[j]! d[j - 1]! = true) : Go.Sort.shiftUp ltU b (j + 1) (Go.Sort.swp d j (j - 1)) = Go.Sort.shiftUp ltU b j d := by
  conv => rhs; rw [Go.Sort.shiftUp, if_pos h, if_neg (by simp [hp])]
theorem sup_stop {d : Array UInt32} {b j : Nat} (h : ¬ j < b ∨ ltU d[j]! d[j - 1]! = false) : Go.Sort.shiftUp ltU b j d = d := by
  rw [Go.Sort.shiftUp]
  rcases h with h | h
  · rw [if_neg h]
  · by_cases hj : j < b
    · rw [if_pos hj, if_pos (by simp [h])]
    · rw [if_neg hj]
theorem pi_done {a b s i : Nat} {d : Array UInt32} (h : Go.Sort.scanSorted ltU d b i = b) : Go.Sort.partialIns ltU a b (s + 1) i d = (d, true) := by
  rw [Go.Sort.partialIns]
  simp only [h, if_true]
theorem pi_small {a b s i i2 : Nat} {d : Array UInt32} (h : Go.Sort.scanSorted ltU d b i = i2) (hb : ¬ i2 = b) (hs : b - a < 50) : Go.Sort.partialIns ltU a b (s + 1) i d = (d, false) := by
  rw [Go.Sort.partialIns]
  simp only [h, if_neg hb, if_pos hs]
theorem pi_more {a b s i i2 : Nat} {d D2 D3 : Array UInt32} (h : Go.Sort.scanSorted ltU d b i = i2) (hb : ¬ i2 = b) (hs : ¬ b - a < 50)
    (h2 : D2 = if i2 - a ≥ 2 then Go.Sort.shiftDown ltU (i2 - 1) (Go.Sort.swp d i2 (i2 - 1)) else Go.Sort.swp d i2 (i2 - 1)) (h3 : D3 = if b - i2 ≥ 2 then Go.Sort.shiftUp ltU b (i2 + 1) D2 else D2) :
    Go.Sort.partialIns ltU a b s i2 D3 = Go.Sort.partialIns ltU a b (s + 1) i d := by
  subst h2 h3
  conv => rhs; rw [Go.Sort.partialIns]; simp only [h, if_neg hb, if_neg hs]
set_option maxRecDepth 100000 in
set_option maxHeartbeats 32000000 in
theorem usPins (g c a b : Nat) (d : Array UInt32) (rest : List Value) (w : World) (n : Nat) (hn : n = d.size) (hb : BkA w g d rest) (hab : a < b) (hbd : b ≤ n) (hsz : n ≤ 1000000000000) :
    Calls Try.prog 49 #[.slice (some ⟨g, 0, none⟩) n c, .int .i64 (a : Int), .int .i64 (b : Int)] w fun e w' =>
      e = .returned (.bool (Go.Sort.partialInsertionSort ltU d a b).2) ∧ BkA w' g (Go.Sort.partialInsertionSort ltU d a b).1 rest ∧ Turn (fun k => k = g) w w' := by
  have HN := Lib.hid hn
  have HB := Lib.hid hb
  clear hb hn
  go_enter Try.func49, Try.ntmps49
  repeat (first | go_skip | go_guarded | go_step)
  go_loopw [7, 8] (fun p q wr => ∃ (i t s : Nat) (dk : Array UInt32), p = .int .i64 (i : Int) ∧ q = .int .i64 (t : Int) ∧ t + s = 5 ∧ a + 1 ≤ i ∧ i ≤ b ∧ dk.size = n ∧ Go.Sort.partialIns ltU a b s i dk = Go.Sort.partialInsertionSort ltU d a b ∧ BkA wr g dk rest ∧ Turn (fun k => k = g) w wr) (fun _ q _ => 5 - (intOf q).toNat)
  case atStart => exact ⟨a + 1, 0, 5, d, by go_num, by go_num, rfl, by omega, by omega, HN.out.symm, rfl, HB.out, Turn.refl _ _⟩
  case round =>
    rename World => wr
    obtain ⟨i, t, s, dk, rfl, rfl, hts, hi1, hi2, hdk, hO, hbk, ht⟩ := hrel
    have HO := Lib.hid hO
    have HK := Lib.hid hbk
    have HT := Lib.hid ht
    have HDK := Lib.hid hdk
    have HTS := Lib.hid hts
    clear hO hbk ht hdk
    by_cases h5 : t < 5
    · have h5i : (t : Int) < 5 := by omega
      obtain ⟨s, rfl⟩ : ∃ s', s = s' + 1 := ⟨s - 1, by omega⟩
      repeat (first | go_skip | go_guarded | go_step)
      go_loopw [7] (fun p wr => ∃ (i2 : Nat), p = .int .i64 (i2 : Int) ∧ i ≤ i2 ∧ i2 ≤ b ∧ Go.Sort.scanSorted ltU dk b i2 = Go.Sort.scanSorted ltU dk b i ∧ BkA wr g dk rest ∧ Turn (fun k => k = g) w wr) (fun p _ => b - (intOf p).toNat)
      case atStart => exact ⟨i, rfl, Nat.le_refl _, hi2, rfl, HK.out, HT.out⟩
      case round =>
        rename World => wr
        obtain ⟨i2, rfl, hi3, hi4, hS, hbk, ht⟩ := hrel
        have HS := Lib.hid hS
        have HK2 := Lib.hid hbk
        have HT2 := Lib.hid ht
        have HDJ := HDK
        clear hS ht
        by_cases hlt : i2 < b
        · have hci : decide ((i2 : Int) < (b : Int)) = true := by simp; omega
          have c1 := hbk.at_ (i := i2) (by rw [HDJ.out]; omega)
          have c2 := hbk.at_ (i := i2 - 1) (by rw [HDJ.out]; omega)
          generalize hx : dk[i2]! = x at c1
          generalize hy : dk[i2 - 1]! = y at c2
          have HX := Lib.hid hx
          have HY := Lib.hid hy
          have hjw : ((i2 : Int) - 1) = ((i2 - 1 : Nat) : Int) := by omega
          clear hbk hx hy
          go_upto_region 5 with (fail)
          go_quiet (refine Calls.quiet_of_same (usLess _ _ _))
          obtain ⟨U, hU, hkU, htU⟩ : ∃ U, U = wr.drewN nq ∧ BkA U g dk rest ∧ Turn (fun k => k = g) w U := ⟨_, rfl, HK2.out, usDrew HT2.out _⟩
          rw [← hU]
          have HKU := Lib.hid hkU
          have HTU := Lib.hid htU
          clear hU hkU htU c1 c2
          cases hl : ltU x y with
          | false =>
            have HL := Lib.hid hl
            clear hl
            repeat (first | go_skip | go_guarded | go_step)
            go_roundw
            case rel => exact ⟨i2 + 1, by go_num, by omega, by omega, by rw [sorted_go hlt (by rw [HX.out, HY.out]; exact HL.out)]; exact HS.out, HKU.out, HTU.out⟩
            case measure => simp [intOf]; omega
          | true =>
            have HSC := Lib.hid (show Go.Sort.scanSorted ltU dk b i = i2 by rw [← HS.out]; exact sorted_stop (.inr (by rw [HX.out, HY.out]; exact hl)))
            have hib : ¬ i2 = b := by omega
            have hibi : ¬ (i2 : Int) = (b : Int) := by omega
            clear hl
            by_cases h50 : b - a < 50
            · have h50i : (b : Int) - (a : Int) < 50 := by omega
              have HE := Lib.hid (show Go.Sort.partialInsertionSort ltU d a b = (dk, false) by rw [← HO.out]; exact pi_small HSC.out hib h50)
              repeat (first | go_skip | go_guarded | go_step)
              go_ret
              exact ⟨by rw [HE.out]; rfl, by rw [HE.out]; exact HKU.out, HTU.out⟩
            · have h50i : ¬ (b : Int) - (a : Int) < 50 := by omega
              have d1 := HKU.out.at_ (i := i2) (by rw [HDJ.out]; omega)
              have d2 := HKU.out.at_ (i := i2 - 1) (by rw [HDJ.out]; omega)
              rw [HX.out] at d1
              rw [HY.out] at d2
              have e1 := HKU.out.frozen i2
              have e2 := HKU.out.frozen (i2 - 1)
              repeat (first | go_skip | go_guarded | go_step)
              go_region
              obtain ⟨Z, hZ, hkZ, htZ⟩ : ∃ Z, Z = ((U.setCell { block := g, off := i2 } (Value.int IntKind.u32 y.toNat)).setCell { block := g, off := i2 - 1 } (Value.int IntKind.u32 x.toNat)).drew ∧ BkA Z g (Go.Sort.swp dk i2 (i2 - 1)) rest ∧ Turn (fun k => k = g) w Z :=
                ⟨_, rfl, HKU.out.swp (by rw [HDJ.out]; omega) (by rw [HDJ.out]; omega) HX.out HY.out, (usSwpT HTU.out g i2 (i2 - 1) rfl _ _).drew⟩
              rw [← hZ]
              have H9K := Lib.hid hkZ
              have H9T := Lib.hid htZ
              clear hZ hkZ htZ d1 d2 e1 e2
              have H5N := Lib.hid h50
              have HIB := Lib.hid hib
              have HDS := Lib.hid (show (Go.Sort.swp dk i2 (i2 - 1)).size = n by rw [Go.Sort.size_swp]; exact HDK.out)
              clear HDJ HX HY h50i hibi h50 hib hci HKU HTU HK2 HT2
              by_cases h2a : 2 ≤ i2 - a
              · have h2ai : (2 : Int) ≤ (i2 : Int) - (a : Int) := by omega
                have hjw : ((i2 : Int) - 1) = ((i2 - 1 : Nat) : Int) := by omega
                repeat (first | go_skip | go_guarded | go_step)
                go_loopw [9] (fun p wr => ∃ (j : Nat) (dj : Array UInt32), p = .int .i64 (j : Int) ∧ j ≤ i2 - 1 ∧ dj.size = n ∧ Go.Sort.shiftDown ltU j dj = Go.Sort.shiftDown ltU (i2 - 1) (Go.Sort.swp dk i2 (i2 - 1)) ∧ BkA wr g dj rest ∧ Turn (fun k => k = g) w wr) (fun p _ => (intOf p).toNat)
                case atStart => exact ⟨i2 - 1, _, rfl, Nat.le_refl _, HDS.out, rfl, H9K.out, H9T.out⟩
                case round =>
                  rename World => wr
                  obtain ⟨j, dj, rfl, hj1, hdj, hS, hbk, ht⟩ := hrel
                  have HS2 := Lib.hid hS
                  have HK2 := Lib.hid hbk
                  have HT2 := Lib.hid ht
                  have HDJ := Lib.hid hdj
                  clear hS ht hdj hjw
                  by_cases hj0 : 0 < j
                  · have hj0i : (1 : Int) ≤ (j : Int) := by omega
                    have c1 := hbk.at_ (i := j) (by rw [HDJ.out]; omega)
                    have c2 := hbk.at_ (i := j - 1) (by rw [HDJ.out]; omega)
                    generalize hx : dj[j]! = x at c1
                    generalize hy : dj[j - 1]! = y at c2
                    have HX := Lib.hid hx
                    have HY := Lib.hid hy
                    have hjw : ((j : Int) - 1) = ((j - 1 : Nat) : Int) := by omega
                    clear hbk hx hy
                    go_upto_region 16 with (fail)
                    go_quiet (refine Calls.quiet_of_same (usLess _ _ _))
                    obtain ⟨U, hU, hkU, htU⟩ : ∃ U, U = wr.drewN nq ∧ BkA U g dj rest ∧ Turn (fun k => k = g) w U := ⟨_, rfl, HK2.out, usDrew HT2.out _⟩
                    rw [← hU]
                    have HKU := Lib.hid hkU
                    have HTU := Lib.hid htU
                    clear hU hkU htU c1 c2
                    cases hl : ltU x y with
                    | true =>
                      have HL := Lib.hid hl
                      clear hl
                      have d1 := HKU.out.at_ (i := j) (by rw [HDJ.out]; omega)
                      have d2 := HKU.out.at_ (i := j - 1) (by rw [HDJ.out]; omega)
                      rw [HX.out] at d1
                      rw [HY.out] at d2
                      have e1 := HKU.out.frozen j
                      have e2 := HKU.out.frozen (j - 1)
                      repeat (first | go_skip | go_guarded | go_step)
                      go_region
                      obtain ⟨Z, hZ, hkZ, htZ⟩ : ∃ Z, Z = ((U.setCell { block := g, off := j } (Value.int IntKind.u32 y.toNat)).setCell { block := g, off := j - 1 } (Value.int IntKind.u32 x.toNat)).drew ∧ BkA Z g (Go.Sort.swp dj j (j - 1)) rest ∧ Turn (fun k => k = g) w Z :=
                        ⟨_, rfl, HKU.out.swp (by rw [HDJ.out]; omega) (by rw [HDJ.out]; omega) HX.out HY.out, (usSwpT HTU.out g j (j - 1) rfl _ _).drew⟩
                      rw [← hZ]
                      have H8K := Lib.hid hkZ
                      have H8T := Lib.hid htZ
                      clear hZ hkZ htZ d1 d2 e1 e2
                      repeat (first | go_skip | go_guarded | go_step)
                      go_roundw
                      case rel => exact ⟨j - 1, _, by go_num, by omega, by rw [Go.Sort.size_swp]; exact HDJ.out, by rw [sdown_go hj0 (by rw [HX.out, HY.out]; exact HL.out)]; exact HS2.out, H8K.out, H8T.out⟩
                      case measure => simp [intOf]; omega
                    | false =>
                      have HD2 := Lib.hid (show dj = if i2 - a ≥ 2 then Go.Sort.shiftDown ltU (i2 - 1) (Go.Sort.swp dk i2 (i2 - 1)) else Go.Sort.swp dk i2 (i2 - 1) by rw [if_pos h2a, ← HS2.out, sdown_stop (.inr (by rw [HX.out, HY.out]; exact hl))])
                      clear hl hjw
                      clear HX HY
                      by_cases h2b : 2 ≤ b - i2
                      · have h2bi : (2 : Int) ≤ (b : Int) - (i2 : Int) := by omega
                        repeat (first | go_skip | go_guarded | go_step)
                        go_loopw [10] (fun p wr => ∃ (m : Nat) (dm : Array UInt32), p = .int .i64 (m : Int) ∧ i2 + 1 ≤ m ∧ m ≤ b ∧ dm.size = n ∧ Go.Sort.shiftUp ltU b m dm = Go.Sort.shiftUp ltU b (i2 + 1) dj ∧ BkA wr g dm rest ∧ Turn (fun k => k = g) w wr) (fun p _ => b - (intOf p).toNat)
                        case atStart => exact ⟨i2 + 1, _, by go_num, Nat.le_refl _, by omega, HDJ.out, rfl, HKU.out, HTU.out⟩
                        case round =>
                          rename World => wr
                          clear HKU HTU
                          obtain ⟨m, dm, rfl, hm1, hm2, hdm, hS, hbk, ht⟩ := hrel
                          have HS3 := Lib.hid hS
                          have HK2 := Lib.hid hbk
                          have HT2 := Lib.hid ht
                          have HD0 := HDJ
                          clear HDJ
                          have HDJ := Lib.hid hdm
                          clear hS ht hdm
                          by_cases hmb : m < b
                          · have hmbi : (m : Int) < (b : Int) := by omega
                            have c1 := hbk.at_ (i := m) (by rw [HDJ.out]; omega)
                            have c2 := hbk.at_ (i := m - 1) (by rw [HDJ.out]; omega)
                            generalize hx : dm[m]! = x at c1
                            generalize hy : dm[m - 1]! = y at c2
                            have HX := Lib.hid hx
                            have HY := Lib.hid hy
                            have hjw : ((m : Int) - 1) = ((m - 1 : Nat) : Int) := by omega
                            clear hbk hx hy
                            go_upto_region 22 with (fail)
                            go_quiet (refine Calls.quiet_of_same (usLess _ _ _))
                            obtain ⟨U, hU, hkU, htU⟩ : ∃ U, U = wr.drewN nq ∧ BkA U g dm rest ∧ Turn (fun k => k = g) w U := ⟨_, rfl, HK2.out, usDrew HT2.out _⟩
                            rw [← hU]
                            have HKU := Lib.hid hkU
                            have HTU := Lib.hid htU
                            clear hU hkU htU c1 c2
                            cases hl : ltU x y with
                            | true =>
                              have HL := Lib.hid hl
                              clear hl
                              have d1 := HKU.out.at_ (i := m) (by rw [HDJ.out]; omega)
                              have d2 := HKU.out.at_ (i := m - 1) (by rw [HDJ.out]; omega)
                              rw [HX.out] at d1
                              rw [HY.out] at d2
                              have e1 := HKU.out.frozen m
                              have e2 := HKU.out.frozen (m - 1)
                              repeat (first | go_skip | go_guarded | go_step)
                              go_region
                              obtain ⟨Z, hZ, hkZ, htZ⟩ : ∃ Z, Z = ((U.setCell { block := g, off := m } (Value.int IntKind.u32 y.toNat)).setCell { block := g, off := m - 1 } (Value.int IntKind.u32 x.toNat)).drew ∧ BkA Z g (Go.Sort.swp dm m (m - 1)) rest ∧ Turn (fun k => k = g) w Z :=
                                ⟨_, rfl, HKU.out.swp (by rw [HDJ.out]; omega) (by rw [HDJ.out]; omega) HX.out HY.out, (usSwpT HTU.out g m (m - 1) rfl _ _).drew⟩
                              rw [← hZ]
                              have H7K := Lib.hid hkZ
                              have H7T := Lib.hid htZ
                              clear hZ hkZ htZ d1 d2 e1 e2
                              repeat (first | go_skip | go_guarded | go_step)
                              go_roundw
                              case rel => exact ⟨m + 1, _, by go_num, by omega, by omega, by rw [Go.Sort.size_swp]; exact HDJ.out, by rw [sup_go hmb (by rw [HX.out, HY.out]; exact HL.out)]; exact HS3.out, H7K.out, H7T.out⟩
                              case measure => simp [intOf]; omega
                            | false =>
                              have HD3 := Lib.hid (show dm = if b - i2 ≥ 2 then Go.Sort.shiftUp ltU b (i2 + 1) dj else dj by rw [if_pos h2b, ← HS3.out, sup_stop (.inr (by rw [HX.out, HY.out]; exact hl))])
                              clear hl hjw
                              repeat (first | go_skip | go_guarded | go_step)
                              go_roundw
                              case rel => exact ⟨i2, t + 1, s, dm, rfl, by go_num, by have := HTS.out; omega, by omega, by omega, HDJ.out, by rw [pi_more HSC.out HIB.out H5N.out HD2.out HD3.out]; exact HO.out, HKU.out, HTU.out⟩
                              case measure => simp [intOf]; omega
                          · have hmbi : ¬ (m : Int) < (b : Int) := by omega
                            have HD3 := Lib.hid (show dm = if b - i2 ≥ 2 then Go.Sort.shiftUp ltU b (i2 + 1) dj else dj by rw [if_pos h2b, ← HS3.out, sup_stop (.inl hmb)])
                            clear hbk
                            repeat (first | go_skip | go_guarded | go_step)
                            go_roundw
                            case rel => exact ⟨i2, t + 1, s, dm, rfl, by go_num, by have := HTS.out; omega, by omega, by omega, HDJ.out, by rw [pi_more HSC.out HIB.out H5N.out HD2.out HD3.out]; exact HO.out, HK2.out, HT2.out⟩
                            case measure => simp [intOf]; omega
                      · have h2bi : decide ((2 : Int) ≤ (b : Int) - (i2 : Int)) = false := by simp; omega
                        have HD3 := Lib.hid (show dj = if b - i2 ≥ 2 then Go.Sort.shiftUp ltU b (i2 + 1) dj else dj by rw [if_neg h2b])
                        repeat (first | go_skip | go_guarded | go_step)
                        go_roundw
                        case rel => exact ⟨i2, t + 1, s, dj, rfl, by go_num, by have := HTS.out; omega, by omega, by omega, HDJ.out, by rw [pi_more HSC.out HIB.out H5N.out HD2.out HD3.out]; exact HO.out, HKU.out, HTU.out⟩
                        case measure => simp [intOf]; omega
                  · have hj0i : ¬ (1 : Int) ≤ (j : Int) := by omega
                    have HD2 := Lib.hid (show dj = if i2 - a ≥ 2 then Go.Sort.shiftDown ltU (i2 - 1) (Go.Sort.swp dk i2 (i2 - 1)) else Go.Sort.swp dk i2 (i2 - 1) by rw [if_pos h2a, ← HS2.out, sdown_stop (.inl hj0)])
                    clear hbk
                    by_cases h2b : 2 ≤ b - i2
                    · have h2bi : (2 : Int) ≤ (b : Int) - (i2 : Int) := by omega
                      repeat (first | go_skip | go_guarded | go_step)
                      go_loopw [10] (fun p wr => ∃ (m : Nat) (dm : Array UInt32), p = .int .i64 (m : Int) ∧ i2 + 1 ≤ m ∧ m ≤ b ∧ dm.size = n ∧ Go.Sort.shiftUp ltU b m dm = Go.Sort.shiftUp ltU b (i2 + 1) dj ∧ BkA wr g dm rest ∧ Turn (fun k => k = g) w wr) (fun p _ => b - (intOf p).toNat)
                      case atStart => exact ⟨i2 + 1, _, by go_num, Nat.le_refl _, by omega, HDJ.out, rfl, HK2.out, HT2.out⟩
                      case round =>
                        rename World => wr
                        clear HK2 HT2
                        obtain ⟨m, dm, rfl, hm1, hm2, hdm, hS, hbk, ht⟩ := hrel
                        have HS3 := Lib.hid hS
                        have HK2 := Lib.hid hbk
                        have HT2 := Lib.hid ht
                        have HD0 := HDJ
                        clear HDJ
                        have HDJ := Lib.hid hdm
                        clear hS ht hdm
                        by_cases hmb : m < b
                        · have hmbi : (m : Int) < (b : Int) := by omega
                          have c1 := hbk.at_ (i := m) (by rw [HDJ.out]; omega)
                          have c2 := hbk.at_ (i := m - 1) (by rw [HDJ.out]; omega)
                          generalize hx : dm[m]! = x at c1
                          generalize hy : dm[m - 1]! = y at c2
                          have HX := Lib.hid hx
                          have HY := Lib.hid hy
                          have hjw : ((m : Int) - 1) = ((m - 1 : Nat) : Int) := by omega
                          clear hbk hx hy
                          go_upto_region 22 with (fail)
                          go_quiet (refine Calls.quiet_of_same (usLess _ _ _))
                          obtain ⟨U, hU, hkU, htU⟩ : ∃ U, U = wr.drewN nq ∧ BkA U g dm rest ∧ Turn (fun k => k = g) w U := ⟨_, rfl, HK2.out, usDrew HT2.out _⟩
                          rw [← hU]
                          have HKU := Lib.hid hkU
                          have HTU := Lib.hid htU
                          clear hU hkU htU c1 c2
                          cases hl : ltU x y with
                          | true =>
                            have HL := Lib.hid hl
                            clear hl
                            have d1 := HKU.out.at_ (i := m) (by rw [HDJ.out]; omega)
                            have d2 := HKU.out.at_ (i := m - 1) (by rw [HDJ.out]; omega)
                            rw [HX.out] at d1
                            rw [HY.out] at d2
                            have e1 := HKU.out.frozen m
                            have e2 := HKU.out.frozen (m - 1)
                            repeat (first | go_skip | go_guarded | go_step)
                            go_region
                            obtain ⟨Z, hZ, hkZ, htZ⟩ : ∃ Z, Z = ((U.setCell { block := g, off := m } (Value.int IntKind.u32 y.toNat)).setCell { block := g, off := m - 1 } (Value.int IntKind.u32 x.toNat)).drew ∧ BkA Z g (Go.Sort.swp dm m (m - 1)) rest ∧ Turn (fun k => k = g) w Z :=
                              ⟨_, rfl, HKU.out.swp (by rw [HDJ.out]; omega) (by rw [HDJ.out]; omega) HX.out HY.out, (usSwpT HTU.out g m (m - 1) rfl _ _).drew⟩
                            rw [← hZ]
                            have H7K := Lib.hid hkZ
                            have H7T := Lib.hid htZ
                            clear hZ hkZ htZ d1 d2 e1 e2
                            repeat (first | go_skip | go_guarded | go_step)
                            go_roundw
                            case rel => exact ⟨m + 1, _, by go_num, by omega, by omega, by rw [Go.Sort.size_swp]; exact HDJ.out, by rw [sup_go hmb (by rw [HX.out, HY.out]; exact HL.out)]; exact HS3.out, H7K.out, H7T.out⟩
                            case measure => simp [intOf]; omega
                          | false =>
                            have HD3 := Lib.hid (show dm = if b - i2 ≥ 2 then Go.Sort.shiftUp ltU b (i2 + 1) dj else dj by rw [if_pos h2b, ← HS3.out, sup_stop (.inr (by rw [HX.out, HY.out]; exact hl))])
                            clear hl hjw
                            repeat (first | go_skip | go_guarded | go_step)
                            go_roundw
                            case rel => exact ⟨i2, t + 1, s, dm, rfl, by go_num, by have := HTS.out; omega, by omega, by omega, HDJ.out, by rw [pi_more HSC.out HIB.out H5N.out HD2.out HD3.out]; exact HO.out, HKU.out, HTU.out⟩
                            case measure => simp [intOf]; omega
                        · have hmbi : ¬ (m : Int) < (b : Int) := by omega
                          have HD3 := Lib.hid (show dm = if b - i2 ≥ 2 then Go.Sort.shiftUp ltU b (i2 + 1) dj else dj by rw [if_pos h2b, ← HS3.out, sup_stop (.inl hmb)])
                          clear hbk
                          repeat (first | go_skip | go_guarded | go_step)
                          go_roundw
                          case rel => exact ⟨i2, t + 1, s, dm, rfl, by go_num, by have := HTS.out; omega, by omega, by omega, HDJ.out, by rw [pi_more HSC.out HIB.out H5N.out HD2.out HD3.out]; exact HO.out, HK2.out, HT2.out⟩
                          case measure => simp [intOf]; omega
                    · have h2bi : decide ((2 : Int) ≤ (b : Int) - (i2 : Int)) = false := by simp; omega
                      have HD3 := Lib.hid (show dj = if b - i2 ≥ 2 then Go.Sort.shiftUp ltU b (i2 + 1) dj else dj by rw [if_neg h2b])
                      repeat (first | go_skip | go_guarded | go_step)
                      go_roundw
                      case rel => exact ⟨i2, t + 1, s, dj, rfl, by go_num, by have := HTS.out; omega, by omega, by omega, HDJ.out, by rw [pi_more HSC.out HIB.out H5N.out HD2.out HD3.out]; exact HO.out, HK2.out, HT2.out⟩
                      case measure => simp [intOf]; omega
              · have h2ai : ¬ (2 : Int) ≤ (i2 : Int) - (a : Int) := by omega
                have HD2 := Lib.hid (show Go.Sort.swp dk i2 (i2 - 1) = if i2 - a ≥ 2 then Go.Sort.shiftDown ltU (i2 - 1) (Go.Sort.swp dk i2 (i2 - 1)) else Go.Sort.swp dk i2 (i2 - 1) by rw [if_neg h2a])
                by_cases h2b : 2 ≤ b - i2
                · have h2bi : (2 : Int) ≤ (b : Int) - (i2 : Int) := by omega
                  repeat (first | go_skip | go_guarded | go_step)
                  go_loopw [10] (fun p wr => ∃ (m : Nat) (dm : Array UInt32), p = .int .i64 (m : Int) ∧ i2 + 1 ≤ m ∧ m ≤ b ∧ dm.size = n ∧ Go.Sort.shiftUp ltU b m dm = Go.Sort.shiftUp ltU b (i2 + 1) (Go.Sort.swp dk i2 (i2 - 1)) ∧ BkA wr g dm rest ∧ Turn (fun k => k = g) w wr) (fun p _ => b - (intOf p).toNat)
                  case atStart => exact ⟨i2 + 1, _, by go_num, Nat.le_refl _, by omega, HDS.out, rfl, H9K.out, H9T.out⟩
                  case round =>
                    rename World => wr
                    clear H9K H9T
                    obtain ⟨m, dm, rfl, hm1, hm2, hdm, hS, hbk, ht⟩ := hrel
                    have HS3 := Lib.hid hS
                    have HK2 := Lib.hid hbk
                    have HT2 := Lib.hid ht
                    have HD0 := HDS
                    clear HDS
                    have HDJ := Lib.hid hdm
                    clear hS ht hdm
                    by_cases hmb : m < b
                    · have hmbi : (m : Int) < (b : Int) := by omega
                      have c1 := hbk.at_ (i := m) (by rw [HDJ.out]; omega)
                      have c2 := hbk.at_ (i := m - 1) (by rw [HDJ.out]; omega)
                      generalize hx : dm[m]! = x at c1
                      generalize hy : dm[m - 1]! = y at c2
                      have HX := Lib.hid hx
                      have HY := Lib.hid hy
                      have hjw : ((m : Int) - 1) = ((m - 1 : Nat) : Int) := by omega
                      clear hbk hx hy
                      go_upto_region 22 with (fail)
                      go_quiet (refine Calls.quiet_of_same (usLess _ _ _))
                      obtain ⟨U, hU, hkU, htU⟩ : ∃ U, U = wr.drewN nq ∧ BkA U g dm rest ∧ Turn (fun k => k = g) w U := ⟨_, rfl, HK2.out, usDrew HT2.out _⟩
                      rw [← hU]
                      have HKU := Lib.hid hkU
                      have HTU := Lib.hid htU
                      clear hU hkU htU c1 c2
                      cases hl : ltU x y with
                      | true =>
                        have HL := Lib.hid hl
                        clear hl
                        have d1 := HKU.out.at_ (i := m) (by rw [HDJ.out]; omega)
                        have d2 := HKU.out.at_ (i := m - 1) (by rw [HDJ.out]; omega)
                        rw [HX.out] at d1
                        rw [HY.out] at d2
                        have e1 := HKU.out.frozen m
                        have e2 := HKU.out.frozen (m - 1)
                        repeat (first | go_skip | go_guarded | go_step)
                        go_region
                        obtain ⟨Z, hZ, hkZ, htZ⟩ : ∃ Z, Z = ((U.setCell { block := g, off := m } (Value.int IntKind.u32 y.toNat)).setCell { block := g, off := m - 1 } (Value.int IntKind.u32 x.toNat)).drew ∧ BkA Z g (Go.Sort.swp dm m (m - 1)) rest ∧ Turn (fun k => k = g) w Z :=
                          ⟨_, rfl, HKU.out.swp (by rw [HDJ.out]; omega) (by rw [HDJ.out]; omega) HX.out HY.out, (usSwpT HTU.out g m (m - 1) rfl _ _).drew⟩
                        rw [← hZ]
                        have H7K := Lib.hid hkZ
                        have H7T := Lib.hid htZ
                        clear hZ hkZ htZ d1 d2 e1 e2
                        repeat (first | go_skip | go_guarded | go_step)
                        go_roundw
                        case rel => exact ⟨m + 1, _, by go_num, by omega, by omega, by rw [Go.Sort.size_swp]; exact HDJ.out, by rw [sup_go hmb (by rw [HX.out, HY.out]; exact HL.out)]; exact HS3.out, H7K.out, H7T.out⟩
                        case measure => simp [intOf]; omega
                      | false =>
                        have HD3 := Lib.hid (show dm = if b - i2 ≥ 2 then Go.Sort.shiftUp ltU b (i2 + 1) (Go.Sort.swp dk i2 (i2 - 1)) else (Go.Sort.swp dk i2 (i2 - 1)) by rw [if_pos h2b, ← HS3.out, sup_stop (.inr (by rw [HX.out, HY.out]; exact hl))])
                        clear hl hjw
                        repeat (first | go_skip | go_guarded | go_step)
                        go_roundw
                        case rel => exact ⟨i2, t + 1, s, dm, rfl, by go_num, by have := HTS.out; omega, by omega, by omega, HDJ.out, by rw [pi_more HSC.out HIB.out H5N.out HD2.out HD3.out]; exact HO.out, HKU.out, HTU.out⟩
                        case measure => simp [intOf]; omega
                    · have hmbi : ¬ (m : Int) < (b : Int) := by omega
                      have HD3 := Lib.hid (show dm = if b - i2 ≥ 2 then Go.Sort.shiftUp ltU b (i2 + 1) (Go.Sort.swp dk i2 (i2 - 1)) else (Go.Sort.swp dk i2 (i2 - 1)) by rw [if_pos h2b, ← HS3.out, sup_stop (.inl hmb)])
                      clear hbk
                      repeat (first | go_skip | go_guarded | go_step)
                      go_roundw
                      case rel => exact ⟨i2, t + 1, s, dm, rfl, by go_num, by have := HTS.out; omega, by omega, by omega, HDJ.out, by rw [pi_more HSC.out HIB.out H5N.out HD2.out HD3.out]; exact HO.out, HK2.out, HT2.out⟩
                      case measure => simp [intOf]; omega
                · have h2bi : decide ((2 : Int) ≤ (b : Int) - (i2 : Int)) = false := by simp; omega
                  have HD3 := Lib.hid (show (Go.Sort.swp dk i2 (i2 - 1)) = if b - i2 ≥ 2 then Go.Sort.shiftUp ltU b (i2 + 1) (Go.Sort.swp dk i2 (i2 - 1)) else (Go.Sort.swp dk i2 (i2 - 1)) by rw [if_neg h2b])
                  repeat (first | go_skip | go_guarded | go_step)
                  go_roundw
                  case rel => exact ⟨i2, t + 1, s, (Go.Sort.swp dk i2 (i2 - 1)), rfl, by go_num, by have := HTS.out; omega, by omega, by omega, HDS.out, by rw [pi_more HSC.out HIB.out H5N.out HD2.out HD3.out]; exact HO.out, H9K.out, H9T.out⟩
                  case measure => simp [intOf]; omega
        · have hci : decide ((i2 : Int) < (b : Int)) = false := by simp; omega
          have hib : i2 = b := by omega
          have hibi : (i2 : Int) = (b : Int) := by omega
          have HE := Lib.hid (show Go.Sort.partialInsertionSort ltU d a b = (dk, true) by rw [← HO.out]; exact pi_done (by rw [← HS.out, sorted_stop (.inl hlt)]; exact hib))
          clear hbk hib
          go_upto_region 5 with (fail)
          go_quiet (fail)
          repeat (first | go_skip | go_guarded | go_step)
          go_ret
          exact ⟨by rw [HE.out]; rfl, by rw [HE.out]; exact HK2.out, usDrew HT2.out _⟩
    · have h5i : ¬ (t : Int) < 5 := by omega
      have hs0 : s = 0 := by omega
      subst hs0
      have HE := Lib.hid (show Go.Sort.partialInsertionSort ltU d a b = (dk, false) by rw [← HO.out]; rfl)
      repeat (first | go_skip | go_guarded | go_step)
      go_ret
      exact ⟨by rw [HE.out]; rfl, by rw [HE.out]; exact HK.out, HT.out⟩
end Go.Proofs.Ytfmghkplafploaa

set_option linter.unusedVariables false
set_option linter.unusedSimpArgs false
namespace Go.Proofs.Ytfmghkplafploaa
open Go Go.RowKit
open Go.Shelf in
def lays125_ren : Go.Shelf.Ren := ⟨fun | 125 => 30 | 128 => 52 | 129 => 53 | n => n, fun | 3 => 3 | 4 => 4 | 5 => 5 | 9 => 9 | 46 => 80 | 51 => 25 | 53 => 114 | n => n, fun | n => n⟩
theorem lays125 : Go.Proofs.Lays.n125 Try.prog lays125_ren := {
  mixed := by kernel_rfl
  f125 := Try.func30.trans (congrArg some (by kernel_rfl))
  f128 := Try.func52.trans (congrArg some (by kernel_rfl))
  f129 := Try.func53.trans (congrArg some (by kernel_rfl))
  t3 := Try.underlying3
  a3 := Try.isAgg3
  z3 := Try.sizeOf3
  v3 := Try.zeroValue3
  t4 := Try.underlying4
  a4 := Try.isAgg4
  z4 := Try.sizeOf4
  v4 := Try.zeroValue4
  t5 := Try.underlying5
  a5 := Try.isAgg5
  z5 := Try.sizeOf5
  v5 := Try.zeroValue5
  t9 := Try.underlying9
  a9 := Try.isAgg9
  z9 := Try.sizeOf9
  v9 := Try.zeroValue9
  t46 := Try.underlying80
  a46 := Try.isAgg80
  z46 := Try.sizeOf80
  v46 := Try.zeroValue80
  t51 := Try.underlying25
  a51 := Try.isAgg25
  z51 := Try.sizeOf25
  v51 := Try.zeroValue25
  t53 := Try.underlying114
  a53 := Try.isAgg114
  z53 := Try.sizeOf114
  v53 := Try.zeroValue114 }
theorem usLen (n : Nat) (hn : n < 4611686018427387904) (w : World) : Calls Try.prog 30 #[.int .u64 (n : Int)] w fun e w' => e = .returned (.int .i64 ((Go.Sort.bitsLen n : Nat) : Int)) ∧ w' = w := by
  have h := Any.bits_Len lays125 (n : Int) w (by omega) (by omega)
  rwa [Int.toNat_natCast, bitLen_eq _ (by omega)] at h
theorem usPow2 (n : Nat) (hn : n < 4611686018427387904) (w : World) :
    Calls Try.prog 68 #[.int .i64 (n : Int)] w fun e w' => e = .returned (.int .u64 ((1 <<< Go.Sort.bitsLen n : Nat) : Int)) ∧ w' = w := by
  have hk : Go.Sort.bitsLen n ≤ 62 := (Go.Sort.bitsLen_le_iff n 62).2 (by omega)
  have hp := wrap_two_pow (Go.Sort.bitsLen n) hk
  go_enter Try.func68, Try.ntmps68
  repeat (first | go_skip | go_guarded | go_step)
  refine (usLen n hn _).mono ?_
  rintro e w' ⟨rfl, rfl⟩
  dsimp only
  repeat (first | go_skip | go_guarded | go_step)
  go_ret
  exact ⟨rfl, rfl⟩
/-- The generator's cell, in a block of its own. -/
abbrev BkX (w : World) (s x : Nat) : Prop := Bk w s 129 [.int .u64 (x : Int)]
set_option maxHeartbeats 4000000 in
theorem usNext0 (s X : Nat) (hX : X < 18446744073709551616) (w : World) (hc : w.cell? ⟨s, 0, none⟩ = some (.int .u64 (X : Int))) (hf : w.frozen? ⟨s, 0, none⟩ = false) :
    Calls Try.prog 69 #[.pointer (some ⟨s, 0, none⟩)] w fun e w' => e = .returned (.int .u64 ((Go.Sort.xorNextN X : Nat) : Int)) ∧ w' = (w.setCell ⟨s, 0, none⟩ (.int .u64 ((Go.Sort.xorNextN X : Nat) : Int))).drewN 3 := by
  obtain ⟨A, hA⟩ : ∃ A : Nat, A = X ^^^ (X * 8192 % 18446744073709551616) := ⟨_, rfl⟩
  obtain ⟨B, hB⟩ : ∃ B : Nat, B = A ^^^ (A / 128) := ⟨_, rfl⟩
  obtain ⟨C, hC⟩ : ∃ C : Nat, C = B ^^^ (B * 131072 % 18446744073709551616) := ⟨_, rfl⟩
  have lA : A < 18446744073709551616 := by rw [hA]; exact Nat.xor_lt_two_pow (n := 64) (by omega) (by omega)
  have lB : B < 18446744073709551616 := by rw [hB]; exact Nat.xor_lt_two_pow (n := 64) (by omega) (by omega)
  have e1 : bits .xor .u64 (X : Int) (IntKind.u64.wrap ((X : Int) * 8192)) = (A : Int) := by
    rw [IntKind.wrap_u64, show ((X : Int) * 8192 % 18446744073709551616) = ((X * 8192 % 18446744073709551616 : Nat) : Int) by omega, bits_xor_u64_nat _ _ hX (by omega), hA]
  have e2 : bits .xor .u64 (A : Int) ((A : Int) / 128) = (B : Int) := by
    rw [show ((A : Int) / 128) = ((A / 128 : Nat) : Int) by omega, bits_xor_u64_nat _ _ lA (by omega), hB]
  have e3 : bits .xor .u64 (B : Int) (IntKind.u64.wrap ((B : Int) * 131072)) = (C : Int) := by
    rw [IntKind.wrap_u64, show ((B : Int) * 131072 % 18446744073709551616) = ((B * 131072 % 18446744073709551616 : Nat) : Int) by omega, bits_xor_u64_nat _ _ lB (by omega), hC]
  have hv : Go.Sort.xorNextN X = C := by unfold Go.Sort.xorNextN; simp only []; rw [← hA, ← hB, ← hC]
  rw [hv]
  clear hA hB hC hv
  have hss : ∀ v v', (w.setCell ⟨s, 0, none⟩ v).setCell ⟨s, 0, none⟩ v' = w.setCell ⟨s, 0, none⟩ v' := setCell_setCell w s 0
  go_enter Try.func69, Try.ntmps69
  repeat (first | go_skip | go_guarded | go_step)
  go_region
  repeat (first | go_skip | go_guarded | go_step)
  go_region
  repeat (first | go_skip | go_guarded | go_step)
  go_region
  repeat (first | go_skip | go_guarded | go_step)
  go_ret
  exact ⟨rfl, rfl⟩
theorem usNext (s X : Nat) (hX : X < 18446744073709551616) (w : World) (hs : BkX w s X) :
    Calls Try.prog 69 #[.pointer (some ⟨s, 0, none⟩)] w fun e w' => e = .returned (.int .u64 ((Go.Sort.xorNextN X : Nat) : Int)) ∧ BkX w' s (Go.Sort.xorNextN X) ∧ Turn (fun k => k = s) w w' := by
  refine (usNext0 s X hX w (by rw [hs.cell]; rfl) (hs.frozen 0)).mono ?_
  rintro e w' ⟨rfl, rfl⟩
  exact ⟨rfl, hs.set_ 0 _, usDrew ((Turn.refl (fun k => k = s) w).setCell (p := ⟨s, 0, none⟩) (fun _ => rfl) _) _⟩
end Go.Proofs.Ytfmghkplafploaa

