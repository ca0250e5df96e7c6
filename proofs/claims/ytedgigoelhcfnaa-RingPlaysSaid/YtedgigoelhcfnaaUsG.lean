/- slices.Sort of numbers of 32 bits: the pivot chosen. -/
import Derived.Test.YtedgigoelhcfnaaUsE
import Derived.Sort.LotD4
set_option linter.unusedVariables false
set_option linter.unusedSimpArgs false
namespace Go.Proofs.Ytedgigoelhcfnaa
open Go Go.RowKit

/-- A counter in a block of its own. -/
abbrev BkN (w : World) (s k : Nat) : Prop := Bk w s 3 [.int .i64 (k : Int)]
theorem BkA.turned {w w' : World} {g s : Nat} {d : Array UInt32} {rest : List Value} (h : BkA w g d rest) (ht : Turn (fun k => k = s) w w') (hne : s ≠ g) : BkA w' g d rest := (ht.block g h.lt fun e => hne e.symm).trans h
theorem order2_yes {d : Array UInt32} {a b k : Nat} (h : ltU d[b]! d[a]! = true) : Go.Sort.order2 ltU d a b k = (b, a, k + 1) := by unfold Go.Sort.order2; rw [if_pos h]
theorem order2_no {d : Array UInt32} {a b k : Nat} (h : ltU d[b]! d[a]! = false) : Go.Sort.order2 ltU d a b k = (a, b, k) := by unfold Go.Sort.order2; rw [if_neg (by rw [h]; simp)]
set_option maxRecDepth 100000 in
set_option maxHeartbeats 4000000 in
theorem usOrder2 (g c a b s k : Nat) (d : Array UInt32) (rest : List Value) (w : World) (n : Nat) (hn : n = d.size) (hb : BkA w g d rest) (hs : BkN w s k) (hne : s ≠ g) (ha : a < n) (hbn : b < n) (hk : k ≤ 1000) (hsz : n ≤ 1000000000000) :
    Calls Try.prog 45 #[.slice (some ⟨g, 0, none⟩) n c, .int .i64 (a : Int), .int .i64 (b : Int), .pointer (some ⟨s, 0, none⟩)] w fun e w' =>
      e = .returned (.tuple #[.int .i64 ((Go.Sort.order2 ltU d a b k).1 : Int), .int .i64 ((Go.Sort.order2 ltU d a b k).2.1 : Int)]) ∧ BkN w' s (Go.Sort.order2 ltU d a b k).2.2 ∧ Turn (fun q => q = s) w w' := by
  have HN := Lib.hid hn
  have c1 := hb.at_ (i := a) (by omega)
  have c2 := hb.at_ (i := b) (by omega)
  generalize hx : d[a]! = x at c1
  generalize hy : d[b]! = y at c2
  have HX := Lib.hid hx
  have HY := Lib.hid hy
  have HS := Lib.hid hs
  clear hb hx hy hn hs
  go_enter Try.func45, Try.ntmps45
  go_upto_region 1 with (fail)
  go_quiet (refine Calls.quiet_of_same (usLess _ _ _))
  obtain ⟨V, hV, hsV, htV⟩ : ∃ V, V = w.drewN nq ∧ BkN V s k ∧ Turn (fun q => q = s) w V := ⟨_, rfl, HS.out, usDrew (Turn.refl _ _) _⟩
  rw [← hV]
  have HSV := Lib.hid hsV
  have HTV := Lib.hid htV
  have c3 : V.cell? ⟨s, 0, none⟩ = some (.int .i64 (k : Int)) := by rw [hsV.cell]; rfl
  have f3 := hsV.frozen 0
  clear hV hsV htV c1 c2
  cases hl : ltU y x with
  | true =>
    have HE := Lib.hid (show Go.Sort.order2 ltU d a b k = (b, a, k + 1) from order2_yes (by rw [HX.out, HY.out]; exact hl))
    clear hl
    repeat (first | go_skip | go_guarded | go_step)
    have HZ := Lib.hid (show BkN (V.setCell ⟨s, 0, none⟩ (.int .i64 ((k + 1 : Nat) : Int))) s (k + 1) from HSV.out.set_ 0 _)
    have HTZ := Lib.hid ((HTV.out).setCell (p := ⟨s, 0, none⟩) (fun _ => rfl) (.int .i64 ((k + 1 : Nat) : Int)))
    go_ret2
    exact ⟨by rw [HE.out]; rfl, by rw [HE.out]; exact HZ.out, HTZ.out⟩
  | false =>
    have HE := Lib.hid (show Go.Sort.order2 ltU d a b k = (a, b, k) from order2_no (by rw [HX.out, HY.out]; exact hl))
    clear hl
    repeat (first | go_skip | go_guarded | go_step)
    go_ret2
    exact ⟨by rw [HE.out]; rfl, by rw [HE.out]; exact HSV.out, HTV.out⟩
theorem median_told {d : Array UInt32} {a b c k a1 b1 k1 b2 c2 k2 a3 b3 k3 : Nat} (h1 : Go.Sort.order2 ltU d a b k = (a1, b1, k1)) (h2 : Go.Sort.order2 ltU d b1 c k1 = (b2, c2, k2)) (h3 : Go.Sort.order2 ltU d a1 b2 k2 = (a3, b3, k3)) : Go.Sort.median ltU d a b c k = (b3, k3) := by
  unfold Go.Sort.median
  simp only [h1, h2, h3]
theorem order2_told {d : Array UInt32} {a b k n a1 b1 k1 : Nat} (h : Go.Sort.order2 ltU d a b k = (a1, b1, k1)) (ha : a < n) (hb : b < n) : a1 < n ∧ b1 < n ∧ k1 ≤ k + 1 := by
  have h1 := Go.Sort.order2_mem ltU d a b k
  have h2 := Go.Sort.order2_count ltU d a b k
  rw [h] at h1 h2
  simp only at h1 h2
  omega
set_option maxRecDepth 100000 in
set_option maxHeartbeats 4000000 in
theorem usMedian (g c a b e s k : Nat) (d : Array UInt32) (rest : List Value) (w : World) (n : Nat) (hn : n = d.size) (hb : BkA w g d rest) (hs : BkN w s k) (hne : s ≠ g) (ha : a < n) (hbn : b < n) (hen : e < n) (hk : k ≤ 990) (hsz : n ≤ 1000000000000) :
    Calls Try.prog 43 #[.slice (some ⟨g, 0, none⟩) n c, .int .i64 (a : Int), .int .i64 (b : Int), .int .i64 (e : Int), .pointer (some ⟨s, 0, none⟩)] w fun r w' =>
      r = .returned (.int .i64 ((Go.Sort.median ltU d a b e k).1 : Int)) ∧ BkN w' s (Go.Sort.median ltU d a b e k).2 ∧ Turn (fun q => q = s) w w' := by
  obtain ⟨a1, b1, k1, h1⟩ : ∃ a1 b1 k1, Go.Sort.order2 ltU d a b k = (a1, b1, k1) := ⟨_, _, _, rfl⟩
  obtain ⟨b2, c2, k2, h2⟩ : ∃ x1 y1 z1, Go.Sort.order2 ltU d b1 e k1 = (x1, y1, z1) := ⟨_, _, _, rfl⟩
  obtain ⟨a3, b3, k3, h3⟩ : ∃ x1 y1 z1, Go.Sort.order2 ltU d a1 b2 k2 = (x1, y1, z1) := ⟨_, _, _, rfl⟩
  obtain ⟨p1, p2, p3⟩ := order2_told h1 ha hbn
  obtain ⟨p4, p5, p6⟩ := order2_told h2 p2 hen
  obtain ⟨p7, p8, p9⟩ := order2_told h3 p1 p4
  rw [median_told h1 h2 h3]
  have HB := Lib.hid hb
  have HS := Lib.hid hs
  have HN := Lib.hid hn
  have E1 := Lib.hid h1
  have E2 := Lib.hid h2
  have E3 := Lib.hid h3
  clear hb hs hn h1 h2 h3
  go_enter Try.func43, Try.ntmps43
  repeat (first | go_skip | go_guarded | go_step)
  refine (usOrder2 g c a b s k d rest w n HN.out HB.out HS.out hne ha hbn (by omega) hsz).mono ?_
  rintro r w1 ⟨rfl, hs1, ht1⟩
  rw [E1.out] at hs1 ⊢
  have HS1 := Lib.hid hs1
  have HT1 := Lib.hid ht1
  have HB1 := Lib.hid (HB.out.turned ht1 hne)
  clear hs1 ht1
  dsimp only
  repeat (first | go_skip | go_guarded | go_step)
  refine (usOrder2 g c b1 e s k1 d rest w1 n HN.out HB1.out HS1.out hne p2 hen (by omega) hsz).mono ?_
  rintro r w2 ⟨rfl, hs1, ht1⟩
  rw [E2.out] at hs1 ⊢
  have HS2 := Lib.hid hs1
  have HT2 := Lib.hid (HT1.out.trans ht1)
  have HB2 := Lib.hid (HB1.out.turned ht1 hne)
  clear hs1 ht1
  dsimp only
  repeat (first | go_skip | go_guarded | go_step)
  refine (usOrder2 g c a1 b2 s k2 d rest w2 n HN.out HB2.out HS2.out hne p1 p4 (by omega) hsz).mono ?_
  rintro r w3 ⟨rfl, hs1, ht1⟩
  rw [E3.out] at hs1 ⊢
  have HS3 := Lib.hid hs1
  have HT3 := Lib.hid (HT2.out.trans ht1)
  clear hs1 ht1
  dsimp only
  repeat (first | go_skip | go_guarded | go_step)
  go_ret
  exact ⟨rfl, HS3.out, HT3.out⟩
set_option maxRecDepth 100000 in
set_option maxHeartbeats 4000000 in
theorem usAdj (g c a s k : Nat) (d : Array UInt32) (rest : List Value) (w : World) (n : Nat) (hn : n = d.size) (hb : BkA w g d rest) (hs : BkN w s k) (hne : s ≠ g) (ha0 : 0 < a) (ha : a + 1 < n) (hk : k ≤ 990) (hsz : n ≤ 1000000000000) :
    Calls Try.prog 42 #[.slice (some ⟨g, 0, none⟩) n c, .int .i64 (a : Int), .pointer (some ⟨s, 0, none⟩)] w fun r w' =>
      r = .returned (.int .i64 ((Go.Sort.medianAdjacent ltU d a k).1 : Int)) ∧ BkN w' s (Go.Sort.medianAdjacent ltU d a k).2 ∧ Turn (fun q => q = s) w w' := by
  have e1 : ((a : Int) - 1) = ((a - 1 : Nat) : Int) := by omega
  have HB := Lib.hid hb
  have HS := Lib.hid hs
  have HN := Lib.hid hn
  clear hb hs hn
  go_enter Try.func42, Try.ntmps42
  repeat (first | go_skip | go_guarded | go_step)
  refine (usMedian g c (a - 1) a (a + 1) s k d rest w n HN.out HB.out HS.out hne (by omega) (by omega) (by omega) hk hsz).mono ?_
  rintro r w1 ⟨rfl, hs1, ht1⟩
  have HS1 := Lib.hid hs1
  have HT1 := Lib.hid ht1
  clear hs1 ht1
  dsimp only
  repeat (first | go_skip | go_guarded | go_step)
  go_ret
  exact ⟨rfl, HS1.out, HT1.out⟩
end Go.Proofs.Ytedgigoelhcfnaa
