/- Texts, packed: SrB -/
import Derived.Test.YtfmghkplafploaaPwZA
set_option linter.unusedVariables false
set_option linter.unusedSimpArgs false
namespace Go.Proofs.Ytfmghkplafploaa
open Go Go.RowKit

theorem ix_lt_iff {ps : List UInt32} (hs : ps.Pairwise (· < ·)) {p x : UInt32} (hp : p ∈ ps) {i : Nat} (hx : ps[i]? = some x) : x.toNat < p.toNat ↔ i < ixU ps p := by
  have h1 := ixU_get hp
  obtain ⟨a1, a2⟩ := List.getElem?_eq_some_iff.1 h1
  obtain ⟨b1, b2⟩ := List.getElem?_eq_some_iff.1 hx
  have hpw := List.pairwise_iff_getElem.1 hs
  constructor
  · intro h
    rcases Nat.lt_or_ge i (ixU ps p) with k | k
    · exact k
    · exfalso
      rcases Nat.lt_or_eq_of_le k with k | k
      · have := hpw _ _ a1 b1 k
        rw [a2, b2, UInt32.lt_iff_toNat_lt] at this
        omega
      · subst k
        rw [a2] at b2
        subst b2
        omega
  · intro h
    have := hpw _ _ b1 a1 h
    rw [a2, b2, UInt32.lt_iff_toNat_lt] at this
    exact this
theorem rdU_at1 {w : World} {B : Nat} {A : Option Addr} {n : Nat} {l : List UInt32} (h : RdU w B A n l) {i : Nat} (hi : i < n) : ∃ b o x, A = some ⟨b, o, none⟩ ∧ b < B ∧ l[i]? = some x ∧ w.cell? ⟨b, o + i, none⟩ = some (nv x) := by
  obtain ⟨b, o, u, hA, hb, hu, hc⟩ := Rd.at1 h hi
  rw [List.getElem?_map] at hu
  obtain ⟨x, hx, rfl⟩ := Option.map_eq_some_iff.1 hu
  exact ⟨b, o, x, hA, hb, hx, hc⟩
set_option maxRecDepth 100000 in
set_option maxHeartbeats 4000000 in
theorem bs_any (A : Option Addr) (n c : Nat) (ps : List UInt32) (p : UInt32) (w : World) (h : RdU w w.heap.size A n ps) (hs : ps.Pairwise (· < ·)) (hp : p ∈ ps) (hn : n ≤ 1000000) :
    Calls Try.prog 21 #[.slice A n c, nv p] w fun e w' => e = .returned (.tuple #[.int .i64 (ixU ps p : Int), .bool true]) ∧ w' = w := by
  have HX := Lib.hid h
  have hl : ps.length = n := rdU_len h
  have hixn : ixU ps p < n := by rw [← hl]; exact ixU_lt hp
  have HIX := Lib.hid hixn
  have HLT := Lib.hid (fun i x (hx : ps[i]? = some x) => ix_lt_iff hs hp hx)
  have HGET := Lib.hid (ixU_get hp)
  clear h hs hl
  obtain ⟨ix, hix⟩ : ∃ ix, ix = ixU ps p := ⟨_, rfl⟩
  rw [← hix] at HLT HGET HIX hixn ⊢
  clear hix hp
  go_enter Try.func21, Try.ntmps21
  repeat (first | go_skip | go_guarded | go_step)
  go_loopw [7, 8] (fun q r wr => ∃ i j : Nat, q = .int .i64 (i : Int) ∧ r = .int .i64 (j : Int) ∧ i ≤ ix ∧ ix ≤ j ∧ j ≤ n ∧ wr = w) (fun q r _ => (intOf r).toNat - (intOf q).toNat)
  case atStart => exact ⟨0, n, rfl, rfl, by omega, by omega, by omega, (by first | rfl | trivial)⟩
  case round =>
    obtain ⟨i, j, rfl, rfl, hi, hj, hjn, hw⟩ := hrel
    subst hw
    by_cases hlt : i < j
    · have hci : (i : Int) < (j : Int) := by omega
      obtain ⟨m, hm⟩ : ∃ m, m = (i + j) / 2 := ⟨_, rfl⟩
      have hmi : i ≤ m := by omega
      have hmj : m < j := by omega
      have hmn : m < n := by omega
      have hmni : (m : Int) < (n : Int) := by omega
      have hm0 : (0 : Int) ≤ (m : Int) := by omega
      have hw5 : ((i : Int) + (j : Int)) / 2 = (m : Int) := by omega
      have HM := Lib.hid hm
      clear hm
      obtain ⟨b, o, x, hA, hb, hx, hc⟩ := rdU_at1 HX.out hmn
      have hxl := HLT.out m x hx
      subst hA
      clear hx hb
      have hless := less_any x p
      by_cases hlx : x.toNat < p.toNat
      · rw [decide_eq_true hlx] at hless
        have him : m + 1 ≤ ix := hxl.1 hlx
        have hmw : IntKind.i64.wrap ((m : Int) + 1) = ((m + 1 : Nat) : Int) := by rw [IntKind.wrap_i64]; omega
        repeat (first | go_skip | go_guarded | go_step)
        refine (hless _).mono ?_
        rintro e w2 ⟨rfl, hw⟩
        rw [hw]
        clear hw
        dsimp only
        repeat (first | go_skip | go_guarded | go_step)
        go_roundw
        case rel => exact ⟨m + 1, j, by go_num, rfl, by omega, by omega, by omega, (by first | rfl | trivial)⟩
        case measure => simp [intOf]; omega
      · rw [decide_eq_false hlx] at hless
        have him : ix ≤ m := by
          rcases Nat.lt_or_ge m ix with k | k
          · exact absurd (hxl.2 k) hlx
          · exact k
        repeat (first | go_skip | go_guarded | go_step)
        refine (hless _).mono ?_
        rintro e w2 ⟨rfl, hw⟩
        rw [hw]
        clear hw
        dsimp only
        repeat (first | go_skip | go_guarded | go_step)
        go_roundw
        case rel => exact ⟨i, m, rfl, rfl, by omega, by omega, by omega, (by first | rfl | trivial)⟩
        case measure => simp [intOf]; omega
    · obtain rfl : i = ix := by omega
      obtain rfl : i = j := by omega
      have hci : ¬ (i : Int) < (i : Int) := by omega
      obtain ⟨b, o, x, hA, hb, hx, hc⟩ := rdU_at1 HX.out hixn
      rw [HGET.out] at hx
      obtain rfl := Option.some.inj hx
      subst hA
      have hin : (i : Int) < (n : Int) := by omega
      have hi0 : (0 : Int) ≤ (i : Int) := by omega
      have hd : ((p.toNat : Int) == (p.toNat : Int)) = true := by simp
      clear hx hb
      repeat (first | go_skip | go_guarded | go_step)
      go_ret2
      exact ⟨rfl, rfl⟩
end Go.Proofs.Ytfmghkplafploaa

