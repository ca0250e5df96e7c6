/- Layer 18 (ring): what is asked of the program (RingOk); steps in memory; few. -/
import Derived.Test.YtedgigoelhcfnaaRnD
set_option linter.unusedVariables false
set_option linter.unusedSimpArgs false
namespace Go.Proofs.Ytedgigoelhcfnaa
open Go Go.RowKit

abbrev rp (a : Nat) : Value := .pointer (some ⟨a, 0, none⟩)
/-- What is asked of the program's package ring. Rg w a G K: the ring at block a has the keys K; its own blocks are G. -/
structure RingOk (Rg : World → Nat → (Nat → Prop) → List RgE → Prop) : Prop where
  good : ∀ {w a G K}, Rg w a G K → RgGood K
  keep : ∀ {w w' a G K} {H : Nat → Prop}, Rg w a G K → Turn H w w' → (∀ k, G k → ¬ H k) → Rg w' a G K
  low : ∀ {w a G K}, Rg w a G K → ∀ k, G k → k < w.heap.size
  new_ : ∀ w : World, Calls Try.prog 8 #[] w fun e w' => ∃ a G, e = .returned (rp a) ∧ Rg w' a G [] ∧ (∀ k, G k → w.heap.size ≤ k) ∧ Below w.heap.size w w'
  put : ∀ (w : World) (a : Nat) (G : Nat → Prop) (K : List RgE) (u : UInt32) (A : Option Addr) (n c B : Nat) (k : List UInt8), Rg w a G K → Rd w B 1 A n (k.map bv) → B ≤ w.heap.size → n ≤ c → n ≤ 1000000 → (0 < n → ∀ x, A.map (·.block) = some x → ¬ G x) →
    Calls Try.prog 11 #[rp a, nr u, .slice A n c] w fun e w' => ∃ G', e = .returned (.int .i64 ((rgPut K u k).1 : Int)) ∧ Rg w' a G' (rgPut K u k).2 ∧ Turn G w w' ∧ (∀ x, G' x → G x ∨ w.heap.size ≤ x)
  drop : ∀ (w : World) (a : Nat) (G : Nat → Prop) (K : List RgE) (u : UInt32), Rg w a G K →
    Calls Try.prog 9 #[rp a, nr u] w fun e w' => ∃ G', e = .returned (.int .i64 ((rgDrop K u).1 : Int)) ∧ Rg w' a G' (rgDrop K u).2 ∧ Turn G w w' ∧ (∀ x, G' x → G x ∨ w.heap.size ≤ x)
  key : ∀ (w : World) (a : Nat) (G : Nat → Prop) (K : List RgE) (u : UInt32), Rg w a G K →
    Calls Try.prog 13 #[rp a, nr u] w fun e w' => ∃ (G' : Nat → Prop) (A : Option Addr) (n c : Nat), e = .returned (.tuple #[.slice A n c, .bool (rgAt K u).isSome]) ∧ Rd w' w'.heap.size 1 A n ((rgKey K u).map bv) ∧ (∀ x, A.map (·.block) = some x → ¬ G' x) ∧ Rg w' a G' K ∧ Turn G w w' ∧ (∀ x, G' x → G x ∨ w.heap.size ≤ x)
  list : ∀ (w : World) (a : Nat) (G : Nat → Prop) (K : List RgE), Rg w a G K →
    Calls Try.prog 15 #[rp a] w fun e w' => ∃ (G' : Nat → Prop) (A : Option Addr) (n c : Nat), e = .returned (.slice A n c) ∧ Rd w' w'.heap.size 1 A n ((K.map (·.1)).map nr) ∧ (∀ x, A.map (·.block) = some x → ¬ G' x) ∧ Rg w' a G' K ∧ Turn G w w' ∧ (∀ x, G' x → G x ∨ w.heap.size ≤ x)
  putN : ∀ (w : World) (u : UInt32) (A : Option Addr) (n c : Nat), Calls Try.prog 11 #[.pointer none, nr u, .slice A n c] w fun e w' => e = .returned (.int .i64 2) ∧ Below w.heap.size w w'
  dropN : ∀ (w : World) (u : UInt32), Calls Try.prog 9 #[.pointer none, nr u] w fun e w' => e = .returned (.int .i64 2) ∧ Below w.heap.size w w'
  keyN : ∀ (w : World) (u : UInt32), Calls Try.prog 13 #[.pointer none, nr u] w fun e w' => ∃ A c, e = .returned (.tuple #[.slice A 0 c, .bool false]) ∧ Below w.heap.size w w'
  listN : ∀ w : World, Calls Try.prog 15 #[.pointer none] w fun e w' => ∃ A c, e = .returned (.slice A 0 c) ∧ Below w.heap.size w w'
/-- The anchor. -/
def RWorksOk : Prop := ∀ w : World, Calls Try.prog 7 #[] w fun e w' => e = .returned (.bool true) ∧ Below w.heap.size w w'

/-! ### Steps in memory -/
abbrev SlR := Option Addr × Nat × Nat
/-- A step (Drop, Who, Key), and where its key is. -/
abbrev StE := (Bool × UInt32 × List UInt8) × SlR
def stC (z : StE) : List Value := [.bool z.1.1, nr z.1.2.1, .slice z.2.1 z.2.2.1 z.2.2.2]
theorem stC_len (Z : List StE) : (Z.flatMap stC).length = Z.length * 3 := by
  induction Z with
  | nil => rfl
  | cons x X ih => rw [List.flatMap_cons, List.length_append, ih, List.length_cons]; simp [stC]; omega
theorem stC_at : ∀ (Z : List StE) (i : Nat) (z : StE), Z[i]? = some z → (Z.flatMap stC)[i * 3]? = some (.bool z.1.1) ∧ (Z.flatMap stC)[i * 3 + 1]? = some (nr z.1.2.1) ∧ (Z.flatMap stC)[i * 3 + 2]? = some (.slice z.2.1 z.2.2.1 z.2.2.2)
  | [], i, z, h => by simp at h
  | x :: Z, 0, z, h => by
    simp only [List.getElem?_cons_zero, Option.some.injEq] at h
    subst h
    exact ⟨rfl, rfl, rfl⟩
  | x :: Z, i + 1, z, h => by
    rw [List.getElem?_cons_succ] at h
    have := stC_at Z i z h
    rw [show (i + 1) * 3 + 2 = (i * 3 + 2) + 1 + 1 + 1 by omega, show (i + 1) * 3 + 1 = (i * 3 + 1) + 1 + 1 + 1 by omega, show (i + 1) * 3 = (i * 3) + 1 + 1 + 1 by omega]
    exact this
structure RdSt (w : World) (B : Nat) (A : Option Addr) (n : Nat) (Z : List StE) : Prop where
  top : Rd w B 3 A n (Z.flatMap stC)
  row : ∀ z ∈ Z, Rd w B 1 z.2.1 z.2.2.1 (z.1.2.2.map bv) ∧ z.2.2.1 ≤ z.2.2.2
section
variable {w w' : World} {B B' n : Nat} {A : Option Addr} {Z : List StE}
theorem RdSt.below (h : RdSt w B A n Z) (hb : Below B w w') : RdSt w' B A n Z := ⟨h.top.below hb, fun z hz => ⟨(h.row z hz).1.below hb, (h.row z hz).2⟩⟩
theorem RdSt.more (h : RdSt w B A n Z) (hB : B ≤ B') : RdSt w B' A n Z := ⟨h.top.more hB, fun z hz => ⟨(h.row z hz).1.more hB, (h.row z hz).2⟩⟩
theorem RdSt.len (h : RdSt w B A n Z) : Z.length = n := by
  have := h.top.1
  rw [stC_len] at this
  omega
theorem RdSt.at_ (h : RdSt w B A n Z) {i : Nat} (hi : i < n) : ∃ b o d u k Ak nk ck, A = some ⟨b, o, none⟩ ∧ b < B ∧ Z[i]? = some ((d, u, k), (Ak, nk, ck)) ∧ w.cell? ⟨b, o + i * 3, none⟩ = some (.bool d) ∧ w.cell? ⟨b, o + i * 3 + 1, none⟩ = some (nr u) ∧ w.cell? ⟨b, o + i * 3 + 2, none⟩ = some (.slice Ak nk ck) ∧ Rd w B 1 Ak nk (k.map bv) ∧ k.length = nk ∧ nk ≤ ck := by
  obtain ⟨b, o, e, hb, hc⟩ := h.top.2 (by omega)
  have hl := h.len
  have hz : Z[i]? = some (Z[i]'(by omega)) := List.getElem?_eq_getElem _
  generalize Z[i]'(by omega) = z at hz
  obtain ⟨⟨d, u, k⟩, Ak, nk, ck⟩ := z
  obtain ⟨f0, f1, f2⟩ := stC_at Z i _ hz
  obtain ⟨hr, hnc⟩ := h.row _ (List.mem_of_getElem? hz)
  have hkl := hr.len1
  rw [List.length_map] at hkl
  exact ⟨b, o, d, u, k, Ak, nk, ck, e, hb, hz, hc _ _ f0, hc _ _ f1, hc _ _ f2, hr, hkl, hnc⟩
end
def fewS (Z : List StE) : Bool := decide (Z.length ≤ 200) && Z.all fun z => decide (z.1.2.2.length ≤ 300)
theorem fewS_iff {Z : List StE} : fewS Z = true ↔ Z.length ≤ 200 ∧ ∀ z ∈ Z, z.1.2.2.length ≤ 300 := by
  unfold fewS
  simp
set_option maxRecDepth 100000 in
set_option maxHeartbeats 1000000 in
theorem fewS_any (A : Option Addr) (n c : Nat) (Z : List StE) (w : World) (h : RdSt w w.heap.size A n Z) :
    Calls Try.prog 6 #[.slice A n c] w fun e w' => e = .returned (.bool (fewS Z)) ∧ w' = w := by
  have HX := Lib.hid h
  have HL := Lib.hid h.len
  clear h
  by_cases h2 : 200 < n
  · have h2i : (200 : Int) < (n : Int) := by omega
    have HF := Lib.hid (show fewS Z = false by unfold fewS; rw [decide_eq_false (by rw [HL.out]; omega)]; rfl)
    go_enter Try.func6, Try.ntmps6
    repeat (first | go_skip | go_guarded | go_step)
    go_ret
    exact ⟨by rw [HF.out]; rfl, rfl⟩
  have h2i : ¬ (200 : Int) < (n : Int) := by omega
  go_enter Try.func6, Try.ntmps6
  repeat (first | go_skip | go_guarded | go_step)
  go_loopw [3] (fun q wr => ∃ i : Nat, i ≤ n ∧ q = .int .i64 (i : Int) ∧ (∀ z ∈ Z.take i, z.1.2.2.length ≤ 300) ∧ wr = w) (fun q _ => n - (intOf q).toNat)
  case atStart => exact ⟨0, by omega, rfl, by simp, rfl⟩
  case round =>
    obtain ⟨i, hi, rfl, hal, hw⟩ := hrel
    rw [hw]
    have HAL := Lib.hid hal
    clear hal hw
    by_cases hlt : i < n
    · have hci : (i : Int) < (n : Int) := by omega
      have hi0 : (0 : Int) ≤ (i : Int) := by omega
      obtain ⟨b, o, d, u, k, Ak, nk, ck, hA, hb, hz, hc0, hc1, hc2, hr, hkl, hnc⟩ := HX.out.at_ hlt
      have HZ := Lib.hid hz
      have HKL := Lib.hid hkl
      subst hA
      clear hz hb hc0 hc1 hr hkl
      by_cases h3 : 300 < nk
      · have h3i : (300 : Int) < (nk : Int) := by omega
        have HF := Lib.hid (show fewS Z = false by
          rw [Bool.eq_false_iff]
          intro e
          have := (fewS_iff.1 e).2 _ (List.mem_of_getElem? HZ.out)
          have := HKL.out
          dsimp only at *
          omega)
        repeat (first | go_skip | go_guarded | go_step)
        go_ret
        exact ⟨by rw [HF.out]; rfl, rfl⟩
      · have h3i : ¬ (300 : Int) < (nk : Int) := by omega
        repeat (first | go_skip | go_guarded | go_step)
        go_roundw
        case rel => exact ⟨i + 1, by omega, by go_num, by
          rw [List.take_add_one, HZ.out]
          intro z hz
          rcases List.mem_append.1 hz with hz | hz
          · exact HAL.out z hz
          · simp at hz
            rw [hz]
            have := HKL.out
            show k.length ≤ 300
            omega, (by first | rfl | trivial)⟩
        case measure => simp [intOf]; omega
    · obtain rfl : n = i := by omega
      have hci : ¬ (n : Int) < (n : Int) := by omega
      have HF := Lib.hid (show fewS Z = true from fewS_iff.2 ⟨by rw [HL.out]; omega, by
        have := HAL.out
        rwa [List.take_of_length_le (by rw [HL.out]; exact Nat.le_refl _)] at this⟩)
      repeat (first | go_skip | go_guarded | go_step)
      go_ret
      exact ⟨by rw [HF.out]; rfl, rfl⟩
end Go.Proofs.Ytedgigoelhcfnaa
