/- Layer 6 (wire), the program's reader: how a call of it ends; end, past, short. -/
import Derived.Test.YtcoafgnbmgndeaaWrL
import Derived.WalkSmall
set_option linter.unusedVariables false
set_option linter.unusedSimpArgs false
namespace Go.Proofs.Ytcoafgnbmgndeaa
open Go Go.RowKit

/-- The reader in memory: its bytes, its place, its error. -/
def Rg (w : World) (g : Nat) (A : Option Addr) (n c : Nat) (t : Int) (z : Nat) : Prop := Bk w g 113 [.slice A n c, .int .i64 t, .int .i64 (z : Int)]
/-- x was taken, up to k. -/
def Got {α : Type} (p : Rdr α) (bs : List UInt8) (t : Int) (x : α) (k : Nat) : Prop := 0 ≤ t ∧ t ≤ bs.length ∧ k ≤ bs.length ∧ p (bs.drop t.toNat) = some (x, bs.drop k)
/-- Nothing was taken, and why. -/
def Nope {α : Type} (p : Rdr α) (bs : List UInt8) (t : Int) (z : Nat) : Prop := ((t < 0 ∨ (bs.length : Int) < t) ∧ z = 1) ∨ (0 ≤ t ∧ t ≤ bs.length ∧ p (bs.drop t.toNat) = none ∧ z = 5)
/-- The reader's own panic. -/
abbrev pn (g : Nat) : Ending := .panicked [{ v := .iface 79 (.pointer (some ⟨g, 0, none⟩)), recovered := false }]
/-- How a call of the reader ends. -/
def Ends {α : Type} (p : Rdr α) (g : Nat) (A : Option Addr) (n c : Nat) (bs : List UInt8) (t : Int) (ret : α → Value → World → Prop) (w : World) (e : Ending) (w' : World) : Prop :=
  Turn (fun i => i = g) w w' ∧ ((∃ x k v, e = .returned v ∧ ret x v w' ∧ Got p bs t x k ∧ Rg w' g A n c k 0) ∨ (∃ (z : Nat) (t' : Int), e = pn g ∧ Nope p bs t z ∧ Rg w' g A n c t' z))
section
variable {α β : Type} {p : Rdr α} {q : Rdr β} {bs : List UInt8} {t : Int} {x : α} {y : β} {k k2 z : Nat}
theorem Got.pos (h : Got p bs t x k) : k ≤ bs.length := h.2.2.1
theorem Got.seq (h : Got p bs t x k) (h2 : Got q bs k y k2) : Got (rSeq p q) bs t (x, y) k2 := by
  refine ⟨h.1, h.2.1, h2.2.2.1, ?_⟩
  have h3 := h2.2.2.2
  rw [Int.toNat_natCast] at h3
  unfold rSeq
  rw [h.2.2.2]
  dsimp only
  rw [h3]
theorem Nope.seq1 (h : Nope p bs t z) : Nope (rSeq p q) bs t z := by
  rcases h with h | ⟨h1, h2, h3, h4⟩
  · exact .inl h
  · refine .inr ⟨h1, h2, ?_, h4⟩
    unfold rSeq
    rw [h3]
theorem Nope.five (h : Nope q bs k z) (hk : k ≤ bs.length) : q (bs.drop k) = none ∧ z = 5 := by
  rcases h with h | ⟨h1, h2, h3, h4⟩
  · omega
  · rw [Int.toNat_natCast] at h3
    exact ⟨h3, h4⟩
theorem Got.nope2 (h : Got p bs t x k) (h2 : Nope q bs k z) : Nope (rSeq p q) bs t z := by
  obtain ⟨h3, h4⟩ := h2.five h.pos
  refine .inr ⟨h.1, h.2.1, ?_, h4⟩
  unfold rSeq
  rw [h.2.2.2]
  dsimp only
  rw [h3]
theorem Got.map (f : α → β) (h : Got p bs t x k) : Got (rMap p f) bs t (f x) k := by
  refine ⟨h.1, h.2.1, h.2.2.1, ?_⟩
  unfold rMap
  rw [h.2.2.2]
  rfl
theorem Nope.map (f : α → β) (h : Nope p bs t z) : Nope (rMap p f) bs t z := by
  rcases h with h | ⟨h1, h2, h3, h4⟩
  · exact .inl h
  · refine .inr ⟨h1, h2, ?_, h4⟩
    unfold rMap
    rw [h3]
    rfl
theorem Got.nought (h : Got p bs t x k) : Got (rMany q 0) bs k [] k := ⟨by omega, by have := h.pos; omega, h.pos, by rw [Int.toNat_natCast]; rfl⟩
theorem Got.snoc {i : Nat} {L : List α} (h : Got (rMany p i) bs t L k) (h2 : Got p bs k x k2) : Got (rMany p (i + 1)) bs t (L ++ [x]) k2 := by
  refine ⟨h.1, h.2.1, h2.2.2.1, ?_⟩
  have h3 := h2.2.2.2
  rw [Int.toNat_natCast] at h3
  rw [rMany_snoc, h.2.2.2]
  dsimp only
  rw [h3]
theorem Got.nopeS {i : Nat} {L : List α} (h : Got (rMany p i) bs t L k) (h2 : Nope p bs k z) : Nope (rMany p (i + 1)) bs t z := by
  obtain ⟨h3, h4⟩ := h2.five h.pos
  refine .inr ⟨h.1, h.2.1, ?_, h4⟩
  rw [rMany_snoc, h.2.2.2]
  dsimp only
  rw [h3]
theorem rMany_more {i : Nat} {l : List UInt8} (h : rMany p i l = none) (j : Nat) : rMany p (i + j) l = none := by
  induction j with
  | zero => exact h
  | succ j ih => rw [← Nat.add_assoc, rMany_snoc, ih]
theorem Nope.more {i j : Nat} (h : Nope (rMany p i) bs t z) (hj : i ≤ j) : Nope (rMany p j) bs t z := by
  rcases h with h | ⟨h1, h2, h3, h4⟩
  · exact .inl h
  · refine .inr ⟨h1, h2, ?_, h4⟩
    have := rMany_more h3 (j - i)
    rwa [show i + (j - i) = j by omega] at this
theorem Got.row {most N : Nat} {L : List α} (h : Got (rByte most) bs t N k) (h2 : Got (rMany p N) bs k L k2) : Got (rRow most p) bs t L k2 := by
  refine ⟨h.1, h.2.1, h2.2.2.1, ?_⟩
  have h3 := h2.2.2.2
  rw [Int.toNat_natCast] at h3
  unfold rRow
  rw [h.2.2.2]
  exact h3
theorem Nope.row {most : Nat} (h : Nope (rByte most) bs t z) : Nope (rRow most p) bs t z := by
  rcases h with h | ⟨h1, h2, h3, h4⟩
  · exact .inl h
  · refine .inr ⟨h1, h2, ?_, h4⟩
    unfold rRow
    rw [h3]
theorem Got.nopeRow {most N : Nat} (h : Got (rByte most) bs t N k) (h2 : Nope (rMany p N) bs k z) : Nope (rRow most p) bs t z := by
  obtain ⟨h3, h4⟩ := h2.five h.pos
  refine .inr ⟨h.1, h.2.1, ?_, h4⟩
  unfold rRow
  rw [h.2.2.2]
  exact h3
theorem Got.mostB {most N : Nat} (h : Got (rByte most) bs t N k) : N ≤ most := by
  have h3 := h.2.2.2
  cases hl : bs.drop t.toNat with
  | nil => rw [hl] at h3; cases h3
  | cons c l =>
    rw [hl] at h3
    unfold rByte at h3
    dsimp only at h3
    split at h3
    · rename_i hle
      simp only [Option.some.injEq, Prod.mk.injEq] at h3
      omega
    · cases h3
theorem Got.mostN {most N : Nat} (h : Got (rNum most) bs t N k) : N ≤ most := by
  have h3 := h.2.2.2
  unfold rNum at h3
  cases hv : tv (bs.drop t.toNat) 0 0 with
  | none => rw [hv] at h3; cases h3
  | some q =>
    obtain ⟨v, m⟩ := q
    rw [hv] at h3
    dsimp only at h3
    split at h3
    · rename_i hle
      simp only [Option.some.injEq, Prod.mk.injEq] at h3
      omega
    · cases h3
theorem Got.num {most N : Nat} (h : Got (rNum 18446744073709551615) bs t N k) (hN : N ≤ most) : Got (rNum most) bs t N k := by
  refine ⟨h.1, h.2.1, h.2.2.1, ?_⟩
  have h3 := h.2.2.2
  unfold rNum at h3 ⊢
  cases hv : tv (bs.drop t.toNat) 0 0 with
  | none => rw [hv] at h3; cases h3
  | some q =>
    obtain ⟨v, m⟩ := q
    rw [hv] at h3
    dsimp only at h3 ⊢
    split at h3
    · simp only [Option.some.injEq, Prod.mk.injEq] at h3
      rw [if_pos (by omega), h3.1, h3.2]
    · cases h3
theorem Got.numOver {most N : Nat} (h : Got (rNum 18446744073709551615) bs t N k) (hN : most < N) : Nope (rNum most) bs t 5 := by
  refine .inr ⟨h.1, h.2.1, ?_, rfl⟩
  have h3 := h.2.2.2
  unfold rNum at h3 ⊢
  cases hv : tv (bs.drop t.toNat) 0 0 with
  | none => rfl
  | some q =>
    obtain ⟨v, m⟩ := q
    rw [hv] at h3
    dsimp only at h3 ⊢
    split at h3
    · simp only [Option.some.injEq, Prod.mk.injEq] at h3
      rw [if_neg (by omega)]
    · cases h3
theorem Nope.num {most : Nat} (h : Nope (rNum 18446744073709551615) bs t z) (hm : most ≤ 18446744073709551615) : Nope (rNum most) bs t z := by
  rcases h with h | ⟨h1, h2, h3, h4⟩
  · exact .inl h
  · refine .inr ⟨h1, h2, ?_, h4⟩
    unfold rNum at h3 ⊢
    cases hv : tv (bs.drop t.toNat) 0 0 with
    | none => rfl
    | some q =>
      obtain ⟨v, m⟩ := q
      rw [hv] at h3
      dsimp only at h3 ⊢
      split at h3
      · cases h3
      · rw [if_neg (by omega)]
theorem Got.byte {most N : Nat} (h : Got (rByte 255) bs t N k) (hN : N ≤ most) : Got (rByte most) bs t N k := by
  refine ⟨h.1, h.2.1, h.2.2.1, ?_⟩
  have h3 := h.2.2.2
  cases hl : bs.drop t.toNat with
  | nil => rw [hl] at h3; cases h3
  | cons c l =>
    rw [hl] at h3
    unfold rByte at h3 ⊢
    dsimp only at h3 ⊢
    split at h3
    · simp only [Option.some.injEq, Prod.mk.injEq] at h3
      rw [if_pos (by omega), h3.1, h3.2]
    · cases h3
theorem Got.byteOver {most N : Nat} (h : Got (rByte 255) bs t N k) (hN : most < N) : Nope (rByte most) bs t 5 := by
  refine .inr ⟨h.1, h.2.1, ?_, rfl⟩
  have h3 := h.2.2.2
  cases hl : bs.drop t.toNat with
  | nil => rfl
  | cons c l =>
    rw [hl] at h3
    unfold rByte at h3 ⊢
    dsimp only at h3 ⊢
    split at h3
    · simp only [Option.some.injEq, Prod.mk.injEq] at h3
      rw [if_neg (by omega)]
    · cases h3
theorem Nope.byte {most : Nat} (h : Nope (rByte 255) bs t z) (hm : most ≤ 255) : Nope (rByte most) bs t z := by
  rcases h with h | ⟨h1, h2, h3, h4⟩
  · exact .inl h
  · refine .inr ⟨h1, h2, ?_, h4⟩
    cases hl : bs.drop t.toNat with
    | nil => rfl
    | cons c l =>
      rw [hl] at h3
      unfold rByte at h3 ⊢
      dsimp only at h3 ⊢
      split at h3
      · cases h3
      · rw [if_neg (by omega)]
end
theorem Turn.rg {w w' : World} {g h n c z : Nat} {A : Option Addr} {t : Int} {G : Nat → Prop} (ht : Turn G w w') (hr : Rg w g A n c t z) (hn : ¬ G g) : Rg w' g A n c t z := ht.bk hr hn

set_option maxRecDepth 100000 in
set_option maxHeartbeats 4000000 in
theorem end_any (g : Nat) (A : Option Addr) (n c z0 z : Nat) (t : Int) (w : World) (h : Rg w g A n c t z0) :
    Calls Try.prog 67 #[.pointer (some ⟨g, 0, none⟩), .int .i64 (z : Int)] w fun e w' => e = pn g ∧ Rg w' g A n c t z ∧ Turn (fun i => i = g) w w' := by
  have hb : Bk w g 113 [.slice A n c, .int .i64 t, .int .i64 (z0 : Int)] := h
  have t2 := hb.readT (Below.refl _ _) 2 rfl
  have f2 := hb.frozen 2
  have HB := Lib.hid hb
  clear hb h
  go_enter Try.func67, Try.ntmps67
  repeat (first | go_skip | go_guarded | go_step)
  exact ⟨rfl, rfl, HB.out.set_ 2 _, tkTurn w g 2 _⟩

set_option maxRecDepth 100000 in
set_option maxHeartbeats 4000000 in
theorem past_any (g : Nat) (A : Option Addr) (n c z v : Nat) (x t : Int) (w : World) (h : Rg w g A n c t 0) :
    Calls Try.prog 104 #[.pointer (some ⟨g, 0, none⟩), .int .u64 (v : Int), .int .i64 x, .int .i64 (z : Int)] w fun e w' => Turn (fun i => i = g) w w' ∧ ((z = 0 ∧ e = .returned (.int .u64 (v : Int)) ∧ Rg w' g A n c x 0) ∨ (z ≠ 0 ∧ e = pn g ∧ Rg w' g A n c t z)) := by
  have hb : Bk w g 113 [.slice A n c, .int .i64 t, .int .i64 0] := h
  have t1 := hb.readT (Below.refl _ _) 1 rfl
  have f1 := hb.frozen 1
  have HB := Lib.hid hb
  have HH := Lib.hid h
  clear hb h
  go_enter Try.func104, Try.ntmps104
  by_cases hz : z = 0
  · subst hz
    repeat (first | go_skip | go_guarded | go_step)
    go_ret
    exact ⟨tkTurn w g 1 _, .inl ⟨trivial, rfl, HB.out.set_ 1 _⟩⟩
  · have hd : ((z : Int) != 0) = true := by simp; omega
    repeat (first | go_skip | go_guarded | go_step)
    refine (end_any g A n c 0 z t w HH.out).mono ?_
    rintro e w' ⟨rfl, hr, ht⟩
    exact ⟨rfl, ht, .inr ⟨hz, rfl, hr⟩⟩

set_option maxRecDepth 100000 in
set_option maxHeartbeats 4000000 in
theorem short_any (g : Nat) (A : Option Addr) (n c v : Nat) (t : Int) (w : World) (h : Rg w g A n c t 0) (hv : v < 18446744073709551616) :
    Calls Try.prog 92 #[.pointer (some ⟨g, 0, none⟩), .int .u64 (v : Int)] w fun e w' => Turn (fun i => i = g) w w' ∧ ((v ≤ 4294967295 ∧ e = .returned (nv (UInt32.ofNat v)) ∧ Rg w' g A n c t 0) ∨ (4294967295 < v ∧ e = pn g ∧ Rg w' g A n c t 5)) := by
  have HH := Lib.hid h
  clear h
  go_enter Try.func92, Try.ntmps92
  by_cases hz : v ≤ 4294967295
  · have hd : decide ((4294967295 : Int) < (v : Int)) = false := by simp; omega
    have hw : IntKind.u32.wrap (v : Int) = ((UInt32.ofNat v).toNat : Int) := by rw [toNat32 hz, IntKind.wrap_u32] <;> omega
    repeat (first | go_skip | go_guarded | go_step)
    go_ret
    exact ⟨Turn.refl _ _, .inl ⟨hz, rfl, HH.out⟩⟩
  · have hd : decide ((4294967295 : Int) < (v : Int)) = true := by simp; omega
    repeat (first | go_skip | go_guarded | go_step)
    refine (end_any g A n c 0 5 t w HH.out).mono ?_
    rintro e w' ⟨rfl, hr, ht⟩
    exact ⟨rfl, ht, .inr ⟨by omega, rfl, hr⟩⟩
end Go.Proofs.Ytcoafgnbmgndeaa
