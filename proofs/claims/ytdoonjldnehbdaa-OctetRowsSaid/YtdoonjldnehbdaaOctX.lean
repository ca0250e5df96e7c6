/- Layer 1 (octet): bytes that are turned in place. -/
import Derived.Test.YtdoonjldnehbdaaOctK
set_option linter.unusedVariables false
namespace Go.Proofs.Ytdoonjldnehbdaa
open Go Go.RowKit

/-- All are bytes. -/
def AllB (xs : List Value) : Prop := ∀ (j : Nat) (u : Value), xs[j]? = some u → ∃ b : UInt8, u = Value.int .u8 (b.toNat : Int)
theorem AllB.bytes (bs : List UInt8) : AllB (bs.map bv) := by
  intro j u h
  simp only [List.getElem?_map, Option.map_eq_some_iff] at h
  obtain ⟨b, _, rfl⟩ := h
  exact ⟨b, rfl⟩
theorem AllB.room (bs : List UInt8) : AllB (roomB bs) := by
  intro j u h
  unfold roomB at h
  rw [List.getElem?_append] at h
  split at h
  · exact AllB.bytes bs j u h
  · rw [List.getElem?_replicate] at h
    split at h
    · cases h
      exact ⟨0, rfl⟩
    · cases h
theorem AllB.set {xs : List Value} (h : AllB xs) (i : Nat) (b : UInt8) (u : Value) (hu : u = Value.int .u8 (b.toNat : Int)) : AllB (xs.set i u) := by
  intro j v hj
  rw [List.getElem?_set] at hj
  split at hj
  · split at hj
    · cases hj
      exact ⟨b, hu⟩
    · cases hj
  · exact h j v hj
theorem xorB (b : UInt8) (k : Nat) (hk : k < 256) : ∃ c : UInt8, Value.int .u8 (bits .xor .u8 (b.toNat : Int) (k : Int)) = .int .u8 (c.toNat : Int) := by
  rw [u8_xor_nat _ _ (u8_lt b) hk]
  refine ⟨UInt8.ofNat (b.toNat ^^^ k), ?_⟩
  have := Nat.xor_lt_two_pow (n := 8) (u8_lt b) hk
  rw [UInt8.toNat_ofNat_of_lt' (by show _ < 256; omega)]
theorem onlySet {a w : World} {g : Nat} (h : a.grownBy w (some g)) (i : Nat) (u : Value) : a.grownBy (w.setCell ⟨g, i, none⟩ u) (some g) :=
  ⟨h.os, h.tape, h.output, by simpa [World.setCell] using h.size, fun k hk hne => (Below.heap_setCell w ⟨g, i, none⟩ u k (fun e => hne (by rw [e]))).trans (h.block k hk hne)⟩
end Go.Proofs.Ytdoonjldnehbdaa
