/- Layer 4 (syms): the mathematics of what is put, one behind the other. -/
import Derived.Test.YtaejidchoaejkaaSyB
set_option linter.unusedVariables false
namespace Go.Proofs.Ytaejidchoaejkaa
open Go Go.RowKit

/-- Names, each once, that may be; no more than so many. -/
structure Good (n : Nat) (l : List ByteArray) : Prop where
  nodup : l.Nodup
  may : ∀ s ∈ l, mayB s = true
  len : l.length ≤ n
theorem Good.nil (n : Nat) : Good n [] := ⟨List.nodup_nil, by simp, by simp⟩
theorem findO_mem {l : List ByteArray} {s : ByteArray} : findO l s = none ↔ s ∉ l := by
  constructor
  · intro h hm
    unfold findO at h
    rw [List.findIdx?_eq_none_iff] at h
    have := h s hm
    simp at this
  · intro h
    exact findO_none fun j x hj e => h (e ▸ List.mem_of_getElem? hj)
theorem findO_get {l : List ByteArray} {s : ByteArray} {k : Nat} (h : findO l s = some k) : l[k]? = some s := by
  unfold findO at h
  rw [List.findIdx?_eq_some_iff_getElem] at h
  obtain ⟨hk, h1, _⟩ := h
  rw [List.getElem?_eq_getElem hk]
  simpa using h1
theorem putL_may {l : List ByteArray} {s : ByteArray} (h : mayB s = false) : putL l s = (l, 0, 8) := by unfold putL; rw [if_pos h]
theorem putL_old {l : List ByteArray} {s : ByteArray} {k : Nat} (h : mayB s = true) (hf : findO l s = some k) : putL l s = (l, k, 0) := by
  unfold putL
  rw [if_neg (by simp [h]), hf]
theorem putL_new {l : List ByteArray} {s : ByteArray} (h : mayB s = true) (hf : findO l s = none) (hl : l.length < 4096) : putL l s = (l ++ [s], l.length, 0) := by
  unfold putL
  rw [if_neg (by simp [h]), hf]
  simp [Nat.not_le.2 hl]
theorem Good.mono {n m : Nat} {l : List ByteArray} (h : Good n l) (hm : n ≤ m) : Good m l := ⟨h.nodup, h.may, Nat.le_trans h.len hm⟩
theorem putL_good {n : Nat} {l : List ByteArray} (s : ByteArray) (h : Good n l) (hn : n < 4096) : Good (n + 1) (putL l s).1 := by
  cases hm : mayB s with
  | false => rw [putL_may hm]; exact h.mono (by omega)
  | true =>
    cases hf : findO l s with
    | some k => rw [putL_old hm hf]; exact h.mono (by omega)
    | none =>
      rw [putL_new hm hf (by have := h.len; omega)]
      refine ⟨?_, ?_, ?_⟩
      · rw [List.nodup_append]
        exact ⟨h.nodup, by simp, fun a ha b hb e => findO_mem.1 hf (by simp at hb; rw [← hb, ← e]; exact ha)⟩
      · intro x hx
        rcases List.mem_append.1 hx with h1 | h1
        · exact h.may x h1
        · simp at h1
          rw [h1]
          exact hm
      · simp
        have := h.len
        omega
theorem putL_suf (l : List ByteArray) (s : ByteArray) : ∃ r, (putL l s).1 = l ++ r := by
  unfold putL
  split
  · exact ⟨[], by simp⟩
  · split
    · exact ⟨[], by simp⟩
    · split
      · exact ⟨[], by simp⟩
      · exact ⟨[s], rfl⟩
/-- A name that may be, put where there is room: no error, and there it stands. -/
theorem putL_yes {n : Nat} {l : List ByteArray} {s : ByteArray} (h : Good n l) (hn : n < 4096) (hm : mayB s = true) : (putL l s).2.2 = 0 ∧ findO (putL l s).1 s = some (putL l s).2.1 := by
  cases hf : findO l s with
  | some k => rw [putL_old hm hf]; exact ⟨rfl, hf⟩
  | none =>
    rw [putL_new hm hf (by have := h.len; omega)]
    refine ⟨rfl, ?_⟩
    refine findO_some (by simp) fun j x hj hx e => ?_
    rw [List.getElem?_append_left hj] at hx
    exact findO_mem.1 hf (e ▸ List.mem_of_getElem? hx)
theorem putL_no {n : Nat} {l : List ByteArray} {s : ByteArray} (h : Good n l) (hm : mayB s = false) : putL l s = (l, 0, 8) ∧ findO l s = none := by
  refine ⟨putL_may hm, findO_mem.2 fun hs => ?_⟩
  have := h.may s hs
  rw [hm] at this
  cases this
theorem ofL_good : ∀ (r acc : List ByteArray), Good 4096 (acc ++ r) → ofL acc r = (acc ++ r, 0)
  | [], acc, _ => by simp [ofL]
  | s :: r, acc, h => by
    have hm : mayB s = true := h.may s (by simp)
    have hn : s ∉ acc := fun hs => by
      have := h.nodup
      rw [List.nodup_append] at this
      exact this.2.2 s hs s (by simp) rfl
    have hl : acc.length < 4096 := by
      have := h.len
      simp at this
      omega
    rw [ofL, putL_new hm (findO_mem.2 hn) hl]
    simp only [if_pos]
    rw [ofL_good r (acc ++ [s]) (by simpa using h)]
    simp
theorem nodup_ne {l : List ByteArray} (h : l.Nodup) {i k : Nat} {x y : ByteArray} (hk : k < i) (hx : l[i]? = some x) (hy : l[k]? = some y) : x ≠ y := by
  intro e
  obtain ⟨h1, h2⟩ := List.getElem?_eq_some_iff.1 hx
  obtain ⟨h3, h4⟩ := List.getElem?_eq_some_iff.1 hy
  rw [List.nodup_iff_pairwise_ne, List.pairwise_iff_getElem] at h
  exact h k i h3 h1 hk (by rw [h2, h4, e])
end Go.Proofs.Ytaejidchoaejkaa
