/- Texts, packed: StI -/
import Derived.Test.YtfmghkplafploaaPwE
set_option linter.unusedVariables false
set_option linter.unusedSimpArgs false
namespace Go.Proofs.Ytfmghkplafploaa
open Go Go.RowKit

/-- What has been seen. -/
structure SeenT (C : List Cl) (a : UInt32) (S : List UInt32) : Prop where
  nodup : S.Nodup
  start : a ∈ S
  way : ∀ s ∈ S, Way (edL C) a s
  mem : ∀ s ∈ S, s ∈ a :: prL C
theorem SeenT.len {C : List Cl} {a : UInt32} {S : List UInt32} (h : SeenT C a S) : S.length ≤ (prL C).length + 1 := by
  have := nodup_len h.nodup h.mem
  rwa [List.length_cons] at this
theorem SeenT.more {C : List Cl} {a : UInt32} {S : List UInt32} (h : SeenT C a S) {e : Ed} (he : e ∈ edL C) (h1 : e.1 ∈ S) (h2 : e.2.1 ∉ S) : SeenT C a (S ++ [e.2.1]) := by
  refine ⟨List.nodup_append.2 ⟨h.nodup, by simp, fun x hx y hy => ?_⟩, List.mem_append_left _ h.start, fun s hs => ?_, fun s hs => ?_⟩
  · rw [List.mem_singleton] at hy
    subst hy
    exact fun e => h2 (e ▸ hx)
  · rcases List.mem_append.1 hs with hs | hs
    · exact h.way s hs
    · rw [List.mem_singleton] at hs
      subst hs
      exact (h.way _ h1).step he rfl
  · rcases List.mem_append.1 hs with hs | hs
    · exact h.mem s hs
    · rw [List.mem_singleton] at hs
      subst hs
      exact List.mem_cons_of_mem _ (edge_body he)
theorem prL_len {C : List Cl} (hk : ∀ x ∈ C, x.2.length ≤ 1000000) : (prL C).length ≤ C.length * 1000001 := by
  induction C with
  | nil => simp [prL]
  | cons x C ih =>
    have h1 := ih fun y hy => hk y (by simp [hy])
    have h2 := hk x (by simp)
    unfold prL at *
    rw [List.flatMap_cons, List.length_append, List.length_cons, Nat.add_mul]
    have : (prC x).length = x.2.length + 1 := by unfold prC; simp
    omega
/-- One node is being looked at. -/
structure Look (C : List Cl) (a b s : UInt32) (i : Nat) (vis : List Ed) (S : List UInt32) : Prop where
  seen : SeenT C a S
  at_ : S[i]? = some s
  no : ∀ x ∈ S.take (i + 1), x ≠ b
  closed : ∀ e ∈ edL C, e.1 ∈ S.take i → e.2.1 ∈ S
  vis : ∀ e ∈ vis, e.1 = s → e.2.1 ∈ S
section
variable {C : List Cl} {a b s : UInt32} {i : Nat} {vis : List Ed} {S : List UInt32}
theorem Look.lt (h : Look C a b s i vis S) : i < S.length := (List.getElem?_eq_some_iff.1 h.at_).1
theorem Look.mem (h : Look C a b s i vis S) : s ∈ S := List.mem_of_getElem? h.at_
theorem Look.others (h : Look C a b s i vis S) {l : List Ed} (hl : ∀ e ∈ l, e.1 ≠ s) : Look C a b s i (vis ++ l) S :=
  ⟨h.seen, h.at_, h.no, h.closed, fun e' he' => by
    rcases List.mem_append.1 he' with h1 | h1
    · exact h.vis e' h1
    · exact fun e => absurd e (hl e' h1)⟩
theorem Look.grow (h : Look C a b s i vis S) {e : Ed} (he : e ∈ edL C) (h1 : e.1 = s) (h2 : e.2.1 ∉ S) : Look C a b s i (vis ++ [e]) (S ++ [e.2.1]) := by
  have hl := h.lt
  have ht : ∀ k, k ≤ S.length → (S ++ [e.2.1]).take k = S.take k := fun k hk => List.take_append_of_le_length hk
  refine ⟨h.seen.more he (h1 ▸ h.mem) h2, ?_, ?_, fun d hd hm => ?_, fun d hd hs => ?_⟩
  · rw [List.getElem?_append_left hl]; exact h.at_
  · rw [ht _ (by omega)]; exact h.no
  · rw [ht _ (by omega)] at hm
    exact List.mem_append_left _ (h.closed d hd hm)
  · rcases List.mem_append.1 hd with hd | hd
    · exact List.mem_append_left _ (h.vis d hd hs)
    · rw [List.mem_singleton] at hd
      subst hd
      exact List.mem_append_right _ (by simp)
end
end Go.Proofs.Ytfmghkplafploaa

