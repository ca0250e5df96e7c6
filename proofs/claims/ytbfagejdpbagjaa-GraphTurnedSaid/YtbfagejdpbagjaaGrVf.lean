/- Layer 9 (graph): what two laws share. -/
import Derived.Test.YtbfagejdpbagjaaGrVc
import Derived.Test.YtbfagejdpbagjaaGrU
import Derived.Test.YtbfagejdpbagjaaGrF2
set_option linter.unusedVariables false
set_option linter.unusedSimpArgs false
namespace Go.Proofs.Ytbfagejdpbagjaa
open Go Go.RowKit

theorem rightB_nat {k ne : Nat} {E : List (Nat × Nat)} (hE : In k E) (hk : k ≤ 60) (hne : ne ≤ 300) : rightB (k : Int) ne (ei E) = true := by
  unfold rightB
  rw [decide_eq_true (by omega), decide_eq_true (by omega)]
  simp only [Bool.true_and, List.all_eq_true]
  intro x hx
  unfold ei at hx
  obtain ⟨y, hy, rfl⟩ := List.mem_map.1 hx
  have := hE y hy
  unfold okE
  simp
  omega
theorem right_ok (k : Nat) (E : List (Nat × Nat)) (A : Option Addr) (ne c : Nat) (w : World) (hr : RdE w w.heap.size A ne (ei E)) (hE : In k E) (hk : k ≤ 60) (hne : ne ≤ 300) :
    Calls Try.prog 15 #[ni k, .slice A ne c] w fun e w' => e = .returned (.bool true) ∧ w' = w := by
  have h := right_any (k : Int) A ne c (ei E) w hr
  rw [rightB_nat hE hk hne] at h
  exact h
theorem rightB_open {n : Int} {ne : Nat} {E0 : List (Int × Int)} (hf : rightB n ne E0 = true) : ∃ (k : Nat) (E : List (Nat × Nat)), n = (k : Int) ∧ E0 = ei E ∧ In k E ∧ k ≤ 60 ∧ ne ≤ 300 := by
  unfold rightB at hf
  simp only [Bool.and_eq_true, decide_eq_true_eq] at hf
  obtain ⟨⟨h0, h1, h2⟩, h3⟩ := hf
  obtain ⟨k, rfl⟩ : ∃ k : Nat, n = (k : Int) := ⟨n.toNat, by omega⟩
  obtain ⟨E, rfl, hE⟩ := okE_nat h3
  exact ⟨k, E, rfl, rfl, hE, by omega, h2⟩
theorem ei_app (E : List (Nat × Nat)) (a b : Nat) : ei (E ++ [(a, b)]) = ei E ++ [((a : Int), (b : Int))] := by unfold ei; rw [List.map_append]; rfl
theorem in_app {n : Nat} {E : List (Nat × Nat)} (h : In n E) {a b : Nat} (ha : a < n) (hb : b < n) : In n (E ++ [(a, b)]) := fun e he => by
  rcases List.mem_append.1 he with k | k
  · exact h e k
  · simp only [List.mem_singleton] at k
    subst k
    exact ⟨ha, hb⟩
theorem owE_low {w : World} {base c n : Nat} {A : Option Addr} {l : List (Int × Int)} (h : OwE w base A c n l) {k : Nat} (hk : blockOf A = some k) : base ≤ k ∧ k < w.heap.size := World.ownsRow.lt h k (by rw [ownBlock_slice]; exact hk)
theorem OwE.later {w w' : World} {base c n : Nat} {A : Option Addr} {l : List (Int × Int)} (h : OwE w base A c n l) (hb : Below w.heap.size w w') : OwE w' base A c n l := ownBelow h hb (Nat.le_refl _)
theorem RdP.turn {G : Nat → Prop} {w w' : World} {B : Nat} {A : Option Addr} {P : List (List Nat)} {R : List (Nat × Nat)} (h : RdP w B A P R) (T : Turn G w w') (hB : B ≤ w.heap.size) (hn : ∀ r ∈ R, ¬ G r.1) (hA : ∀ x, blockOf A = some x → ¬ G x) : RdP w' B A P R := by
  refine ⟨h.rlen, ⟨h.top.1, fun hp => ?_⟩, fun i r p hr hp => ?_⟩
  · obtain ⟨b, o, e, hb, hc⟩ := h.top.2 hp
    exact ⟨b, o, e, hb, fun j u hu => (T.cell (p := ⟨b, o + j, none⟩) (Nat.lt_of_lt_of_le hb hB) (hA b (by rw [e]; rfl))).trans (hc j u hu)⟩
  · obtain ⟨q1, q2, q3⟩ := h.row i r p hr hp
    exact ⟨q1, q2, fun j v hv => (T.cell (p := ⟨r.1, j, none⟩) (Nat.lt_of_lt_of_le q1 hB) (hn r (List.mem_of_getElem? hr))).trans (q3 j v hv)⟩
/-- Part, of parts that lay in an earlier world. -/
theorem part_at {w9 : World} {A : Option Addr} {m : Nat} (c : Nat) {L : List (List Nat)} {R : List (Nat × Nat)} {x ox : Int} (wc : World) (h : RdP w9 w9.heap.size A L R) (hm : L.length = m) (hmk : m ≤ 4096) (hs : ∀ p ∈ L, p.length ≤ 4096) (hx : partIx L x = ox) (hb : Below w9.heap.size w9 wc) :
    Calls Try.prog 13 #[.slice A m c, .int .i64 x] wc fun e w' => e = .returned (.int .i64 ox) ∧ Below w9.heap.size w9 w' ∧ Below wc.heap.size wc w' :=
  (part_any A m c L R x wc ((h.below hb).more hb.size) hm (by omega) (fun p hp => by have := hs p hp; omega)).mono fun e w' ⟨h1, h2⟩ => ⟨by rw [h1, hx], hb.trans (h2.mono hb.size), h2⟩
end Go.Proofs.Ytbfagejdpbagjaa
