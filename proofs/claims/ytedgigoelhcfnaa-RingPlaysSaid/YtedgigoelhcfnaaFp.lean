/- Which blocks a call turns: frames that name them. -/
import Derived.Test.YtedgigoelhcfnaaAid
import Derived.Test.YtedgigoelhcfnaaBlk
set_option linter.unusedVariables false
namespace Go.Proofs.Ytedgigoelhcfnaa
open Go Go.RowKit

/-- From w to w' only blocks of which G is so have turned, and new ones have come. -/
structure Turn (G : Nat → Prop) (w w' : World) : Prop where
  os : w'.os = w.os
  tape : w'.tape = w.tape
  output : w'.output = w.output
  size : w.heap.size ≤ w'.heap.size
  block : ∀ k, k < w.heap.size → ¬ G k → w'.heap[k]? = w.heap[k]?

theorem belowDrews {B : Nat} {a w : World} (h : Below B a w) (n : Nat) : Below B a (w.drewN n) := ⟨h.os, h.tape, h.output, h.size, h.block⟩
section
variable {G G' : Nat → Prop} {w w' a b c : World}
theorem Turn.refl (G : Nat → Prop) (w : World) : Turn G w w := ⟨rfl, rfl, rfl, Nat.le_refl _, fun _ _ _ => rfl⟩
theorem Turn.then_ (h : Turn G a b) (k : Turn G' b c) (hs : ∀ k, k < a.heap.size → G' k → G k) : Turn G a c :=
  ⟨k.os.trans h.os, k.tape.trans h.tape, k.output.trans h.output, Nat.le_trans h.size k.size, fun i hi hn => (k.block i (Nat.lt_of_lt_of_le hi h.size) fun hg => hn (hs i hi hg)).trans (h.block i hi hn)⟩
theorem Turn.trans (h : Turn G a b) (k : Turn G b c) : Turn G a c := h.then_ k fun _ _ h => h
theorem Turn.mono (h : Turn G w w') (hs : ∀ k, k < w.heap.size → G k → G' k) : Turn G' w w' :=
  ⟨h.os, h.tape, h.output, h.size, fun k hk hn => h.block k hk fun hg => hn (hs k hk hg)⟩
theorem Turn.ofBelow (h : Below w.heap.size w w') : Turn G w w' := ⟨h.os, h.tape, h.output, h.size, fun k hk _ => h.block k hk⟩
theorem Turn.ofBelowB {B : Nat} (h : Below B w w') (hs : ∀ k, B ≤ k → k < w.heap.size → G k) : Turn G w w' :=
  ⟨h.os, h.tape, h.output, h.size, fun k hk hn => h.block k (by
    rcases Nat.lt_or_ge k B with hb | hb
    · exact hb
    · exact absurd (hs k hb hk) hn)⟩
theorem Turn.below {B : Nat} (h : Turn G w w') (hB : ∀ k, k < w.heap.size → G k → B ≤ k) (hle : B ≤ w.heap.size) : Below B w w' :=
  ⟨h.os, h.tape, h.output, h.size, fun k hk => h.block k (by omega) fun hg => by have := hB k (by omega) hg; omega⟩
theorem Turn.ofGrown {row : Option Nat} (h : w.grownBy w' row) (hs : ∀ k, row = some k → G k) : Turn G w w' :=
  ⟨h.os, h.tape, h.output, h.size, fun k hk hn => h.block k hk fun e => hn (hs k e.symm)⟩
theorem Turn.alloc (h : Turn G w w') (o : Obj) : Turn G w (w'.alloc o) :=
  h.then_ (Turn.ofBelow (G := G) ((Below.refl _ _).alloc (Nat.le_refl _) o)) fun _ _ h => h
theorem Turn.setCell (h : Turn G w w') {p : Addr} (hg : p.block < w.heap.size → G p.block) (v : Value) : Turn G w (w'.setCell p v) :=
  ⟨h.os, h.tape, h.output, by simpa using h.size, fun k hk hn => (Below.heap_setCell w' p v k (fun e => hn (by subst e; exact hg hk))).trans (h.block k hk hn)⟩
theorem Turn.drew (h : Turn G w w') : Turn G w w'.drew := ⟨h.os, h.tape, h.output, h.size, h.block⟩
theorem Turn.cell (h : Turn G w w') {p : Addr} (hlt : p.block < w.heap.size) (hn : ¬ G p.block) : w'.cell? p = w.cell? p := World.cell?_of_block (h.block _ hlt hn)
theorem Turn.bk (h : Turn G w w') {g : Nat} {t : TypeId} {cs : List Value} (hb : Bk w g t cs) (hn : ¬ G g) : Bk w' g t cs := (h.block g hb.lt hn).trans hb
theorem Turn.rd (h : Turn G w w') {B s n : Nat} {A : Option Addr} {xs : List Value} (hr : Rd w B s A n xs) (hB : B ≤ w.heap.size) (hn : ∀ k, k < B → ¬ G k) : Rd w' B s A n xs :=
  hr.keep fun p hp => h.cell (by omega) (hn _ hp)
theorem Turn.own (h : Turn G w w') {base s n : Nat} {e : TypeId} {v : Value} {xs : List Value} (ho : w.ownsRow base e s v n xs) (hn : ∀ k, v.ownBlock = some k → ¬ G k) : w'.ownsRow base e s v n xs := by
  refine ⟨ho.1, ?_⟩
  rcases ho.2 with h0 | ⟨g, cap, cur, rfl, hbg, hg, hr⟩
  · exact .inl h0
  · refine .inr ⟨g, cap, cur, rfl, hbg, ?_, hr⟩
    rw [h.block g (Array.getElem?_eq_some_iff.1 hg).1 (hn g rfl)]
    exact hg
end
end Go.Proofs.Ytedgigoelhcfnaa
