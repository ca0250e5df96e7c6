/- Layer 2 (sha): a state in memory; what is written to it. -/
import Derived.Test.YtgkfebbifgkkeaaDoorShaD
import Derived.Laws.Rows
set_option linter.unusedVariables false
namespace Go.Proofs.YtgkfebbifgkkeaaDoor
open Go Go.RowKit

/-! ### bytes that lie in another block than g -/
def Rdg (w : World) (g : Nat) (A : Option Addr) (n : Nat) (cs : List UInt8) : Prop :=
  cs.length = n ∧ (0 < n → ∃ b o, A = some ⟨b, o, none⟩ ∧ b ≠ g ∧ b < w.heap.size ∧ ∀ j u, cs[j]? = some u → w.cell? ⟨b, o + j, none⟩ = some (bv u))
theorem Rdg.grown {w w' : World} {g n : Nat} {A : Option Addr} {cs : List UInt8} (h : Rdg w g A n cs) (hg : w.grownBy w' (some g)) : Rdg w' g A n cs :=
  ⟨h.1, fun hn => by
    obtain ⟨b, o, e, hb, hl, hc⟩ := h.2 hn
    exact ⟨b, o, e, hb, Nat.lt_of_lt_of_le hl hg.size, fun j u hu => hg.cell (hc j u hu) (by simpa using hb)⟩⟩
theorem Rdg.ofRd {w : World} {B g n : Nat} {A : Option Addr} {cs : List UInt8} (h : Rd w B 1 A n (cs.map bv)) (hB : B ≤ g) (hl : B ≤ w.heap.size) : Rdg w g A n cs :=
  ⟨by simpa using h.len1, fun hn => by
    obtain ⟨b, o, e, hb, hc⟩ := h.2 hn
    exact ⟨b, o, e, by omega, by omega, fun j u hu => hc j (bv u) (by simp [hu])⟩⟩
theorem Rdg.cut {w : World} {g n : Nat} {A : Option Addr} {cs : List UInt8} (h : Rdg w g A n cs) (q : Nat) (hq : q ≤ n) : Rdg w g (A.map (·.add q)) (n - q) (cs.drop q) :=
  ⟨by rw [List.length_drop, h.1], fun hn => by
    obtain ⟨b, o, rfl, hb, hl, hc⟩ := h.2 (by omega)
    exact ⟨b, o + q, by simp [addPlain], hb, hl, fun j u hu => by
      rw [Nat.add_assoc]
      exact hc (q + j) u (by rw [← hu, List.getElem?_drop])⟩⟩
theorem Rdg.done {w : World} {g : Nat} {A : Option Addr} : Rdg w g A 0 [] := ⟨rfl, fun h => absurd h (by omega)⟩

/-! ### the state -/
def stCells (s : W8) (rest : List UInt8) (n : Nat) : List Value := s.list.map uv ++ (rest.map bv ++ [.int .u64 (n : Int)])
/-- bs was written to the state at block g. -/
def St (w : World) (g : Nat) (bs : List UInt8) : Prop :=
  ∃ rest : List UInt8, rest.length = 64 ∧ rest.take (bs.length % 64) = bs.drop (64 * (bs.length / 64)) ∧ Bk w g 73 (stCells (runB (bs.length / 64) firstW bs) rest bs.length)

theorem St.later {w w' : World} {g : Nat} {bs : List UInt8} (h : St w g bs) (hb : Below w.heap.size w w') : St w' g bs := by
  obtain ⟨rest, h1, h2, h3⟩ := h
  exact ⟨rest, h1, h2, h3.later hb⟩
theorem St.lt {w : World} {g : Nat} {bs : List UInt8} (h : St w g bs) : g < w.heap.size := by
  obtain ⟨rest, h1, h2, h3⟩ := h
  exact h3.lt
theorem St.alloc {w : World} {g : Nat} {bs : List UInt8} (h : St w g bs) (o : Obj) : St (w.alloc o) g bs := h.later ((Below.refl _ _).alloc (Nat.le_refl _) o)
theorem Bk.grown {w w' : World} {g k : Nat} {t : TypeId} {cs : List Value} (h : Bk w k t cs) (hg : w.grownBy w' (some g)) (hne : k ≠ g) : Bk w' k t cs := (hg.block k h.lt (by simpa using hne)).trans h
theorem St.grown {w w' : World} {g k : Nat} {bs : List UInt8} (h : St w k bs) (hg : w.grownBy w' (some g)) (hne : k ≠ g) : St w' k bs := by
  obtain ⟨rest, h1, h2, h3⟩ := h
  exact ⟨rest, h1, h2, h3.grown hg hne⟩
theorem Rdg.lit {w : World} {H g : Nat} (t : TypeId) (bs : List UInt8) (fr : Nat × Nat) (h : w.heap.size = H) (hg : H ≠ g) : Rdg (w.alloc (.cells (bs.map bv).toArray t fr)) g (some ⟨H, 0, none⟩) bs.length bs :=
  ⟨rfl, fun _ => ⟨_, _, rfl, hg, by simp; omega, fun j u hu => by
    subst h
    rw [Nat.zero_add, cell_of_row _ _ j (bs.map bv).toArray t fr (heap_alloc_new w _)]
    simp [hu]⟩⟩
theorem st_len (s : W8) (rest : List UInt8) (n : Nat) (h : rest.length = 64) : (stCells s rest n).length = 73 := by simp [stCells, W8.list, h]
theorem st_cnt (s : W8) (rest : List UInt8) (n : Nat) (h : rest.length = 64) : (stCells s rest n)[72]? = some (.int .u64 (n : Int)) := by
  unfold stCells
  rw [List.getElem?_append_right (by simp [W8.list]), List.getElem?_append_right (by simp [W8.list, h])]
  simp [W8.list, h]
theorem st_words {w : World} {g : Nat} {s : W8} {rest : List UInt8} {n : Nat} (h : Bk w g 73 (stCells s rest n)) : w.rangeAt g 0 (s.list.map uv) := fun j v hv => by
  rw [Nat.zero_add, h.cell]
  unfold stCells
  have hj : j < (s.list.map uv).length := (List.getElem?_eq_some_iff.1 hv).1
  rw [List.getElem?_append_left hj, hv]
theorem st_rest {w : World} {g : Nat} {s : W8} {rest : List UInt8} {n : Nat} (h : Bk w g 73 (stCells s rest n)) : w.rangeAt g 8 (rest.map bv) := fun j v hv => by
  rw [h.cell]
  unfold stCells
  have hj : j < (rest.map bv).length := (List.getElem?_eq_some_iff.1 hv).1
  rw [List.getElem?_append_right (by simp [W8.list]), show (8 + j - (s.list.map uv).length) = j from by simp [W8.list], List.getElem?_append_left hj, hv]
theorem st_copy (s : W8) (rest : List UInt8) (n c : Nat) (cs : List UInt8) (h : rest.length = 64) (hc : c + cs.length ≤ 64) :
    (stCells s rest n).take (8 + c) ++ (cs.map bv ++ (stCells s rest n).drop (8 + c + (cs.map bv).length)) = stCells s (rest.take c ++ (cs ++ rest.drop (c + cs.length))) n := by
  have h8 : (s.list.map uv).length = 8 := by simp [W8.list]
  unfold stCells
  rw [List.take_append, List.drop_append, h8, List.take_of_length_le (by omega), List.drop_of_length_le (by omega), show 8 + c - 8 = c from by omega, show 8 + c + (cs.map bv).length - 8 = c + cs.length from by simp; omega,
    List.take_append_of_le_length (by simp; omega), List.drop_append_of_le_length (by simp; omega)]
  simp
theorem st_count (s : W8) (rest : List UInt8) (n m : Nat) (h : rest.length = 64) : (stCells s rest n).set 72 (.int .u64 (m : Int)) = stCells s rest m := by
  unfold stCells
  rw [List.set_append_right _ _ (by simp [W8.list]), List.set_append_right _ _ (by simp [W8.list, h])]
  simp [W8.list, h]

theorem Bk.setCells8 {w : World} {g : Nat} {s s' : W8} {rest : List UInt8} {n : Nat} (h : Bk w g 73 (stCells s rest n)) :
    Bk (w.setCells g 0 (s'.list.map uv)) g 73 (stCells s' rest n) :=
  (((((((h.set_ 0 (uv s'.a)).set_ 1 (uv s'.b)).set_ 2 (uv s'.c)).set_ 3 (uv s'.d)).set_ 4 (uv s'.e)).set_ 5 (uv s'.f)).set_ 6 (uv s'.g)).set_ 7 (uv s'.h)
theorem grownSet {w w' : World} {g : Nat} (h : w.grownBy w' (some g)) (i : Nat) (v : Value) : w.grownBy (w'.setCell ⟨g, i, none⟩ v) (some g) :=
  ⟨h.os, h.tape, h.output, by simpa using h.size, fun k hk hne => (Below.heap_setCell w' ⟨g, i, none⟩ v k (by simpa using hne)).trans (h.block k hk hne)⟩
theorem grownSetCells {w : World} {g : Nat} : ∀ (vs : List Value) (o : Nat) (w' : World), w.grownBy w' (some g) → w.grownBy (w'.setCells g o vs) (some g)
  | [], _, _, h => h
  | v :: r, o, w', h => grownSetCells r (o + 1) _ (grownSet h o v)
theorem grownRow {w w' : World} {g : Nat} (h : w.grownBy w' (some g)) (cs : Array Value) : w.grownBy (w'.setRow g cs) (some g) :=
  ⟨h.os, h.tape, h.output, by simpa using h.size, fun k hk hne => (setRow_other w' g k cs (by simpa using hne)).trans (h.block k hk hne)⟩
theorem grownDrew {w w' : World} {g : Nat} (h : w.grownBy w' (some g)) : w.grownBy w'.drew (some g) := ⟨h.os, h.tape, h.output, h.size, h.block⟩
theorem grownBelow {w w1 w2 : World} {g : Nat} (h : w.grownBy w1 (some g)) (hb : Below w1.heap.size w1 w2) : w.grownBy w2 (some g) :=
  ⟨hb.os.trans h.os, hb.tape.trans h.tape, hb.output.trans h.output, Nat.le_trans h.size hb.size, fun k hk hne => (hb.block k (Nat.lt_of_lt_of_le hk h.size)).trans (h.block k hk hne)⟩
theorem Tab.grown {w w' : World} (h : Tab w) {g : Nat} (hg : w.grownBy w' (some g)) (h0 : 0 ≠ g) (h1 : 1 ≠ g) : Tab w' :=
  ⟨fun j v hv => hg.cell (h.1 j v hv) (by simpa using h0), fun j v hv => hg.cell (h.2 j v hv) (by simpa using h1)⟩

/-! ### the steps of bytes that come in -/
/-- q more bytes, that do not pass the block. -/
theorem st_more (bs ch rest : List UInt8) (hq : bs.length % 64 + ch.length ≤ 64) (hr : rest.length = 64) (ht : rest.take (bs.length % 64) = bs.drop (64 * (bs.length / 64))) :
    let rest' := rest.take (bs.length % 64) ++ (ch ++ rest.drop (bs.length % 64 + ch.length))
    rest'.length = 64 ∧ (bs.length % 64 + ch.length < 64 → rest'.take ((bs ++ ch).length % 64) = (bs ++ ch).drop (64 * ((bs ++ ch).length / 64)) ∧ runB ((bs ++ ch).length / 64) firstW (bs ++ ch) = runB (bs.length / 64) firstW bs) ∧
      (bs.length % 64 + ch.length = 64 → (bs ++ ch).length % 64 = 0 ∧ runB ((bs ++ ch).length / 64) firstW (bs ++ ch) = takeB (runB (bs.length / 64) firstW bs) rest' ∧ (bs ++ ch).drop (64 * ((bs ++ ch).length / 64)) = []) := by
  have hlt : (bs.drop (64 * (bs.length / 64))).length = bs.length % 64 := by rw [List.length_drop]; omega
  refine ⟨by simp only [List.length_append, List.length_drop, List.length_take]; omega, fun h => ?_, fun h => ?_⟩
  · have e1 : (bs ++ ch).length % 64 = bs.length % 64 + ch.length := by rw [List.length_append]; omega
    have e2 : (bs ++ ch).length / 64 = bs.length / 64 := by rw [List.length_append]; omega
    rw [e1, e2, runB_app _ _ _ _ (by omega), List.drop_append_of_le_length (by omega), ht]
    refine ⟨?_, rfl⟩
    rw [← List.append_assoc, List.take_append_of_le_length (by simp; omega), List.take_of_length_le (by simp; omega)]
  · have e1 : (bs ++ ch).length % 64 = 0 := by rw [List.length_append]; omega
    have e2 : (bs ++ ch).length / 64 = bs.length / 64 + 1 := by rw [List.length_append]; omega
    have e3 : rest.drop (bs.length % 64 + ch.length) = [] := List.drop_of_length_le (by omega)
    refine ⟨e1, ?_, List.drop_of_length_le (by rw [List.length_append] at *; omega)⟩
    rw [e2, runB_snoc, runB_app _ _ _ _ (by omega), e3, List.append_nil, ht, List.drop_append_of_le_length (by omega), List.take_of_length_le (by rw [List.length_append]; omega)]
end Go.Proofs.YtgkfebbifgkkeaaDoor
