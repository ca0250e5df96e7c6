/- Layer 2 (sha): own rows of bytes beside a state. -/
import Derived.Test.YtgkfebbifgkkeaaDoorShaH
import Derived.Test.YtgkfebbifgkkeaaDoorOw
set_option linter.unusedVariables false
set_option linter.unusedSimpArgs false
namespace Go.Proofs.YtgkfebbifgkkeaaDoor
open Go Go.RowKit

theorem Ow.rdg {w : World} {base c n g : Nat} {A : Option Addr} {bs : List UInt8} (h : Ow w base A c n bs) (hg : g < base) : Rdg w g A n bs :=
  ⟨h.len, fun hn => by
    obtain ⟨k, cap, hv, hk, hlt⟩ := World.ownsRow.form h hn
    have hA : A = some ⟨k, 0, none⟩ := by injection hv
    subst hA
    refine ⟨k, 0, rfl, by omega, hlt, fun j u hu => ?_⟩
    have := World.ownsRow.cells h (g := k) rfl j (bv u) (by simp [hu])
    rwa [addPlain] at this⟩
/-- The block of a row that holds something. -/
theorem Ow.block {w : World} {base c n : Nat} {A : Option Addr} {bs : List UInt8} (h : Ow w base A c n bs) (hn : 0 < n) :
    ∃ g cur, A = some ⟨g, 0, none⟩ ∧ base ≤ g ∧ Bk w g 5 cur ∧ n ≤ cur.length ∧ ∀ j, j < n → ∃ x : UInt8, cur[j]? = some (bv x) := by
  have hl := h.len
  rcases h.2 with ⟨_, h0⟩ | ⟨g, cap, cur, hv, hg, hh, hnc, _, hsz, htk⟩
  · omega
  · have hA : A = some ⟨g, 0, none⟩ := by injection hv
    have hcl : cur.toList.length = cap := by rw [Array.length_toList, hsz]; omega
    refine ⟨g, cur.toList, hA, hg, hh, by omega, fun j hj => ⟨bs[j]'(by omega), ?_⟩⟩
    have h1 : (cur.toList.take (n * 1))[j]? = cur.toList[j]? := by rw [List.getElem?_take, if_pos (by omega)]
    rw [← h1, htk, List.getElem?_map, List.getElem?_eq_getElem (by omega)]
    rfl
theorem Ow.grown {w w' : World} {base c n g : Nat} {A : Option Addr} {bs : List UInt8} (h : Ow w base A c n bs) (hg : w.grownBy w' (some g)) (hlt : g < base) : Ow w' base A c n bs := by
  refine World.ownsRow.kept h hg ?_
  rcases h.2 with ⟨hv, _⟩ | ⟨k, cap, cur, hv, hk, _⟩
  · rw [hv]
    exact .inl rfl
  · rw [hv]
    refine .inr ?_
    simp [Value.ownBlock]
    omega
theorem xorB (b : UInt8) (k : Nat) (hk : k < 256) : ∃ c : UInt8, Value.int .u8 (bits .xor .u8 (b.toNat : Int) (k : Int)) = bv c := by
  rw [u8_xor_nat _ _ (u8_lt b) hk]
  refine ⟨UInt8.ofNat (b.toNat ^^^ k), ?_⟩
  have := Nat.xor_lt_two_pow (n := 8) (u8_lt b) hk
  unfold bv
  rw [UInt8.toNat_ofNat_of_lt' (by show _ < 256; omega)]

/-- n bytes, whichever, in a block from B on. -/
def OwnF (W : World) (B : Nat) (A : Option Addr) (n : Nat) : Prop := 0 < n → ∃ g cur, A = some ⟨g, 0, none⟩ ∧ B ≤ g ∧ Bk W g 5 cur ∧ n ≤ cur.length ∧ ∀ j, j < n → ∃ x : UInt8, cur[j]? = some (bv x)
theorem OwnF.of {w : World} {base c n : Nat} {A : Option Addr} {bs : List UInt8} (h : Ow w base A c n bs) : OwnF w base A n := fun hn => h.block hn
theorem grownOf {w w' : World} {row : Option Nat} (hb : Below w.heap.size w w') : w.grownBy w' row := ⟨hb.os, hb.tape, hb.output, hb.size, fun k hk _ => hb.block k hk⟩
theorem grownBelowB {w w1 w2 : World} {g B : Nat} (h : w.grownBy w1 (some g)) (hb : Below B w1 w2) (hB : w.heap.size ≤ B) : w.grownBy w2 (some g) :=
  ⟨hb.os.trans h.os, hb.tape.trans h.tape, hb.output.trans h.output, Nat.le_trans h.size hb.size, fun k hk hne => (hb.block k (by omega)).trans (h.block k hk hne)⟩
theorem St.below {w w' : World} {g B : Nat} {bs : List UInt8} (h : St w g bs) (hb : Below B w w') (hg : g < B) : St w' g bs := by
  obtain ⟨rest, h1, h2, h3⟩ := h
  exact ⟨rest, h1, h2, h3.below hb hg⟩

theorem Rdg.cut1 {w : World} {g n cap : Nat} {A : Option Addr} {cs : List UInt8} (h : Rdg w g A n cs) (q : Nat) (hq : q ≤ n) (hc : n ≤ cap) : Rdg w g (if cap = q then A else A.map (fun x => x.add q)) (n - q) (cs.drop q) := by
  split
  · have h1 := h.1
    rw [List.drop_of_length_le (by omega), show n - q = 0 from by omega]
    exact Rdg.done
  · exact h.cut q hq
theorem Rdg.front {w : World} {g n : Nat} {A : Option Addr} {cs : List UInt8} (h : Rdg w g A n cs) (q : Nat) (hq : q ≤ n) : Rdg w g A q (cs.take q) :=
  ⟨by rw [List.length_take, h.1]; omega, fun hn => by
    obtain ⟨b, o, e, hb, hl, hc⟩ := h.2 (by omega)
    refine ⟨b, o, e, hb, hl, fun j u hu => hc j u ?_⟩
    rw [List.getElem?_take] at hu
    split at hu
    · exact hu
    · cases hu⟩

end Go.Proofs.YtgkfebbifgkkeaaDoor
