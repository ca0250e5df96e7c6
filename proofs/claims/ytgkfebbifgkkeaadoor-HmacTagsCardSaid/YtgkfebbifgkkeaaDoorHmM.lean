/- Layer 3 (hmac): the mathematics of a tag. -/
import Derived.Test.YtgkfebbifgkkeaaDoorShaT
set_option linter.unusedVariables false
namespace Go.Proofs.YtgkfebbifgkkeaaDoor
open Go Go.RowKit

def fillB (bs : List UInt8) : List UInt8 := bs ++ List.replicate (64 - bs.length) 0
/-- What stands in the block of a key. -/
def keyS (key : List UInt8) : List UInt8 := if key.length ≤ 64 then key else shaL key
def keyB (key : List UInt8) : List UInt8 := fillB (keyS key)
def xorL (m : UInt8) (l : List UInt8) : List UInt8 := l.map (· ^^^ m)
def hmacL (key msg : List UInt8) : List UInt8 := shaL (xorL 92 (keyB key) ++ shaL (xorL 54 (keyB key) ++ msg))
theorem keyS_le (key : List UInt8) : (keyS key).length ≤ 64 := by
  unfold keyS
  split
  · assumption
  · rw [shaL_len]; omega
theorem fillB_len (bs : List UInt8) (h : bs.length ≤ 64) : (fillB bs).length = 64 := by simp [fillB]; omega
theorem keyB_len (key : List UInt8) : (keyB key).length = 64 := fillB_len _ (keyS_le key)
theorem xorL_len (m : UInt8) (l : List UInt8) : (xorL m l).length = l.length := by simp [xorL]
theorem hmacL_len (key msg : List UInt8) : (hmacL key msg).length = 32 := shaL_len _
theorem keyS_short (key : List UInt8) (h : key.length ≤ 64) : keyS key = key := if_pos h
theorem keyS_long (key : List UInt8) (h : 64 < key.length) : keyS key = shaL key := if_neg (by omega)
theorem keyB_sum (key : List UInt8) (h : 64 < key.length) : keyB (shaL key) = keyB key := by
  unfold keyB
  rw [keyS_long key h, keyS_short _ (by rw [shaL_len]; omega)]
theorem keyB_zeros (key : List UInt8) (k : Nat) (h : key.length + k ≤ 64) : keyB (key ++ List.replicate k 0) = keyB key := by
  unfold keyB
  rw [keyS_short key (by omega), keyS_short _ (by simp; omega)]
  unfold fillB
  rw [List.append_assoc, List.replicate_append_replicate]
  congr 2
  simp
  omega
theorem hmacL_sum (key msg : List UInt8) (h : 64 < key.length) : hmacL (shaL key) msg = hmacL key msg := by
  unfold hmacL
  rw [keyB_sum key h]
theorem hmacL_zeros (key msg : List UInt8) (k : Nat) (h : key.length + k ≤ 64) : hmacL (key ++ List.replicate k 0) msg = hmacL key msg := by
  unfold hmacL
  rw [keyB_zeros key k h]

/-! ### bytes, exclusive or -/
def un (b : UInt8) : Int := (b.toNat : Int)
theorem bvU (b : UInt8) : bv b = .int .u8 (un b) := rfl
theorem xorU (b m : UInt8) : bits .xor .u8 (un b) (un m) = un (b ^^^ m) := by
  unfold un
  rw [u8_xor_nat _ _ (u8_lt b) (u8_lt m), UInt8.toNat_xor]
/-- The first i of them, exclusive or m. -/
def xorT (m : UInt8) (l : List UInt8) (i : Nat) : List UInt8 := xorL m (l.take i) ++ l.drop i
theorem xorT_zero (m : UInt8) (l : List UInt8) : xorT m l 0 = l := by simp [xorT, xorL]
theorem xorT_all (m : UInt8) (l : List UInt8) (n : Nat) (h : l.length = n) : xorT m l n = xorL m l := by
  subst h
  simp [xorT, xorL]
theorem xorT_len (m : UInt8) (l : List UInt8) (i : Nat) : (xorT m l i).length = l.length := by
  simp only [xorT, xorL, List.length_append, List.length_map, List.length_take, List.length_drop]
  omega
theorem xorT_get (m : UInt8) (l : List UInt8) (i : Nat) (x : UInt8) (h : l[i]? = some x) : (xorT m l i)[i]? = some x := by
  have hi : i < l.length := (List.getElem?_eq_some_iff.1 h).1
  unfold xorT
  have h1 : (xorL m (l.take i)).length = i := by rw [xorL_len, List.length_take]; omega
  rw [List.getElem?_append_right (by omega), h1, Nat.sub_self, List.getElem?_drop, Nat.add_zero]
  exact h
theorem xorT_set (m : UInt8) (l : List UInt8) (i : Nat) (x : UInt8) (h : l[i]? = some x) : ((xorT m l i).map bv).set i (bv (x ^^^ m)) = (xorT m l (i + 1)).map bv := by
  have hi : i < l.length := (List.getElem?_eq_some_iff.1 h).1
  have h1 : (xorL m (l.take i)).length = i := by rw [xorL_len, List.length_take]; omega
  have hd : l.drop i = x :: l.drop (i + 1) := by
    rw [List.drop_eq_getElem_cons hi]
    congr 1
    exact (List.getElem?_eq_some_iff.1 h).2
  rw [← List.map_set]
  congr 1
  unfold xorT
  rw [List.set_append_right _ _ (by omega), h1, Nat.sub_self, hd, List.set_cons_zero, List.take_add_one, h]
  simp [xorL]
end Go.Proofs.YtgkfebbifgkkeaaDoor
