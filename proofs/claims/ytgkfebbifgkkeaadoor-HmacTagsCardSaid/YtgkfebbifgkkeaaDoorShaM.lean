/- Layer 2 (sha): the plain mathematics of SHA-256 on bytes; no program. -/
import Derived.Test.YtgkfebbifgkkeaaDoorAid
set_option linter.unusedVariables false
namespace Go.Proofs.YtgkfebbifgkkeaaDoor
open Go Go.RowKit

/-! ### words of 32 bits, as the walk spells them (a plain def: the walk's rules for bits and bounds are kept off) -/
def ui (x : UInt32) : Int := (x.toNat : Int)
def uv (x : UInt32) : Value := .int .u32 (ui x)
theorem u32_lt (x : UInt32) : x.toNat < 4294967296 := UInt32.toNat_lt x
theorem wXor (x y : UInt32) : bits .xor .u32 (ui x) (ui y) = ui (x ^^^ y) := by
  unfold ui
  rw [u32_xor_nat _ _ (u32_lt x) (u32_lt y), UInt32.toNat_xor]
theorem wAnd (x y : UInt32) : bits .and .u32 (ui x) (ui y) = ui (x &&& y) := by
  unfold ui
  rw [u32_and_nat _ _ (u32_lt x) (u32_lt y), UInt32.toNat_and]
theorem wOr (x y : UInt32) : bits .or .u32 (ui x) (ui y) = ui (x ||| y) := by
  unfold ui
  rw [u32_or_nat _ _ (u32_lt x) (u32_lt y), UInt32.toNat_or]
theorem wAdd (x y : UInt32) : IntKind.u32.wrap (ui x + ui y) = ui (x + y) := by
  unfold ui
  rw [IntKind.wrap_u32, UInt32.toNat_add]
  omega
theorem wAdd' (x y : UInt32) : (ui x + ui y) % 4294967296 = ui (x + y) := by
  rw [← wAdd, IntKind.wrap_u32]

theorem ones_xor (x : UInt32) : (4294967295 : Nat) ^^^ x.toNat = (~~~x).toNat := by
  have h : (4294967295 : UInt32) ^^^ x = ~~~x := by
    have : (4294967295 : UInt32) = -1 := by decide
    rw [this, UInt32.neg_one_xor]
  rw [← h, UInt32.toNat_xor]
  rfl
theorem wNot' (x : UInt32) : bits .xor .u32 4294967295 (ui x) = ui (~~~x) := by
  unfold ui
  rw [show (4294967295 : Int) = ((4294967295 : Nat) : Int) from rfl, u32_xor_nat _ _ (by omega) (u32_lt x), ones_xor]
theorem wNot (x : UInt32) : bits .xor .u32 (if IntKind.u32.signed = true then -1 else IntKind.u32.max) (ui x) = ui (~~~x) := wNot' x

/-- Turned right by k bits, 0 < k < 32. -/
def rr (x : UInt32) (k : Nat) : UInt32 := UInt32.ofNat (x.toNat / 2 ^ k ||| x.toNat * 2 ^ (32 - k) % 4294967296)
theorem rr_lt (x : UInt32) (k : Nat) : (x.toNat / 2 ^ k ||| x.toNat * 2 ^ (32 - k) % 4294967296) < 4294967296 := by
  have h1 : x.toNat / 2 ^ k < 2 ^ 32 := Nat.lt_of_le_of_lt (Nat.div_le_self _ _) (u32_lt x)
  have h2 : x.toNat * 2 ^ (32 - k) % 4294967296 < 2 ^ 32 := Nat.mod_lt _ (by decide)
  exact Nat.or_lt_two_pow h1 h2
theorem rr_nat (x : UInt32) (k : Nat) : (rr x k).toNat = (x.toNat / 2 ^ k ||| x.toNat * 2 ^ (32 - k) % 4294967296) := by
  unfold rr
  rw [UInt32.toNat_ofNat_of_lt' (by show _ < 4294967296; exact rr_lt x k)]
/-- Without its lowest k bits. -/
def sr (x : UInt32) (k : Nat) : UInt32 := UInt32.ofNat (x.toNat / 2 ^ k)
theorem sr_nat (x : UInt32) (k : Nat) : (sr x k).toNat = x.toNat / 2 ^ k := by
  unfold sr
  rw [UInt32.toNat_ofNat_of_lt' (by show _ < 4294967296; exact Nat.lt_of_le_of_lt (Nat.div_le_self _ _) (u32_lt x))]
theorem wSr3 (x : UInt32) : ui x / 8 = ui (sr x 3) := by unfold ui; rw [sr_nat]; simp
theorem wSr10 (x : UInt32) : ui x / 1024 = ui (sr x 10) := by unfold ui; rw [sr_nat]; simp

/-! ### a block's words -/
def s0 (x : UInt32) : UInt32 := rr x 7 ^^^ rr x 18 ^^^ sr x 3
def s1 (x : UInt32) : UInt32 := rr x 17 ^^^ rr x 19 ^^^ sr x 10
def word4 (a b c d : UInt8) : UInt32 := UInt32.ofNat (a.toNat * 16777216 + b.toNat * 65536 + c.toNat * 256 + d.toNat)
theorem word4_nat (a b c d : UInt8) : (word4 a b c d).toNat = a.toNat * 16777216 + b.toNat * 65536 + c.toNat * 256 + d.toNat := by
  have ha := u8_lt a
  have hb := u8_lt b
  have hc := u8_lt c
  have hd := u8_lt d
  unfold word4
  rw [UInt32.toNat_ofNat_of_lt' (by show _ < 4294967296; omega)]
/-- The i-th word of a block's bytes. -/
def wordAt (bs : List UInt8) (i : Nat) : UInt32 := word4 (bs.getD (4 * i) 0) (bs.getD (4 * i + 1) 0) (bs.getD (4 * i + 2) 0) (bs.getD (4 * i + 3) 0)
def ws16 (bs : List UInt8) : Nat → List UInt32
  | 0 => []
  | i + 1 => ws16 bs i ++ [wordAt bs i]
def nextW (l : List UInt32) (i : Nat) : UInt32 := l.getD (i - 16) 0 + s0 (l.getD (i - 15) 0) + l.getD (i - 7) 0 + s1 (l.getD (i - 2) 0)
def wsF (bs : List UInt8) : Nat → List UInt32
  | 0 => ws16 bs 16
  | k + 1 => wsF bs k ++ [nextW (wsF bs k) (16 + k)]
theorem ws16_len (bs : List UInt8) : ∀ i, (ws16 bs i).length = i
  | 0 => rfl
  | i + 1 => by simp [ws16, ws16_len bs i]
theorem wsF_len (bs : List UInt8) : ∀ k, (wsF bs k).length = 16 + k
  | 0 => by simp [wsF, ws16_len]
  | k + 1 => by simp [wsF, wsF_len bs k]; omega
def spreadL (bs : List UInt8) : List UInt32 := wsF bs 48
theorem spreadL_len (bs : List UInt8) : (spreadL bs).length = 64 := wsF_len bs 48

/-! ### the steps -/
structure W8 where
  a : UInt32
  b : UInt32
  c : UInt32
  d : UInt32
  e : UInt32
  f : UInt32
  g : UInt32
  h : UInt32
def W8.list (s : W8) : List UInt32 := [s.a, s.b, s.c, s.d, s.e, s.f, s.g, s.h]
def t1F (s : W8) (k w : UInt32) : UInt32 := s.h + (rr s.e 6 ^^^ rr s.e 11 ^^^ rr s.e 25) + ((s.e &&& s.f) ^^^ (~~~s.e &&& s.g)) + k + w
def t2F (s : W8) : UInt32 := (rr s.a 2 ^^^ rr s.a 13 ^^^ rr s.a 22) + ((s.a &&& s.b) ^^^ (s.a &&& s.c) ^^^ (s.b &&& s.c))
def rnd (s : W8) (k w : UInt32) : W8 := ⟨t1F s k w + t2F s, s.a, s.b, s.c, s.d + t1F s k w, s.e, s.f, s.g⟩
def kNum : List Nat := [1116352408, 1899447441, 3049323471, 3921009573, 961987163, 1508970993, 2453635748, 2870763221, 3624381080, 310598401, 607225278, 1426881987, 1925078388, 2162078206, 2614888103, 3248222580, 3835390401, 4022224774, 264347078, 604807628, 770255983, 1249150122, 1555081692, 1996064986, 2554220882, 2821834349, 2952996808, 3210313671, 3336571891, 3584528711, 113926993, 338241895, 666307205, 773529912, 1294757372, 1396182291, 1695183700, 1986661051, 2177026350, 2456956037, 2730485921, 2820302411, 3259730800, 3345764771, 3516065817, 3600352804, 4094571909, 275423344, 430227734, 506948616, 659060556, 883997877, 958139571, 1322822218, 1537002063, 1747873779, 1955562222, 2024104815, 2227730452, 2361852424, 2428436474, 2756734187, 3204031479, 3329325298]
def kL : List UInt32 := kNum.map UInt32.ofNat
theorem kL_len : kL.length = 64 := rfl
def rnds (ws : List UInt32) (s : W8) : Nat → W8
  | 0 => s
  | i + 1 => rnd (rnds ws s i) (kL.getD i 0) (ws.getD i 0)
def W8.plus (s t : W8) : W8 := ⟨s.a + t.a, s.b + t.b, s.c + t.c, s.d + t.d, s.e + t.e, s.f + t.f, s.g + t.g, s.h + t.h⟩
/-- A block taken into words. -/
def takeB (s : W8) (bs : List UInt8) : W8 := s.plus (rnds (spreadL bs) s 64)
def firstW : W8 := ⟨1779033703, 3144134277, 1013904242, 2773480762, 1359893119, 2600822924, 528734635, 1541459225⟩

/-! ### whole blocks, one behind the other -/
def runB : Nat → W8 → List UInt8 → W8
  | 0, s, _ => s
  | n + 1, s, bs => runB n (takeB s (bs.take 64)) (bs.drop 64)
theorem runB_snoc : ∀ (n : Nat) (s : W8) (bs : List UInt8), runB (n + 1) s bs = takeB (runB n s bs) ((bs.drop (64 * n)).take 64)
  | 0, s, bs => by simp [runB]
  | n + 1, s, bs => by
    rw [runB, runB_snoc n, runB, List.drop_drop]
    congr 3
    omega
/-- More bytes behind whole blocks say nothing of these. -/
theorem runB_app : ∀ (n : Nat) (s : W8) (bs cs : List UInt8), 64 * n ≤ bs.length → runB n s (bs ++ cs) = runB n s bs
  | 0, _, _, _, _ => rfl
  | n + 1, s, bs, cs, h => by
    rw [runB, runB, List.take_append_of_le_length (by omega), List.drop_append_of_le_length (by omega), runB_app n _ _ _ (by rw [List.length_drop]; omega)]

/-! ### padding -/
def be8 (n : Nat) : List UInt8 := [UInt8.ofNat (n / 2 ^ 56), UInt8.ofNat (n / 2 ^ 48), UInt8.ofNat (n / 2 ^ 40), UInt8.ofNat (n / 2 ^ 32), UInt8.ofNat (n / 2 ^ 24), UInt8.ofNat (n / 2 ^ 16), UInt8.ofNat (n / 2 ^ 8), UInt8.ofNat n]
/-- How many bytes 00 stand behind the byte 80. -/
def noughts (n : Nat) : Nat := (119 - n % 64) % 64
def tailP (n : Nat) : List UInt8 := 128 :: List.replicate (noughts n) 0 ++ be8 (8 * n)
theorem tailP_len (n : Nat) : (tailP n).length = noughts n + 9 := by simp [tailP, be8]
theorem tail_whole (n : Nat) : (n + (tailP n).length) % 64 = 0 := by
  rw [tailP_len]
  unfold noughts
  omega
/-! ### the sum -/
def be4 (x : UInt32) : List UInt8 := [UInt8.ofNat (x.toNat / 16777216), UInt8.ofNat (x.toNat / 65536), UInt8.ofNat (x.toNat / 256), UInt8.ofNat x.toNat]
def tagL (s : W8) : List UInt8 := be4 s.a ++ be4 s.b ++ be4 s.c ++ be4 s.d ++ be4 s.e ++ be4 s.f ++ be4 s.g ++ be4 s.h
theorem tagL_len (s : W8) : (tagL s).length = 32 := rfl
def shaL (bs : List UInt8) : List UInt8 := tagL (runB ((bs.length + (tailP bs.length).length) / 64) firstW (bs ++ tailP bs.length))
theorem shaL_len (bs : List UInt8) : (shaL bs).length = 32 := rfl
end Go.Proofs.YtgkfebbifgkkeaaDoor
