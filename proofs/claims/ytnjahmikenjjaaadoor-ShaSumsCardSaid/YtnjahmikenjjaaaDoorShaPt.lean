/- ShaParts: in whatever parts bytes are written, with the sum asked between, it is that of all: the walks. -/
import Derived.Test.YtnjahmikenjjaaaDoorShaV
import Derived.Test.YtnjahmikenjjaaaDoorShaL
import Derived.Test.YtnjahmikenjjaaaDoorOw
set_option linter.unusedVariables false
set_option linter.unusedSimpArgs false
namespace Go.Proofs.YtnjahmikenjjaaaDoor
open Go Go.RowKit

theorem Ow.rdg {w : World} {base c n g : Nat} {A : Option Addr} {bs : List UInt8} (h : Ow w base A c n bs) (hg : g < base) : Rdg w g A n bs :=
  ⟨h.len, fun hn => by
    obtain ⟨k, cap, hv, hk, hlt⟩ := World.ownsRow.form h hn
    have hA : A = some ⟨k, 0, none⟩ := by injection hv
    subst hA
    refine ⟨k, 0, rfl, by omega, hlt, fun j u hu => ?_⟩
    have := World.ownsRow.cells h (g := k) rfl j (bv u) (by simp [hu])
    rwa [addPlain] at this⟩
/-- The block of a row that holds something. -/
theorem Ow.block {w : World} {base c n : Nat} {A : Option Addr} {bs : List UInt8} (h : Ow w base A c n bs) (hn : 0 < n) :
    ∃ g cur, A = some ⟨g, 0, none⟩ ∧ base ≤ g ∧ Bk w g 5 cur ∧ n ≤ cur.length ∧ ∀ j, j < n → ∃ x : UInt8, cur[j]? = some (bv x) := by
  have hl := h.len
  rcases h.2 with ⟨_, h0⟩ | ⟨g, cap, cur, hv, hg, hh, hnc, _, hsz, htk⟩
  · omega
  · have hA : A = some ⟨g, 0, none⟩ := by injection hv
    have hcl : cur.toList.length = cap := by rw [Array.length_toList, hsz]; omega
    refine ⟨g, cur.toList, hA, hg, hh, by omega, fun j hj => ⟨bs[j]'(by omega), ?_⟩⟩
    have h1 : (cur.toList.take (n * 1))[j]? = cur.toList[j]? := by rw [List.getElem?_take, if_pos (by omega)]
    rw [← h1, htk, List.getElem?_map, List.getElem?_eq_getElem (by omega)]
    rfl
theorem Ow.grown {w w' : World} {base c n g : Nat} {A : Option Addr} {bs : List UInt8} (h : Ow w base A c n bs) (hg : w.grownBy w' (some g)) (hlt : g < base) : Ow w' base A c n bs := by
  refine World.ownsRow.kept h hg ?_
  rcases h.2 with ⟨hv, _⟩ | ⟨k, cap, cur, hv, hk, _⟩
  · rw [hv]
    exact .inl rfl
  · rw [hv]
    refine .inr ?_
    simp [Value.ownBlock]
    omega
theorem xorB (b : UInt8) (k : Nat) (hk : k < 256) : ∃ c : UInt8, Value.int .u8 (bits .xor .u8 (b.toNat : Int) (k : Int)) = bv c := by
  rw [u8_xor_nat _ _ (u8_lt b) hk]
  refine ⟨UInt8.ofNat (b.toNat ^^^ k), ?_⟩
  have := Nat.xor_lt_two_pow (n := 8) (u8_lt b) hk
  unfold bv
  rw [UInt8.toNat_ofNat_of_lt' (by show _ < 256; omega)]

/-- n bytes, whichever, in a block from B on. -/
def OwnF (W : World) (B : Nat) (A : Option Addr) (n : Nat) : Prop := 0 < n → ∃ g cur, A = some ⟨g, 0, none⟩ ∧ B ≤ g ∧ Bk W g 5 cur ∧ n ≤ cur.length ∧ ∀ j, j < n → ∃ x : UInt8, cur[j]? = some (bv x)
theorem OwnF.of {w : World} {base c n : Nat} {A : Option Addr} {bs : List UInt8} (h : Ow w base A c n bs) : OwnF w base A n := fun hn => h.block hn
theorem grownOf {w w' : World} {row : Option Nat} (hb : Below w.heap.size w w') : w.grownBy w' row := ⟨hb.os, hb.tape, hb.output, hb.size, fun k hk _ => hb.block k hk⟩
theorem grownBelowB {w w1 w2 : World} {g B : Nat} (h : w.grownBy w1 (some g)) (hb : Below B w1 w2) (hB : w.heap.size ≤ B) : w.grownBy w2 (some g) :=
  ⟨hb.os.trans h.os, hb.tape.trans h.tape, hb.output.trans h.output, Nat.le_trans h.size hb.size, fun k hk hne => (hb.block k (by omega)).trans (h.block k hk hne)⟩
theorem St.below {w w' : World} {g B : Nat} {bs : List UInt8} (h : St w g bs) (hb : Below B w w') (hg : g < B) : St w' g bs := by
  obtain ⟨rest, h1, h2, h3⟩ := h
  exact ⟨rest, h1, h2, h3.below hb hg⟩

theorem Rdg.cut1 {w : World} {g n cap : Nat} {A : Option Addr} {cs : List UInt8} (h : Rdg w g A n cs) (q : Nat) (hq : q ≤ n) (hc : n ≤ cap) : Rdg w g (if cap = q then A else A.map (fun x => x.add q)) (n - q) (cs.drop q) := by
  split
  · have h1 := h.1
    rw [List.drop_of_length_le (by omega), show n - q = 0 from by omega]
    exact Rdg.done
  · exact h.cut q hq
theorem Rdg.front {w : World} {g n : Nat} {A : Option Addr} {cs : List UInt8} (h : Rdg w g A n cs) (q : Nat) (hq : q ≤ n) : Rdg w g A q (cs.take q) :=
  ⟨by rw [List.length_take, h.1]; omega, fun hn => by
    obtain ⟨b, o, e, hb, hl, hc⟩ := h.2 (by omega)
    refine ⟨b, o, e, hb, hl, fun j u hu => hc j u ?_⟩
    rw [List.getElem?_take] at hu
    split at hu
    · exact hu
    · cases hu⟩

namespace shaParts
set_option maxRecDepth 100000 in
set_option maxHeartbeats 1000000 in
theorem walkVast (A A1 : Option Addr) (n c n1 c1 : Nat) (R : List RowA) (sl : List (List UInt8)) (w : World) (ht : Tab w) (hr : Rws w w.heap.size A n R sl) (hb : ∀ l ∈ sl, l.length ≤ 140737488351232) (hv : 200 < n ∨ 16384 < sl.flatten.length) :
    Calls Tryd.prog 4 #[.slice A n c, .slice A1 n1 c1] w fun e w' => e = .returned (.bool true) ∧ Below w.heap.size w w' := by
  have hvast : Calls Tryd.prog 7 #[.slice A n c] w fun e w' => e = .returned (.bool true) ∧ w = w' := by
    by_cases h : 200 < n
    · exact vast_long A n c w h
    · exact vast_any A n c R sl w hr hb (by omega) true (decide_eq_true (by omega))
  have HV := Lib.hid hvast
  clear hvast hv
  go_enter Tryd.func4, Tryd.ntmps4
  go_wp2_with (first
    | (go_at_call 7; refine HV.out.mono ?_; rintro e w1 ⟨rfl, rfl⟩)
    | (go_at_call 8; refine (works_any _ ht).mono ?_; rintro e w2 ⟨rfl, hb2⟩))
  go_ret
  exact ⟨rfl, hb2⟩

set_option maxRecDepth 100000 in
set_option maxHeartbeats 1000000 in
theorem walkMany (A A1 : Option Addr) (n c n1 c1 : Nat) (R : List RowA) (sl : List (List UInt8)) (w : World) (ht : Tab w) (hr : Rws w w.heap.size A n R sl) (hb : ∀ l ∈ sl, l.length ≤ 140737488351232) (hn : n ≤ 200) (hv : sl.flatten.length ≤ 16384) (h1 : 200 < n1) :
    Calls Tryd.prog 4 #[.slice A n c, .slice A1 n1 c1] w fun e w' => e = .returned (.bool true) ∧ Below w.heap.size w w' := by
  have hd : decide ((200 : Int) < (n1 : Int)) = true := by simp; omega
  have HV := Lib.hid (vast_any A n c R sl w hr hb hn false (decide_eq_false (by omega)))
  go_enter Tryd.func4, Tryd.ntmps4
  go_wp2_with (first
    | (go_at_call 7; refine HV.out.mono ?_; rintro e w1 ⟨rfl, rfl⟩)
    | (go_at_call 8; refine (works_any _ ht).mono ?_; rintro e w2 ⟨rfl, hb2⟩))
  go_ret
  exact ⟨rfl, hb2⟩

set_option maxRecDepth 100000 in
set_option maxHeartbeats 2000000 in
theorem walk (A A1 : Option Addr) (n c n1 c1 : Nat) (R : List RowA) (sl : List (List UInt8)) (ks : List Nat) (w : World) (ht : Tab w) (hr : Rws w w.heap.size A n R sl) (hb : ∀ l ∈ sl, l.length ≤ 140737488351232)
    (hr1 : Rd w w.heap.size 1 A1 n1 (ks.map fun k : Nat => Value.int .u16 (k : Int))) (hk : ∀ k ∈ ks, k < 65536) (hn : n ≤ 200) (hv : sl.flatten.length ≤ 16384) (h1 : n1 ≤ 200) :
    Calls Tryd.prog 4 #[.slice A n c, .slice A1 n1 c1] w fun e w' => e = .returned (.bool true) ∧ Below w.heap.size w w' := by
  have hd : decide ((200 : Int) < (n1 : Int)) = false := by simp; omega
  have HV := Lib.hid (vast_any A n c R sl w hr hb hn false (decide_eq_false (by omega)))
  have HR := Lib.hid hr
  have HR1 := Lib.hid hr1
  have HK := Lib.hid hk
  have HT := Lib.hid ht
  have hlt := ht.lt
  have hlt0 := ht.lt0
  have HSL := Lib.hid hr.lenS
  have eqA := eqTag
  clear hr hr1 hk ht hb
  go_enter Tryd.func4, Tryd.ntmps4
  go_wp2_with (go_at_call 7; refine HV.out.mono ?_; rintro e w1 ⟨rfl, rfl⟩)
  refine (new_any w HT.out).mono ?_
  rintro e w1 ⟨rfl, hs1, hb1, hz1⟩
  go_wp2_with fail
  refine (sumM_any w.heap.size [] w1 hs1 (by simp) (HT.out.below hb1)).mono ?_
  rintro e w2 ⟨rfl, hb2⟩
  have hs2 := hs1.later hb2
  have hb2' := hb1.trans (hb2.mono hb1.size)
  have hz2 : w.heap.size + 1 ≤ w2.heap.size := by have := hb2.size; omega
  clear hs1 hb1 hb2 hz1
  go_wp2_with fail
  refine (sum_any none 0 0 [] [] w2 Rws.zero (by simp) (by omega) (HT.out.below hb2')).mono ?_
  rintro e w3 ⟨rfl, hb3⟩
  rw [List.flatten_nil]
  have hs3 := hs2.later hb3
  have hb3' := hb2'.trans (hb3.mono hb2'.size)
  have hz3 : w.heap.size + 1 ≤ w3.heap.size := by have := hb3.size; omega
  clear hs2 hb2' hb3 hz2
  go_wp2
  go_loopw [6, 7] (fun q p wr => ∃ (i m : Nat) (Aa : Option Addr) (ca : Nat), i ≤ n ∧ p = .int .i64 (i : Int) ∧ q = .slice Aa m ca ∧ Ow wr (w.heap.size + 1) Aa ca m (sl.take i).flatten ∧ St wr w.heap.size (sl.take i).flatten ∧ w.heap.size + 1 ≤ wr.heap.size ∧ Below w.heap.size w wr)
    (fun _ p _ => n - (intOf p).toNat)
  case atStart => exact ⟨0, 0, none, 0, by omega, rfl, rfl, owNil _ _, hs3, hz3, hb3'⟩
  case round =>
    clear hs3 hz3 hb3'
    obtain ⟨i, m, Aa, ca, hi, rfl, rfl, ho, hs, hz, hbw⟩ := hrel
    have hm := ho.len
    by_cases hlt : i < n
    · have hci : (i : Int) < (n : Int) := by omega
      obtain ⟨b, o, Ai, ni, ci, l, hA, hbb, hcw, hl, hriw, hnc⟩ := HR.out.at_ hlt
      subst hA
      have HCW := Lib.hid hcw
      have HRW := Lib.hid hriw
      have hc := (hbw.cell (p := ⟨b, o + i, none⟩) hbb).trans hcw
      have hri := hriw.below hbw
      clear hcw hriw
      have hll : l.length = ni := by simpa using hri.len1
      have hfl := flat_step sl i l hl
      have hle := flat_le sl (i + 1)
      rw [hfl, List.length_append] at hle
      have HFL := Lib.hid hfl
      have HLL := Lib.hid hll
      have HM := Lib.hid hm
      have hni : ni ≤ 16384 := by omega
      have hmni : m + ni ≤ 16384 := by omega
      clear hl hfl hll hle hm
      have hbl : b < wr.heap.size := by omega
      have hcn : (wr.alloc (.cells #[] 5)).cell? ⟨b, o + i, none⟩ = some (.slice Ai ni ci) := by
        rw [((Below.refl wr.heap.size wr).alloc (Nat.le_refl _) _).cell hbl]
        exact hc
      go_wp2_with ((at_builtin; refine app8 _ rfl (.tmp 37) (.tmp 41) rfl wr.heap.size _ _ 0 [] rfl (owLit0 wr _ (Nat.le_refl _)) w.heap.size Ai ni ci l rfl (hri.below ((Below.refl _ _).alloc (by omega) _)) (by omega) (by simp) ?_; intro A4 c4 w4 ho4 hb4 _))
      rw [Nat.zero_add, List.nil_append] at ho4
      have hbw4 : Below wr.heap.size wr w4 := ((Below.refl _ _).alloc (Nat.le_refl _) _).trans hb4
      clear hb4 hcn hc hbl
      have hs4 := hs.later hbw4
      have hb4' := hbw.trans (hbw4.mono hbw.size)
      refine (write_any w.heap.size _ A4 ni c4 l _ hs4 (ho4.rdg (by omega)) ho4.le (by have := HM.out; omega) (HT.out.below hb4') (by omega) (by omega)).mono ?_
      rintro e w5 ⟨rfl, hs5, hg5⟩
      have hgw5 : wr.grownBy w5 (some w.heap.size) := (grownOf hbw4).trans hg5
      have hF5 := OwnF.of (ho4.grown hg5 (by omega))
      have hb5 := hb4'.grown hg5 hb4'.size (fun k hk => by cases hk; omega)
      clear hbw4 hs4 hb4' hg5 ho4
      rw [← HFL.out] at hs5
      have HS5 := Lib.hid hs5
      have HGW := Lib.hid hgw5
      have HO := Lib.hid ho
      have HRI := Lib.hid hri
      have HBW := Lib.hid hbw
      have HHS := Lib.hid hs
      clear hs5 hgw5 ho hri hs
      go_wp2
      obtain ⟨wo, hwo⟩ : ∃ wo : World, wo = wr := ⟨_, rfl⟩
      rw [← hwo] at HGW HO HRI HBW HHS hF5 hz hbw
      clear hwo
      go_loopw [9] (fun p wr => ∃ k : Nat, k ≤ ni ∧ p = .int .i64 (k : Int) ∧ OwnF wr wo.heap.size A4 ni ∧ Below wo.heap.size w5 wr) (fun p _ => ni - (intOf p).toNat)
      case atStart => exact ⟨0, by omega, rfl, hF5, Below.refl _ _⟩
      case round =>
        clear hF5
        obtain ⟨k, hk, rfl, hF, hbk⟩ := hrel
        by_cases hlk : k < ni
        · obtain ⟨g, cur, rfl, hg, hbg, hcl, hx⟩ := hF (by omega)
          obtain ⟨x, hxk⟩ := hx k hlk
          have cx : wr.cell? ⟨g, k, none⟩ = some (.int .u8 (x.toNat : Int)) := by rw [hbg.cell, hxk]; rfl
          have fx := hbg.frozen k
          have hck : (k : Int) < (ni : Int) := by omega
          obtain ⟨y, hy⟩ := xorB x 90 (by omega)
          rw [show ((90 : Nat) : Int) = 90 from rfl] at hy
          have HY := Lib.hid hy
          have HX := Lib.hid hx
          clear hx hxk hy
          have HF2 : Hid (OwnF (wr.setCell ⟨g, k, none⟩ (Value.int .u8 (bits .xor .u8 (x.toNat : Int) 90))) wo.heap.size (some ⟨g, 0, none⟩) ni) := by
            show OwnF _ _ _ _
            rw [HY.out]
            refine fun _ => ⟨g, cur.set k (bv y), rfl, hg, hbg.set_ k (bv y), by simpa using hcl, fun j hj => ?_⟩
            obtain ⟨z, hz⟩ := HX.out j hj
            rw [List.getElem?_set]
            by_cases hkj : k = j
            · rw [if_pos hkj, if_pos (by omega)]
              exact ⟨y, rfl⟩
            · rw [if_neg hkj]
              exact ⟨z, hz⟩
          have HB2 := Lib.hid (hbk.setCell (p := ⟨g, k, none⟩) hg (Value.int .u8 (bits .xor .u8 (x.toNat : Int) 90)))
          clear hbg hbk
          go_wp2
          go_roundw
          case rel => exact ⟨k + 1, by omega, by go_num, HF2.out, HB2.out⟩
          case measure => simp [intOf]; omega
        · obtain rfl : k = ni := by omega
          clear hlk hk hF
          have hz' : w.heap.size < wo.heap.size := by omega
          have hbw2 := hb5.trans (hbk.mono HBW.out.size)
          have hgw2 := grownBelowB HGW.out hbk (Nat.le_refl _)
          have ho2 := HO.out.grown hgw2 (by omega)
          have hs2 := HS5.out.below hbk hz'
          have hri2 := HRW.out.below hbw2
          have hc2 := (hbw2.cell (p := ⟨b, o + i, none⟩) hbb).trans HCW.out
          have hsz2 : w.heap.size + 1 ≤ wr.heap.size := by have := hgw2.size; omega
          clear hgw2 hbk
          go_wp2_with (at_builtin; refine app8 _ rfl (.tmp 61) (.tmp 65) rfl (w.heap.size + 1) Aa ca m _ rfl ho2 w.heap.size Ai k ci l rfl hri2 (by omega) hsz2 ?_; intro A6 c6 w6 ho6 hb6 _)
          rw [← HFL.out] at ho6
          have hs6 := hs2.below hb6 (by omega)
          have hbw6 := hbw2.trans (hb6.mono (by omega))
          have hsz6 := hb6.size
          have hle2 := flat_le sl (i + 1)
          clear ho2 hs2 hri2 hc2 hb6 hbw2 hbw
          obtain ⟨all, HALL⟩ : ∃ all, Hid (all = (sl.take (i + 1)).flatten) := ⟨_, rfl⟩
          rw [← HALL.out] at ho6 hs6 hle2
          have hal := ho6.len
          have HAL := Lib.hid hal
          clear hal
          refine (sumM_any w.heap.size all w6 hs6 (by omega) (HT.out.below hbw6)).mono ?_
          rintro e w7 ⟨rfl, hb7⟩
          have hs7 := hs6.later hb7
          have ho7 := ho6.below hb7 (Nat.le_refl _)
          have hbw7 := hbw6.trans (hb7.mono hbw6.size)
          have hsz7 : w.heap.size + 1 ≤ w7.heap.size := by have := hb7.size; omega
          clear hs6 ho6 hbw6 hb7 hsz6
          go_wp2_with fail
          refine (sum_any _ 1 1 _ [all] _ (Rws.lit1 30 ho7.rd ho7.le) (by simp; omega) (by omega) ((HT.out.below hbw7).below ((Below.refl _ _).alloc (Nat.le_refl _) _))).mono ?_
          rintro e w8 ⟨rfl, hb8⟩
          rw [show [all].flatten = all from by simp]
          have hb78 : Below w7.heap.size w7 w8 := ((Below.refl _ _).alloc (Nat.le_refl _) _).trans (hb8.mono (by simp))
          have hs8 := hs7.later hb78
          have ho8 := ho7.below hb78 (Nat.le_refl _)
          have hbw8 := hbw7.trans (hb78.mono hbw7.size)
          have hsz8 : w.heap.size + 1 ≤ w8.heap.size := by have := hb78.size; omega
          clear hs7 ho7 hbw7 hb8 hb78 hsz7
          go_wp2
          go_roundw
          case rel => exact ⟨i + 1, m + k, A6, c6, by omega, by go_num, rfl, HALL.out ▸ ho8, HALL.out ▸ hs8, hsz8, hbw8⟩
          case measure => simp [intOf]; omega
    · obtain rfl : i = n := by omega
      rw [List.take_of_length_le (by have := HSL.out; omega)] at ho hs
      clear hlt hi
      generalize sl.flatten = tot at *
      have HM := Lib.hid hm
      have hmt : tot.length = m := ho.len
      have HMT := Lib.hid hmt
      have hrt := ho.rd
      have hmc := ho.le
      have hm16 : m ≤ 16384 := by omega
      clear hm hmt ho
      go_wp2_with fail
      refine (new_any wr (HT.out.below hbw)).mono ?_
      rintro e v1 ⟨rfl, ht1, hv1, hvz⟩
      have hs1 := hs.later hv1
      have hr1 : Rdg v1 wr.heap.size Aa m tot := Rdg.ofRd (hrt.below hv1) (Nat.le_refl _) hv1.size
      have hb1 := hbw.trans (hv1.mono hbw.size)
      have hHT : w.heap.size < wr.heap.size := by omega
      have hT0 : w.heap.size ≤ wr.heap.size := by omega
      clear hs hv1 hvz hrt hbw
      go_wp2
      obtain ⟨wo, hwo⟩ : ∃ wo : World, wo = wr := ⟨_, rfl⟩
      rw [← hwo] at ht1 hr1 hHT hT0 ⊢
      clear hwo hz
      go_loopw [11, 12] (fun q p wr => ∃ (i mr : Nat) (pre suf : List UInt8) (Ar : Option Addr) (cr : Nat), i ≤ n1 ∧ p = .int .i64 (i : Int) ∧ q = .slice Ar mr cr ∧ mr ≤ cr ∧ mr ≤ 16384 ∧ pre.length ≤ 16384 ∧ pre ++ suf = tot ∧ Rdg wr wo.heap.size Ar mr suf ∧ St wr wo.heap.size pre ∧ St wr w.heap.size tot ∧ Below w.heap.size w wr)
        (fun _ p _ => n1 - (intOf p).toNat)
      case atStart => exact ⟨0, m, [], tot, Aa, ca, by omega, rfl, rfl, hmc, hm16, by simp, rfl, hr1, ht1, hs1, hb1⟩
      case round =>
        clear hs1 hr1 ht1 hb1
        obtain ⟨i, mr, pre, suf, Ar, cr, hi, rfl, rfl, hmr, hm6, hpl, heq, hr, htt, hs, hbw⟩ := hrel
        have HEQ := Lib.hid heq
        clear heq
        by_cases hlt : i < n1
        · have hci : (i : Int) < (n1 : Int) := by omega
          obtain ⟨b, o, u, hA, hbb, hu, hcw⟩ := HR1.out.at1 hlt
          subst hA
          have hkl : ks.length = n1 := by simpa using HR1.out.len1
          rw [List.getElem?_map, List.getElem?_eq_getElem (by omega)] at hu
          simp only [Option.map_some, Option.some.injEq] at hu
          subst hu
          have hkv := HK.out _ (List.getElem_mem (show i < ks.length by omega))
          generalize ks[i]'(by omega) = kv at *
          have hc := (hbw.cell (p := ⟨b, o + i, none⟩) hbb).trans hcw
          obtain ⟨kk, hkk⟩ : ∃ kk, kk = kv % (mr + 1) := ⟨_, rfl⟩
          have hk1 : kk ≤ mr := by have := Nat.mod_lt kv (show 0 < mr + 1 by omega); omega
          have etm : (kv : Int).tmod ((mr : Int) + 1) = (kk : Int) := by
            rw [Int.tmod_eq_emod_of_nonneg (by omega), hkk]
            simp
          have etm2 : (kv : Int) % ((mr : Int) + 1) = (kk : Int) := by
            rw [hkk]
            simp
          have hkv0 : 0 ≤ (kv : Int) := by omega
          have hkv1 : (kv : Int) < 65536 := by omega
          have hkc : kk ≤ cr := by omega
          have hkci : (kk : Int) ≤ (cr : Int) := by omega
          have hmr1 : (mr : Int) + 1 ≤ 16385 := by omega
          have hl := hr.1
          have HL := Lib.hid hl
          clear hkk hcw hkl hl
          go_wp2_with fail
          refine (write_any wo.heap.size pre Ar kk cr (suf.take kk) wr htt (hr.front kk hk1) hkc (by omega) (HT.out.below hbw) (by omega) (by omega)).mono ?_
          rintro e w2 ⟨rfl, htt2, hg2⟩
          have hr2 := (hr.cut1 kk hk1 hmr).grown hg2
          have hs2 := hs.grown hg2 (by omega)
          have hbw2 := hbw.grown hg2 hbw.size (fun k hk => by cases hk; omega)
          clear hr hs hbw hg2 htt hc
          have HR2 := Lib.hid hr2
          have HE2 := Lib.hid (show (pre ++ suf.take kk) ++ suf.drop kk = tot by rw [List.append_assoc, List.take_append_drop]; exact HEQ.out)
          clear hr2
          go_wp2
          go_roundw
          case rel =>
            refine ⟨i + 1, mr - kk, pre ++ suf.take kk, suf.drop kk, _, cr - kk, by omega, by go_num, rfl, by omega, by omega, ?_, HE2.out, HR2.out, htt2, hs2, hbw2⟩
            have h1 := congrArg List.length HE2.out
            have h2 := HMT.out
            rw [List.length_append] at h1
            omega
          case measure => simp [intOf]; omega
        · obtain rfl : i = n1 := by omega
          clear hlt hi
          have htl := HMT.out
          go_wp2_with fail
          refine (write_any wo.heap.size pre Ar mr cr suf wr htt hr hmr (by omega) (HT.out.below hbw) (by omega) (by omega)).mono ?_
          rintro e w2 ⟨rfl, htt2, hg2⟩
          rw [HEQ.out] at htt2
          have hs2 := hs.grown hg2 (by omega)
          have hbw2 := hbw.grown hg2 hbw.size (fun k hk => by cases hk; omega)
          clear hr hs hbw hg2 htt
          go_wp2_with fail
          refine (sumM_any wo.heap.size tot w2 htt2 (by omega) (HT.out.below hbw2)).mono ?_
          rintro e w3 ⟨rfl, hb3⟩
          have htt3 := htt2.later hb3
          have hs3 := hs2.later hb3
          have hbw3 := hbw2.trans (hb3.mono hbw2.size)
          clear htt2 hs2 hbw2 hb3
          go_wp2_with fail
          refine (sumM_any w.heap.size tot w3 hs3 (by omega) (HT.out.below hbw3)).mono ?_
          rintro e w4 ⟨rfl, hb4⟩
          have htt4 := htt3.later hb4
          have hs4 := hs3.later hb4
          have hbw4 := hbw3.trans (hb4.mono hbw3.size)
          clear htt3 hs3 hbw3 hb4
          go_wp2_with fail
          refine (sumM_any wo.heap.size tot w4 htt4 (by omega) (HT.out.below hbw4)).mono ?_
          rintro e w5 ⟨rfl, hb5⟩
          have hs5 := hs4.later hb5
          have hbw5 := hbw4.trans (hb5.mono hbw4.size)
          clear htt4 hs4 hbw4 hb5
          go_wp2_with fail
          refine (sumM_any w.heap.size tot w5 hs5 (by omega) (HT.out.below hbw5)).mono ?_
          rintro e w6 ⟨rfl, hb6⟩
          have hbw6 := hbw5.trans (hb6.mono hbw5.size)
          clear hs5 hbw5 hb6
          go_wp2_with (go_at_call 8; refine (works_any _ (HT.out.below hbw6)).mono ?_; rintro e w7 ⟨rfl, hb7⟩)
          go_ret
          exact ⟨rfl, hbw6.trans (hb7.mono hbw6.size)⟩
end shaParts
end Go.Proofs.YtnjahmikenjjaaaDoor
