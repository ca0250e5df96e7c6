/- Texts, packed: LxC Fp LxD SyA SyB SyG AtA PaA PaM -/
import Derived.Test.YtoigpbajefkpoaaGreatDoorPxA
import Derived.Test.YtoigpbajefkpoaaGreatDoorChecked
import Derived.Orders
import Derived.RegionTactic
set_option linter.unusedVariables false
set_option linter.unusedSimpArgs false
namespace Go.Proofs.YtoigpbajefkpoaaGreatDoor
open Go Go.RowKit

/-- A text of its bytes. -/
theorem sv_tb (s : ByteArray) : sv s = strV (tb s) := by
 cases s
 simp [tb]
theorem sv_part (s : ByteArray) (a n : Nat) : sv (s.extract a (a + n)) = strV (((tb s).drop a).take n) := by
 rw [sv_tb, tb_extract, show a + n - a = n by omega]
/-- A word as it lies in memory. -/
def wdC (x : Wd) : List Value := [.int .u8 (x.1 : Int), strV x.2.1, .int .i64 (x.2.2 : Int)]
theorem wdC_one (l : List Wd) : ∀ u ∈ l.flatMap wdC, u.oneCell' = true := by
 intro u hu
 obtain ⟨x, _, hx⟩ := List.mem_flatMap.1 hu
 simp only [wdC, List.mem_cons, List.not_mem_nil, or_false] at hx
 rcases hx with rfl | rfl | rfl <;> rfl
theorem wdCs_len (l : List Wd) : (l.flatMap wdC).length = l.length * 3 := by
 induction l with
 | nil => rfl
 | cons x l ih => rw [List.flatMap_cons, List.length_append, ih, List.length_cons]; simp [wdC]; omega
theorem wdCs_at {l : List Wd} {i : Nat} {x : Wd} (h : l[i]? = some x) : (l.flatMap wdC)[i * 3]? = some (.int .u8 (x.1 : Int)) ∧ (l.flatMap wdC)[i * 3 + 1]? = some (strV x.2.1) ∧ (l.flatMap wdC)[i * 3 + 2]? = some (.int .i64 (x.2.2 : Int)) := by
 induction l generalizing i with
 | nil => simp at h
 | cons y l ih =>
  rw [List.flatMap_cons]
  cases i with
  | zero =>
   simp only [List.getElem?_cons_zero, Option.some.injEq] at h
   subst h
   exact ⟨rfl, rfl, rfl⟩
  | succ i =>
   rw [List.getElem?_cons_succ] at h
   have := ih h
   refine ⟨?_, ?_, ?_⟩
   ·
    rw [List.getElem?_append_right (by simp [wdC]; omega), show (i + 1) * 3 - (wdC y).length = i * 3 by simp [wdC]; omega]; exact this.1
   ·
    rw [List.getElem?_append_right (by simp [wdC]; omega), show (i + 1) * 3 + 1 - (wdC y).length = i * 3 + 1 by simp [wdC]; omega]; exact this.2.1
   ·
    rw [List.getElem?_append_right (by simp [wdC]; omega), show (i + 1) * 3 + 2 - (wdC y).length = i * 3 + 2 by simp [wdC]; omega]; exact this.2.2
/-- A row of words that is read; one of the call's own. -/
abbrev RdV (w : World) (B : Nat) (A : Option Addr) (n : Nat) (l : List Wd) : Prop := Rd w B 3 A n (l.flatMap wdC)
abbrev OwV (e : TypeId) (w : World) (base : Nat) (A : Option Addr) (c n : Nat) (l : List Wd) : Prop := w.ownsRow base e 3 (.slice A n c) n (l.flatMap wdC)
theorem rdV_len {w : World} {B n : Nat} {A : Option Addr} {l : List Wd} (h : RdV w B A n l) : l.length = n := by
 have := h.1
 rw [wdCs_len] at this
 omega
theorem OwV.rd {e : TypeId} {w : World} {base c n : Nat} {A : Option Addr} {l : List Wd} (h : OwV e w base A c n l) : RdV w w.heap.size A n l := Rd.ofOwn h
theorem OwV.cap {e : TypeId} {w : World} {base c n : Nat} {A : Option Addr} {l : List Wd} (h : OwV e w base A c n l) : n ≤ c := by
 obtain ⟨A1, c1, hv, hl⟩ := ownForm h
 cases hv
 exact hl
theorem rdV_at {w : World} {B n : Nat} {A : Option Addr} {l : List Wd} (h : RdV w B A n l) {i : Nat} (hi : i < n) :
  ∃ b o x, A = some ⟨b, o, none⟩ ∧ b < B ∧ l[i]? = some x ∧ w.cell? ⟨b, o + i * 3, none⟩ = some (.int .u8 (x.1 : Int)) ∧ w.cell? ⟨b, o + i * 3 + 1, none⟩ = some (strV x.2.1) ∧ w.cell? ⟨b, o + i * 3 + 2, none⟩ = some (.int .i64 (x.2.2 : Int)) := by
 obtain ⟨b, o, e, hb, hc⟩ := h.2 (by omega)
 have hl := rdV_len h
 have ht : l[i]? = some (l[i]'(by omega)) := List.getElem?_eq_getElem _
 have h2 := wdCs_at ht
 exact ⟨b, o, _, e, hb, ht, hc _ _ h2.1, hc _ _ h2.2.1, hc _ _ h2.2.2⟩
theorem rWdInfo : (Tryz.prog.info? 127).map (fun i => (i.zero, i.size, i.bytes)) = some (some (.agg #[.int .u8 0, .string ⟨#[]⟩, .int .i64 0]), 3, 32) := by kernel_rfl
/-- 'out = append(out, word)', over the document's words. -/
theorem appRV {ops : Array Oper} {rest : List Oper} {o : Oper} {a : Act} {Q : Exit → Act → World → Prop} (w : World) (hgd : o.guard = none) (p x : Operand)
  (ho : o.op = .call { callee := .builtin .append, args := #[p, x], argTypes := #[78, 78] })
  (base : Nat) (A0 : Option Addr) (c0 n : Nat) (l : List Wd) (hv : a.eval p = .slice A0 n c0) (hown : OwV 127 w base A0 c0 n l)
  (B : Nat) (A : Option Addr) (m c : Nat) (news : List Wd) (hx : a.eval x = .slice A m c) (hr : RdV w B A m news) (hb : n + m ≤ 1000000000) (hbase : base ≤ w.heap.size)
  (h : ∀ A' c' w', OwV 127 w' base A' c' (n + m) (l ++ news) → Below base w w' → wpList Tryz.prog ops Q rest (a.put o.dst (.slice A' (n + m) c')) w') : wpList Tryz.prog ops Q (o :: rest) a w := by
 obtain ⟨i0, hi, hz0, hz1, hz2⟩ := info_parts rWdInfo
 refine wpList_app w hgd p x 78 ho base 127 i0 _ 3 32 Tryz.underlying78 hi hz0 hz1 hz2 rfl (by decide) _ n _ hv hown B A m c _ hx hr (wdC_one news) (by simp only [maxLen]; omega) (by omega) hbase ?_
 intro A' c' w' e1 e2 e3
 exact h A' c' w' (by show World.ownsRow _ _ _ _ _ _ _; rw [List.flatMap_append]; exact e1) (belowApp (Below.refl _ _) hown e2 hbase)
theorem run_litRV (k : Nat) (t : List UInt8) (p : Nat) (w : World) : (Instr.buildSlice 78 1 #[(0, .agg #[.int .u8 (k : Int), strV t, .int .i64 (p : Int)])]).run Tryz.prog w = .ok (.slice (some ⟨w.heap.size, 0, none⟩) 1 1) (w.alloc (.cells #[.int .u8 (k : Int), strV t, .int .i64 (p : Int)] 127)) := by
 obtain ⟨i0, hi, hz0, hz1, hz2⟩ := info_parts rWdInfo
 simp [Instr.buildSlice, run_underlying Tryz.underlying78, sizeOf, typeInfo, zeroValue, hi, hz0, hz1, newRow, Instr.fill]
 kernel_rfl
theorem bk_rdV {w : World} {g : Nat} {t : TypeId} {x : Wd} (hb : Bk w g t (wdC x)) : RdV w (g + 1) (some ⟨g, 0, none⟩) 1 [x] :=
 ⟨rfl, fun _ => ⟨g, 0, rfl, by omega, fun j u hu => by rw [Nat.zero_add, hb.cell]; simpa using hu⟩⟩

set_option maxRecDepth 100000 in
set_option maxHeartbeats 4000000 in
theorem rKind_any (s : ByteArray) (w : World) (hs : 1 ≤ s.size) :
  Calls Tryz.prog 56 #[sv s] w fun e w' => e = .returned (.int .u8 (kindL (tb s) : Int)) ∧ w = w' := by
 have hlen := tb_len s
 by_cases hn : tb s = [110, 111, 116]
 ·
  have hd : (s.toList == [110, 111, 116]) = true := by rw [ByteArray.toList_eq]; rw [show s.data.toList = [110, 111, 116] from hn]; rfl
  have HK := Lib.hid (show kindL (tb s) = 3 by unfold kindL; rw [if_pos hn])
  clear hn
  go_enter Tryz.func56, Tryz.ntmps56
  repeat (first | go_skip | go_guarded | go_step)
  go_ret
  exact ⟨by rw [HK.out]; rfl, rfl⟩
 ·
  have hd : (s.toList == [110, 111, 116]) = false := by rw [ByteArray.toList_eq]; exact beq_false_of_ne hn
  by_cases hn2 : tb s = [115, 97, 121, 115]
  ·
   have hd2 : (s.toList == [115, 97, 121, 115]) = true := by rw [ByteArray.toList_eq]; rw [show s.data.toList = [115, 97, 121, 115] from hn2]; rfl
   have HK := Lib.hid (show kindL (tb s) = 4 by unfold kindL; rw [if_neg hn, if_pos hn2])
   clear hn hn2
   go_enter Tryz.func56, Tryz.ntmps56
   repeat (first | go_skip | go_guarded | go_step)
   go_ret
   exact ⟨by rw [HK.out]; rfl, rfl⟩
  ·
   have hd2 : (s.toList == [115, 97, 121, 115]) = false := by rw [ByteArray.toList_eq]; exact beq_false_of_ne hn2
   have h0 : 0 < s.size := by omega
   obtain ⟨x, hx⟩ : ∃ x, s[0]'h0 = x := ⟨_, rfl⟩
   have ht := tb_at h0
   rw [hx, List.drop_zero] at ht
   have hk : kindL (tb s) = if 65 ≤ x.toNat ∧ x.toNat ≤ 90 then 2 else 1 := by
    unfold kindL
    rw [if_neg hn, if_neg hn2, ht]
    rfl
   have HK := Lib.hid hk
   have hci : (0 : Int) < (s.size : Int) := by omega
   clear hn hn2 ht hk hlen
   by_cases h1 : 65 ≤ x.toNat
   ·
    have d1 : decide ((65 : Int) ≤ (x.toNat : Int)) = true := by simp; omega
    by_cases h2 : x.toNat ≤ 90
    ·
     have d2 : decide ((x.toNat : Int) ≤ 90) = true := by simp; omega
     have HK2 := Lib.hid (show kindL (tb s) = 2 by rw [HK.out, if_pos ⟨h1, h2⟩])
     clear h1 h2
     go_enter Tryz.func56, Tryz.ntmps56
     repeat (first | go_skip | go_guarded | go_step)
     go_ret
     exact ⟨by rw [HK2.out]; rfl, rfl⟩
    ·
     have d2 : decide ((x.toNat : Int) ≤ 90) = false := by simp; omega
     have HK2 := Lib.hid (show kindL (tb s) = 1 by rw [HK.out, if_neg (by omega)])
     clear h1 h2
     go_enter Tryz.func56, Tryz.ntmps56
     repeat (first | go_skip | go_guarded | go_step)
     go_ret
     exact ⟨by rw [HK2.out]; rfl, rfl⟩
   ·
    have d1 : decide ((65 : Int) ≤ (x.toNat : Int)) = false := by simp; omega
    have HK2 := Lib.hid (show kindL (tb s) = 1 by rw [HK.out, if_neg (by omega)])
    clear h1
    go_enter Tryz.func56, Tryz.ntmps56
    repeat (first | go_skip | go_guarded | go_step)
    go_ret
    exact ⟨by rw [HK2.out]; rfl, rfl⟩
end Go.Proofs.YtoigpbajefkpoaaGreatDoor

set_option linter.unusedVariables false
namespace Go.Proofs.YtoigpbajefkpoaaGreatDoor
open Go Go.RowKit

/-- From w to w' only blocks of which G is so have turned, and new ones have come. -/
structure Turn (G : Nat → Prop) (w w' : World) : Prop where
 os : w'.os = w.os
 tape : w'.tape = w.tape
 output : w'.output = w.output
 size : w.heap.size ≤ w'.heap.size
 block : ∀ k, k < w.heap.size → ¬ G k → w'.heap[k]? = w.heap[k]?

theorem belowDrews {B : Nat} {a w : World} (h : Below B a w) (n : Nat) : Below B a (w.drewN n) := ⟨h.os, h.tape, h.output, h.size, h.block⟩
section
variable {G G' : Nat → Prop} {w w' a b c : World}
theorem Turn.refl (G : Nat → Prop) (w : World) : Turn G w w := ⟨rfl, rfl, rfl, Nat.le_refl _, fun _ _ _ => rfl⟩
theorem Turn.then_ (h : Turn G a b) (k : Turn G' b c) (hs : ∀ k, k < a.heap.size → G' k → G k) : Turn G a c :=
 ⟨k.os.trans h.os, k.tape.trans h.tape, k.output.trans h.output, Nat.le_trans h.size k.size, fun i hi hn => (k.block i (Nat.lt_of_lt_of_le hi h.size) fun hg => hn (hs i hi hg)).trans (h.block i hi hn)⟩
theorem Turn.trans (h : Turn G a b) (k : Turn G b c) : Turn G a c := h.then_ k fun _ _ h => h
theorem Turn.mono (h : Turn G w w') (hs : ∀ k, k < w.heap.size → G k → G' k) : Turn G' w w' :=
 ⟨h.os, h.tape, h.output, h.size, fun k hk hn => h.block k hk fun hg => hn (hs k hk hg)⟩
theorem Turn.ofBelow (h : Below w.heap.size w w') : Turn G w w' := ⟨h.os, h.tape, h.output, h.size, fun k hk _ => h.block k hk⟩
theorem Turn.ofBelowB {B : Nat} (h : Below B w w') (hs : ∀ k, B ≤ k → k < w.heap.size → G k) : Turn G w w' :=
 ⟨h.os, h.tape, h.output, h.size, fun k hk hn => h.block k (by
  rcases Nat.lt_or_ge k B with hb | hb
  ·
   exact hb
  ·
   exact absurd (hs k hb hk) hn)⟩
theorem Turn.below {B : Nat} (h : Turn G w w') (hB : ∀ k, k < w.heap.size → G k → B ≤ k) (hle : B ≤ w.heap.size) : Below B w w' :=
 ⟨h.os, h.tape, h.output, h.size, fun k hk => h.block k (by omega) fun hg => by have := hB k (by omega) hg; omega⟩
theorem Turn.ofGrown {row : Option Nat} (h : w.grownBy w' row) (hs : ∀ k, row = some k → G k) : Turn G w w' :=
 ⟨h.os, h.tape, h.output, h.size, fun k hk hn => h.block k hk fun e => hn (hs k e.symm)⟩
theorem Turn.alloc (h : Turn G w w') (o : Obj) : Turn G w (w'.alloc o) :=
 h.then_ (Turn.ofBelow (G := G) ((Below.refl _ _).alloc (Nat.le_refl _) o)) fun _ _ h => h
theorem Turn.setCell (h : Turn G w w') {p : Addr} (hg : p.block < w.heap.size → G p.block) (v : Value) : Turn G w (w'.setCell p v) :=
 ⟨h.os, h.tape, h.output, by simpa using h.size, fun k hk hn => (Below.heap_setCell w' p v k (fun e => hn (by subst e; exact hg hk))).trans (h.block k hk hn)⟩
theorem Turn.drew (h : Turn G w w') : Turn G w w'.drew := ⟨h.os, h.tape, h.output, h.size, h.block⟩
theorem Turn.cell (h : Turn G w w') {p : Addr} (hlt : p.block < w.heap.size) (hn : ¬ G p.block) : w'.cell? p = w.cell? p := World.cell?_of_block (h.block _ hlt hn)
theorem Turn.bk (h : Turn G w w') {g : Nat} {t : TypeId} {cs : List Value} (hb : Bk w g t cs) (hn : ¬ G g) : Bk w' g t cs := (h.block g hb.lt hn).trans hb
theorem Turn.rd (h : Turn G w w') {B s n : Nat} {A : Option Addr} {xs : List Value} (hr : Rd w B s A n xs) (hB : B ≤ w.heap.size) (hn : ∀ k, k < B → ¬ G k) : Rd w' B s A n xs :=
 hr.keep fun p hp => h.cell (by omega) (hn _ hp)
theorem Turn.own (h : Turn G w w') {base s n : Nat} {e : TypeId} {v : Value} {xs : List Value} (ho : w.ownsRow base e s v n xs) (hn : ∀ k, v.ownBlock = some k → ¬ G k) : w'.ownsRow base e s v n xs := by
 refine ⟨ho.1, ?_⟩
 rcases ho.2 with h0 | ⟨g, cap, cur, rfl, hbg, hg, hr⟩
 ·
  exact .inl h0
 ·
  refine .inr ⟨g, cap, cur, rfl, hbg, ?_, hr⟩
  rw [h.block g (Array.getElem?_eq_some_iff.1 hg).1 (hn g rfl)]
  exact hg
end
end Go.Proofs.YtoigpbajefkpoaaGreatDoor

set_option linter.unusedVariables false
set_option linter.unusedSimpArgs false
namespace Go.Proofs.YtoigpbajefkpoaaGreatDoor
open Go Go.RowKit

theorem blN_after (l : List UInt8) : blN false (l.drop (blN false l)) = 0 := by
  by_cases h : l.drop (blN false l) = []
  · rw [h]; rfl
  · exact blN_next false l h
theorem lexG_skip (a : Nat) (l : List UInt8) : lexG a l = lexG (a + blN false l) (l.drop (blN false l)) := by
  have h0 := blN_after l
  have hd : (l.drop (blN false l)).drop (blN false (l.drop (blN false l))) = l.drop (blN false l) := by rw [h0, List.drop_zero]
  by_cases h : l.drop (blN false l) = []
  · rw [lexG_end h, lexG_end (hd.trans h)]
  · obtain ⟨k, n, hw⟩ : ∃ k n, wordN (l.drop (blN false l)) = (k, n) := ⟨_, _, rfl⟩
    by_cases hn : n = 0
    · subst hn
      rw [lexG_bad rfl h (by rw [hw]), lexG_bad hd h (by rw [hw]), h0, Nat.add_zero]
    · rw [lexG_word rfl hw hn, lexG_word hd hw hn, h0, Nat.add_zero]
theorem wordsL_ok {l : List UInt8} {ws : List Wd} (h : l.length ≤ 65536) (hl : lexG 0 l = (ws, none)) : wordsL l = (ws, 0, 0) := by
  unfold wordsL
  rw [if_neg (by omega), hl]
theorem wordsL_bad {l : List UInt8} {ws : List Wd} {k : Nat} (h : l.length ≤ 65536) (hl : lexG 0 l = (ws, some k)) : wordsL l = ([], k, 5) := by
  unfold wordsL
  rw [if_neg (by omega), hl]
theorem wordN_mark {l : List UInt8} {k n : Nat} (h : markN l = (k, n)) (hn : n ≠ 0) : wordN l = (k, n) := by
  unfold wordN
  rw [h, if_pos hn]
theorem wordN_let {l : List UInt8} {k : Nat} (h : markN l = (k, 0)) : wordN l = if letN l = 0 ∨ 32 < letN l then (0, 0) else (kindL (l.take (letN l)), letN l) := by
  unfold wordN
  rw [h, if_neg (by simp)]

set_option maxRecDepth 100000 in
set_option maxHeartbeats 8000000 in
theorem rWords_any (s : ByteArray) (w : World) (hs : s.size ≤ 1099511627776) :
    Calls Tryz.prog 32 #[sv s] w fun e w' => ∃ (A : Option Addr) (m c : Nat) (ws : List Wd) (y z : Nat), e = .returned (.tuple #[.slice A m c, .int .i64 (y : Int), .int .i64 (z : Int)]) ∧ OwV 127 w' w.heap.size A c m ws ∧ Below w.heap.size w w' ∧ (ws, y, z) = wordsL (tb s) := by
  have hlen := tb_len s
  by_cases hbig : 65536 < s.size
  · have hd : decide ((65536 : Int) < (s.size : Int)) = true := by simp; omega
    have HA := Lib.hid (show wordsL (tb s) = ([], 0, 6) by unfold wordsL; rw [if_pos (by omega)])
    clear hlen
    go_enter Tryz.func32, Tryz.ntmps32
    repeat (first | go_skip | go_guarded | go_step)
    go_ret3
    exact ⟨none, 0, 0, [], 0, 6, rfl, World.ownsRow_nil _ _ _ _, Below.refl _ _, HA.out.symm⟩
  · have hd : decide ((65536 : Int) < (s.size : Int)) = false := by simp; omega
    have HA := Lib.hid (show (tb s).length ≤ 65536 by omega)
    have HLS := Lib.hid (lexG_skip 0 (tb s))
    have H00 := Lib.hid (blN_after (tb s))
    have HBL := Lib.hid (blN_le false (tb s))
    clear hlen
    go_enter Tryz.func32, Tryz.ntmps32
    repeat (first | go_skip | go_guarded | go_step)
    have hc := rBlanks_any s 0 w (by omega) (by omega)
    rw [List.drop_zero] at hc
    refine hc.mono ?_
    clear hc
    rintro e w1 ⟨rfl, rfl⟩
    obtain ⟨b0, hb0⟩ : ∃ b, b = blN false (tb s) := ⟨_, rfl⟩
    rw [← hb0] at HLS H00 HBL ⊢
    have hb00 : b0 ≤ s.size := by have := HBL.out; rw [tb_len] at this; exact this
    clear hb0
    dsimp only
    repeat (first | go_skip | go_guarded | go_step)
    go_loopw [5, 6] (fun o' p' wr => ∃ (a : Nat) (A : Option Addr) (c m : Nat) (ws : List Wd), a ≤ s.size ∧ p' = .int .i64 (a : Int) ∧ o' = .slice A m c ∧ OwV 127 wr w.heap.size A c m ws ∧ Below w.heap.size w wr ∧ m ≤ a ∧ blN false ((tb s).drop a) = 0 ∧ lexG 0 (tb s) = (ws ++ (lexG a ((tb s).drop a)).1, (lexG a ((tb s).drop a)).2)) (fun _ p _ => s.size - (intOf p).toNat)
    case atStart => exact ⟨b0, none, 0, 0, [], hb00, rfl, rfl, World.ownsRow_nil _ _ _ _, Below.refl _ _, Nat.zero_le _, H00.out, by rw [HLS.out, Nat.zero_add]; rfl⟩
    case round =>
      obtain ⟨a, A, c, m, ws, ha, rfl, rfl, ho, hbw, hma, hz, hlx⟩ := hrel
      have hmw : ws.length = m := rdV_len (OwV.rd ho)
      have HO := Lib.hid ho
      have HB := Lib.hid hbw
      have HZ := Lib.hid hz
      have HLX := Lib.hid hlx
      clear ho hbw hz hlx
      by_cases hlt : a < s.size
      · have hci : (a : Int) < (s.size : Int) := by omega
        have hne : (tb s).drop a ≠ [] := by rw [tb_at hlt]; simp
        have HNE := Lib.hid hne
        have hmb : m ≤ 70000 := by omega
        clear hne
        repeat (first | go_skip | go_guarded | go_step)
        refine (rMark_any s a wr (by omega) hlt).mono ?_
        rintro e wv ⟨rfl, q, rfl⟩
        obtain ⟨k, n, hkn⟩ : ∃ k n, markN ((tb s).drop a) = (k, n) := ⟨_, _, rfl⟩
        rw [hkn]
        have HKN := Lib.hid hkn
        have HOV := Lib.hid (ownBelow HO.out (belowDrews (Below.refl wr.heap.size wr) q) (Nat.le_refl _))
        have HBV := Lib.hid (belowDrews HB.out q)
        clear hkn HO HB
        generalize wr.drewN q = wv at HOV HBV ⊢
        dsimp only
        by_cases hn0 : n = 0
        · subst hn0
          repeat (first | go_skip | go_guarded | go_step)
          refine (rLetters_any s a wv (by omega) (by omega)).mono ?_
          rintro e wv2 ⟨rfl, rfl⟩
          obtain ⟨n, hn⟩ : ∃ n, n = letN ((tb s).drop a) := ⟨_, rfl⟩
          have hle := letN_le ((tb s).drop a)
          rw [List.length_drop, tb_len] at hle
          have HWL := Lib.hid (wordN_let HKN.out)
          rw [← hn] at hle HWL ⊢
          clear hn
          dsimp only
          by_cases hz0 : n = 0
          · subst hz0
            have HAN := Lib.hid (show lexG 0 (tb s) = (ws, some a) by
              rw [HLX.out, lexG_bad (l1 := (tb s).drop a) (by rw [HZ.out, List.drop_zero]) HNE.out (by rw [HWL.out]; rfl), HZ.out]
              simp)
            repeat (first | go_skip | go_guarded | go_step)
            go_ret3
            exact ⟨none, 0, 0, [], a, 5, rfl, World.ownsRow_nil _ _ _ _, HBV.out, (wordsL_bad HA.out HAN.out).symm⟩
          · have dz : ((n : Int) == 0) = false := by rw [beq_eq_false_iff_ne]; omega
            by_cases h32 : 32 < n
            · have d32 : decide ((32 : Int) < (n : Int)) = true := by simp; omega
              have HAN := Lib.hid (show lexG 0 (tb s) = (ws, some a) by
                rw [HLX.out, lexG_bad (l1 := (tb s).drop a) (by rw [HZ.out, List.drop_zero]) HNE.out (by rw [HWL.out, if_pos (Or.inr h32)]), HZ.out]
                simp)
              repeat (first | go_skip | go_guarded | go_step)
              go_ret3
              exact ⟨none, 0, 0, [], a, 5, rfl, World.ownsRow_nil _ _ _ _, HBV.out, (wordsL_bad HA.out HAN.out).symm⟩
            · have d32 : decide ((32 : Int) < (n : Int)) = false := by simp; omega
              obtain ⟨kk, hkk⟩ : ∃ kk, kk = kindL (((tb s).drop a).take n) := ⟨_, rfl⟩
              have HW := Lib.hid (show wordN ((tb s).drop a) = (kk, n) by rw [HWL.out, if_neg (by omega), hkk])
              have hsl0 := run_part s a (a + n) (a : Int) ((a : Int) + (n : Int)) rfl (by omega) (by omega) (by omega) wv
              have hkc := rKind_any (s.extract a (a + n)) wv (by simp; omega)
              rw [tb_extract, show a + n - a = n by omega, ← hkk] at hkc
              have HKC := Lib.hid hkc
              have hn0 := hz0
              clear hkk hkc
              repeat (first | go_skip | go_guarded | go_step)
              refine HKC.out.mono ?_
              rintro e wv3 ⟨rfl, rfl⟩
              clear hsl0
              dsimp only
              have hwl := wordN_le ((tb s).drop a)
              rw [HW.out, List.length_drop, tb_len] at hwl
              dsimp only at hwl
              obtain ⟨t, ht⟩ : ∃ t, t = ((tb s).drop a).take n := ⟨_, rfl⟩
              have hsp : sv (s.extract a (a + n)) = strV t := by rw [ht]; exact sv_part s a n
              have hsl := run_part s a (a + n) (a : Int) ((a : Int) + (n : Int)) rfl (by omega) (by omega) (by omega) wv
              rw [hsp] at hsl
              have HTX := Lib.hid ht
              have hl7 := run_litRV kk t a wv
              have hrd : RdV (wv.alloc (.cells #[.int .u8 (kk : Int), strV t, .int .i64 (a : Int)] 127)) (wv.heap.size + 1) (some ⟨wv.heap.size, 0, none⟩) 1 [(kk, t, a)] := bk_rdV (Bk.new wv _ (wdC (kk, t, a)))
              have HRD := Lib.hid hrd
              have HOA := Lib.hid (World.ownsRow.alloc HOV.out (.cells #[.int .u8 (kk : Int), strV t, .int .i64 (a : Int)] 127))
              have hsz : w.heap.size ≤ wv.heap.size := HBV.out.size
              have HSP := Lib.hid hsp
              have hnn : (0 : Int) < (n : Int) := by omega
              clear ht hrd hsp
              repeat (first
                | (at_builtin; refine appRV _ rfl (.tmp 43) (.tmp 53) rfl w.heap.size A c m ws rfl HOA.out _ _ 1 1 [(kk, t, a)] rfl HRD.out (by omega) (by simp; omega) ?_
                   intro A6 c6 V6 ho6 hb6
                   have HO6 := Lib.hid ho6
                   have HB6 := Lib.hid (HBV.out.trans (((Below.refl w.heap.size wv).alloc hsz (.cells #[.int .u8 (kk : Int), strV t, .int .i64 (a : Int)] 127)).trans hb6))
                   clear hl7 hsl ho6 hb6)
                | go_skip | go_guarded | go_step)
              have hc := rBlanks_any s (a + n) V6 (by omega) (by omega)
              rw [show ((a + n : Nat) : Int) = (a : Int) + (n : Int) by omega] at hc
              refine hc.mono ?_
              clear hc
              rintro e w7 ⟨rfl, rfl⟩
              have hb7 := blN_le false ((tb s).drop (a + n))
              rw [List.length_drop, tb_len] at hb7
              have HL7 := Lib.hid (lexG_skip (a + n) ((tb s).drop (a + n)))
              have H07 := Lib.hid (blN_after ((tb s).drop (a + n)))
              obtain ⟨b, hb⟩ : ∃ b, b = blN false ((tb s).drop (a + n)) := ⟨_, rfl⟩
              rw [← hb] at hb7 HL7 H07 ⊢
              rw [List.drop_drop] at HL7 H07
              have HW2 := Lib.hid (lexG_word (a := a) (l := (tb s).drop a) (by rw [HZ.out, List.drop_zero]) HW.out hn0)
              clear hb
              dsimp only
              repeat (first | go_skip | go_guarded | go_step)
              go_roundw
              case rel => exact ⟨a + n + b, A6, c6, m + 1, ws ++ [(kk, t, a)], by omega, by go_num, rfl, HO6.out, HB6.out, by omega, H07.out, by rw [HLX.out, HW2.out, HZ.out, Nat.add_zero, List.drop_drop, HL7.out, ← HTX.out]; simp [List.append_assoc]⟩
              case measure => simp [intOf] <;> omega
        · have HW := Lib.hid (wordN_mark HKN.out hn0)
          have dz : ((n : Int) == 0) = false := by rw [beq_eq_false_iff_ne]; omega
          have hwl := wordN_le ((tb s).drop a)
          rw [HW.out, List.length_drop, tb_len] at hwl
          dsimp only at hwl
          obtain ⟨t, ht⟩ : ∃ t, t = ((tb s).drop a).take n := ⟨_, rfl⟩
          have hsp : sv (s.extract a (a + n)) = strV t := by rw [ht]; exact sv_part s a n
          have hsl := run_part s a (a + n) (a : Int) ((a : Int) + (n : Int)) rfl (by omega) (by omega) (by omega) wv
          rw [hsp] at hsl
          have HTX := Lib.hid ht
          have hl7 := run_litRV k t a wv
          have hrd : RdV (wv.alloc (.cells #[.int .u8 (k : Int), strV t, .int .i64 (a : Int)] 127)) (wv.heap.size + 1) (some ⟨wv.heap.size, 0, none⟩) 1 [(k, t, a)] := bk_rdV (Bk.new wv _ (wdC (k, t, a)))
          have HRD := Lib.hid hrd
          have HOA := Lib.hid (World.ownsRow.alloc HOV.out (.cells #[.int .u8 (k : Int), strV t, .int .i64 (a : Int)] 127))
          have hsz : w.heap.size ≤ wv.heap.size := HBV.out.size
          have HSP := Lib.hid hsp
          have hnn : (0 : Int) < (n : Int) := by omega
          clear ht hrd hsp
          repeat (first
            | (at_builtin; refine appRV _ rfl (.tmp 43) (.tmp 53) rfl w.heap.size A c m ws rfl HOA.out _ _ 1 1 [(k, t, a)] rfl HRD.out (by omega) (by simp; omega) ?_
               intro A6 c6 V6 ho6 hb6
               have HO6 := Lib.hid ho6
               have HB6 := Lib.hid (HBV.out.trans (((Below.refl w.heap.size wv).alloc hsz (.cells #[.int .u8 (k : Int), strV t, .int .i64 (a : Int)] 127)).trans hb6))
               clear hl7 hsl ho6 hb6)
            | go_skip | go_guarded | go_step)
          have hc := rBlanks_any s (a + n) V6 (by omega) (by omega)
          rw [show ((a + n : Nat) : Int) = (a : Int) + (n : Int) by omega] at hc
          refine hc.mono ?_
          clear hc
          rintro e w7 ⟨rfl, rfl⟩
          have hb7 := blN_le false ((tb s).drop (a + n))
          rw [List.length_drop, tb_len] at hb7
          have HL7 := Lib.hid (lexG_skip (a + n) ((tb s).drop (a + n)))
          have H07 := Lib.hid (blN_after ((tb s).drop (a + n)))
          obtain ⟨b, hb⟩ : ∃ b, b = blN false ((tb s).drop (a + n)) := ⟨_, rfl⟩
          rw [← hb] at hb7 HL7 H07 ⊢
          rw [List.drop_drop] at HL7 H07
          have HW2 := Lib.hid (lexG_word (a := a) (l := (tb s).drop a) (by rw [HZ.out, List.drop_zero]) HW.out hn0)
          clear hb
          dsimp only
          repeat (first | go_skip | go_guarded | go_step)
          go_roundw
          case rel => exact ⟨a + n + b, A6, c6, m + 1, ws ++ [(k, t, a)], by omega, by go_num, rfl, HO6.out, HB6.out, by omega, H07.out, by rw [HLX.out, HW2.out, HZ.out, Nat.add_zero, List.drop_drop, HL7.out, ← HTX.out]; simp [List.append_assoc]⟩
          case measure => simp [intOf] <;> omega
      · obtain rfl : a = s.size := by omega
        have HAN := Lib.hid (show lexG 0 (tb s) = (ws, none) by
          have hnil : (tb s).drop s.size = [] := List.drop_of_length_le (by rw [tb_len]; omega)
          rw [HLX.out, hnil, lexG_end (by rfl)]
          simp)
        repeat (first | go_skip | go_guarded | go_step)
        go_ret3
        exact ⟨A, m, c, ws, 0, 0, rfl, HO.out, HB.out, (wordsL_ok HA.out HAN.out).symm⟩
end Go.Proofs.YtoigpbajefkpoaaGreatDoor

set_option linter.unusedVariables false
set_option linter.unusedSimpArgs false
namespace Go.Proofs.YtoigpbajefkpoaaGreatDoor
open Go Go.RowKit

theorem strInfo : (Tryz.prog.info? 9).map (fun i => (i.zero, i.size, i.bytes)) = some (some (.string ⟨#[]⟩), 1, 16) := by kernel_rfl
theorem sv_one (l : List ByteArray) : ∀ u ∈ l.map sv, u.oneCell' = true := by
 intro u hu
 obtain ⟨_, _, rfl⟩ := List.mem_map.1 hu
 rfl
/-- The slice value of n names l lies in a row of one's own. -/
abbrev OwS (w : World) (base : Nat) (A : Option Addr) (c n : Nat) (l : List ByteArray) : Prop := w.ownsRow base 9 1 (.slice A n c) n (l.map sv)
theorem rdS1 (w : World) (s : ByteArray) : Rd (w.alloc (.cells #[sv s] 9)) (w.heap.size + 1) 1 (some ⟨w.heap.size, 0, none⟩) 1 ([s].map sv) :=
 ⟨by simp, fun _ => ⟨_, _, rfl, by omega, fun j u hu => by
  rw [Nat.zero_add, cell_of_row _ _ j #[sv s] 9 (0, 0) (heap_alloc_new w _)]
  simpa using hu⟩⟩
/-- 'out = append(out, x...)' over strings, in this program. -/
theorem appS {ops : Array Oper} {rest : List Oper} {o : Oper} {a : Act} {Q : Exit → Act → World → Prop} (w : World) (hgd : o.guard = none) (p x : Operand)
  (ho : o.op = .call { callee := .builtin .append, args := #[p, x], argTypes := #[22, 22] })
  (base : Nat) (A0 : Option Addr) (c0 n : Nat) (l : List ByteArray) (hv : a.eval p = .slice A0 n c0) (hown : OwS w base A0 c0 n l)
  (B : Nat) (A : Option Addr) (m c : Nat) (news : List ByteArray) (hx : a.eval x = .slice A m c) (hr : Rd w B 1 A m (news.map sv)) (hb : n + m ≤ 1000000000) (hbase : base ≤ w.heap.size)
  (h : ∀ A' c' w', OwS w' base A' c' (n + m) (l ++ news) → w.grownBy w' (Value.slice A0 n c0).ownBlock → ((Value.slice A' (n + m) c').ownBlock = (Value.slice A0 n c0).ownBlock ∨ (Value.slice A' (n + m) c').ownBlock = some w.heap.size) → wpList Tryz.prog ops Q rest (a.put o.dst (.slice A' (n + m) c')) w') : wpList Tryz.prog ops Q (o :: rest) a w := by
 obtain ⟨i0, hi, hz0, hz1, hz2⟩ := info_parts strInfo
 refine wpList_app w hgd p x 22 ho base 9 i0 _ 1 16 Tryz.underlying22 hi hz0 hz1 hz2 rfl (by decide) _ n _ hv hown B A m c _ hx hr (sv_one news) (by simp only [maxLen]; omega) (by omega) hbase ?_
 intro A' c' w' h1 h2 h3
 exact h A' c' w' (by show World.ownsRow _ _ _ _ _ _ _; rw [List.map_append]; exact h1) h2 h3

theorem neS {x s : ByteArray} (h : x ≠ s) : (x.toList == s.toList) = false := by
 rw [ByteArray.toList_eq, ByteArray.toList_eq]
 refine beq_false_of_ne fun e => h ?_
 cases x
 cases s
 congr 1
 exact Array.toList_inj.1 e

/-! ### The mathematics of a table -/
def findO (l : List ByteArray) (s : ByteArray) : Option Nat := l.findIdx? (fun x => decide (x = s))
def findZ (l : List ByteArray) (s : ByteArray) : Int := match findO l s with | some k => (k : Int) | none => -1
/-- What is put: the names behind it, the number, the error. -/
def putL (l : List ByteArray) (s : ByteArray) : List ByteArray × Nat × Nat :=
 if mayB s = false then (l, 0, 8) else match findO l s with
  | some k => (l, k, 0)
  | none => if 4096 ≤ l.length then (l, 0, 6) else (l ++ [s], l.length, 0)
theorem findO_none {l : List ByteArray} {s : ByteArray} (h : ∀ (j : Nat) (x : ByteArray), l[j]? = some x → x ≠ s) : findO l s = none := by
 unfold findO
 rw [List.findIdx?_eq_none_iff]
 intro x hx
 obtain ⟨j, hj⟩ := List.mem_iff_getElem?.1 hx
 exact decide_eq_false (h j x hj)
theorem findO_some {l : List ByteArray} {s : ByteArray} {i : Nat} (hi : l[i]? = some s) (h : ∀ (j : Nat) (x : ByteArray), j < i → l[j]? = some x → x ≠ s) : findO l s = some i := by
 unfold findO
 have hl : i < l.length := (List.getElem?_eq_some_iff.1 hi).1
 rw [List.findIdx?_eq_some_iff_getElem]
 refine ⟨hl, ?_, fun j hj => ?_⟩
 ·
  have := (List.getElem?_eq_some_iff.1 hi).2
  simp [this]
 ·
  have := h j (l[j]'(by omega)) hj (List.getElem?_eq_getElem _)
  simpa using this
theorem findO_lt {l : List ByteArray} {s : ByteArray} {k : Nat} (h : findO l s = some k) : k < l.length := by
 unfold findO at h
 rw [List.findIdx?_eq_some_iff_getElem] at h
 exact h.1

/-- The document's table at block g: names l, in a row of its own in block X. -/
def RT (w : World) (g : Nat) (X : Option Nat) (l : List ByteArray) : Prop :=
 ∃ A c, Bk w g 113 [.slice A l.length c] ∧ OwS w 0 A c l.length l ∧ X = (Value.slice A l.length c).ownBlock ∧ X ≠ some g
/-- The blocks that a table is made of. -/
def Fp1 (g : Nat) (X : Option Nat) (k : Nat) : Prop := k = g ∨ X = some k
theorem RT.turn {G : Nat → Prop} {w w' : World} {g : Nat} {X : Option Nat} {l : List ByteArray} (h : RT w g X l) (ht : Turn G w w') (hn : ∀ k, Fp1 g X k → ¬ G k) : RT w' g X l := by
 obtain ⟨A, c, h1, h2, h3, h4⟩ := h
 exact ⟨A, c, ht.bk h1 (hn g (.inl rfl)), ht.own h2 (fun k hk => hn k (.inr (h3.trans hk))), h3, h4⟩
theorem RT.lt {w : World} {g : Nat} {X : Option Nat} {l : List ByteArray} (h : RT w g X l) : ∀ k, Fp1 g X k → k < w.heap.size := by
 obtain ⟨A, c, h1, h2, h3, h4⟩ := h
 rintro k (rfl | hk)
 ·
  exact h1.lt
 ·
  exact (World.ownsRow.lt h2 k (h3.symm.trans hk)).2

set_option maxRecDepth 100000 in
set_option maxHeartbeats 1000000 in
theorem rFind_any (g : Nat) (X : Option Nat) (l : List ByteArray) (s : ByteArray) (w : World) (h : RT w g X l) (hl : l.length ≤ 1000000) :
  Calls Tryz.prog 93 #[.pointer (some ⟨g, 0, none⟩), sv s] w fun e w' => e = .returned (.int .i64 (findZ l s)) ∧ w = w' := by
 obtain ⟨A, c, hb, ho, hX, hg⟩ := h
 have cg := hb.cell 0
 rw [show [Value.slice A l.length c][0]? = some (Value.slice A l.length c) from rfl] at cg
 have hr : Rd w w.heap.size 1 A l.length (l.map sv) := Rd.ofOwn ho
 have HR := Lib.hid hr
 clear hb ho hX hg hr
 go_enter Tryz.func93, Tryz.ntmps93
 repeat go_step
 go_loop [5] (fun p => ∃ i : Nat, i ≤ l.length ∧ p = .int .i64 (i : Int) ∧ ∀ (j : Nat) (x : ByteArray), j < i → l[j]? = some x → x ≠ s) (fun p => l.length - (intOf p).toNat)
 case atStart => exact ⟨0, by omega, rfl, fun j x hj => absurd hj (by omega)⟩
 case round =>
  obtain ⟨i, hi, rfl, hne⟩ := hrel
  by_cases hlt : i < l.length
  ·
   have hci : (i : Int) < (l.length : Int) := by omega
   obtain ⟨b, o, u, hA, hbb, hu, hc⟩ := HR.out.at1 hlt
   subst hA
   obtain ⟨x, hx⟩ : ∃ x, l[i]? = some x := ⟨_, List.getElem?_eq_getElem hlt⟩
   rw [List.getElem?_map, hx] at hu
   simp only [Option.map_some, Option.some.injEq] at hu
   subst hu
   have HX := Lib.hid hx
   have HNE := Lib.hid hne
   clear hx hne
   by_cases he : x = s
   ·
    subst he
    have hz : findZ l x = (i : Int) := by unfold findZ; rw [findO_some HX.out HNE.out]
    go_wp2
    go_ret
    exact ⟨rfl, rfl⟩
   ·
    have hq := neS he
    have HE := Lib.hid he
    clear he
    go_wp2
    go_round
    case rel => exact ⟨i + 1, by omega, by go_num, fun j y hj hy => by
     rcases Nat.lt_succ_iff_lt_or_eq.1 hj with h1 | rfl
     ·
      exact HNE.out j y h1 hy
     ·
      rw [HX.out] at hy
      cases hy
      exact HE.out⟩
    case measure => simp [intOf]; omega
  ·
   obtain rfl : i = l.length := by omega
   have hz : findZ l s = -1 := by unfold findZ; rw [findO_none fun j x hj => hne j x (List.getElem?_eq_some_iff.1 hj).1 hj]
   clear hne
   go_wp2
   go_ret
   exact ⟨rfl, rfl⟩
end Go.Proofs.YtoigpbajefkpoaaGreatDoor

set_option linter.unusedVariables false
set_option linter.unusedSimpArgs false
namespace Go.Proofs.YtoigpbajefkpoaaGreatDoor
open Go Go.RowKit

theorem putL_len (l : List ByteArray) (s : ByteArray) : (putL l s).1.length ≤ l.length + 1 := by
  unfold putL
  split
  · simp
  · split
    · simp
    · split <;> simp

set_option maxRecDepth 100000 in
set_option maxHeartbeats 1000000 in
theorem rPut_any (g : Nat) (X : Option Nat) (l : List ByteArray) (s : ByteArray) (w : World) (h : RT w g X l) (hl : l.length ≤ 1000000) (hs : s.size ≤ 1099511627776) :
    Calls Tryz.prog 70 #[.pointer (some ⟨g, 0, none⟩), sv s] w fun e w' => e = .returned (.tuple #[.int .u32 ((putL l s).2.1 : Int), .int .i64 ((putL l s).2.2 : Int)]) ∧
      ∃ X', RT w' g X' (putL l s).1 ∧ Turn (Fp1 g X) w w' ∧ ∀ k, X' = some k → X = some k ∨ w.heap.size ≤ k := by
  have hstay : ∀ n e : Nat, putL l s = (l, n, e) → ∃ X', RT w g X' (putL l s).1 ∧ Turn (Fp1 g X) w w ∧ ∀ k, X' = some k → X = some k ∨ w.heap.size ≤ k := fun n e he => ⟨X, by rw [he]; exact h, Turn.refl _ _, fun k hk => .inl hk⟩
  have HSTAY := Lib.hid hstay
  clear hstay
  by_cases hm : mayB s = false
  · have hp : putL l s = (l, 0, 8) := by unfold putL; rw [if_pos hm]
    have HP := Lib.hid hp
    go_enter Tryz.func70, Tryz.ntmps70
    repeat go_step
    refine (rMay_any s w hs).mono ?_
    rintro e w1 ⟨rfl, rfl⟩
    rw [hm]
    dsimp only
    go_wp2
    go_ret2
    exact ⟨by rw [HP.out]; rfl, HSTAY.out _ _ HP.out⟩
  · have hm1 : mayB s = true := by simpa using hm
    cases hf : findO l s with
    | some k =>
      have hk := findO_lt hf
      have hp : putL l s = (l, k, 0) := by unfold putL; rw [if_neg hm, hf]
      have HP := Lib.hid hp
      have hz : findZ l s = (k : Int) := by unfold findZ; rw [hf]
      clear hf hp
      go_enter Tryz.func70, Tryz.ntmps70
      repeat go_step
      refine (rMay_any s w hs).mono ?_
      rintro e w1 ⟨rfl, rfl⟩
      rw [hm1]
      dsimp only
      repeat go_step
      refine (rFind_any g X l s w h hl).mono ?_
      rintro e w1 ⟨rfl, rfl⟩
      rw [hz]
      dsimp only
      go_wp2
      go_ret2
      exact ⟨by rw [HP.out]; rfl, HSTAY.out _ _ HP.out⟩
    | none =>
      have hz : findZ l s = -1 := by unfold findZ; rw [hf]
      obtain ⟨A, c, hb, ho, hX, hg⟩ := id h
      have cg := hb.cell 0
      rw [show [Value.slice A l.length c][0]? = some (Value.slice A l.length c) from rfl] at cg
      by_cases hbig : 4096 ≤ l.length
      · have hp : putL l s = (l, 0, 6) := by unfold putL; rw [if_neg hm, hf]; simp [hbig]
        have HP := Lib.hid hp
        have hd : decide ((4096 : Int) ≤ (l.length : Int)) = true := by simp; omega
        clear hf hp
        go_enter Tryz.func70, Tryz.ntmps70
        repeat go_step
        refine (rMay_any s w hs).mono ?_
        rintro e w1 ⟨rfl, rfl⟩
        rw [hm1]
        dsimp only
        repeat go_step
        refine (rFind_any g X l s w h hl).mono ?_
        rintro e w1 ⟨rfl, rfl⟩
        rw [hz]
        dsimp only
        clear hb ho hX hg h
        go_wp2
        go_ret2
        exact ⟨by rw [HP.out]; rfl, HSTAY.out _ _ HP.out⟩
      · have hp : putL l s = (l ++ [s], l.length, 0) := by unfold putL; rw [if_neg hm, hf]; simp [hbig]
        have HP := Lib.hid hp
        have hd : decide ((4096 : Int) ≤ (l.length : Int)) = false := by simp; omega
        have hgl := hb.lt
        have HB := Lib.hid hb
        have HO := Lib.hid ho
        have HX := Lib.hid hX
        have HG := Lib.hid hg
        clear hf hp hb ho hX hg
        go_enter Tryz.func70, Tryz.ntmps70
        repeat go_step
        refine (rMay_any s w hs).mono ?_
        rintro e w1 ⟨rfl, rfl⟩
        rw [hm1]
        dsimp only
        repeat go_step
        refine (rFind_any g X l s w h hl).mono ?_
        rintro e w1 ⟨rfl, rfl⟩
        rw [hz]
        dsimp only
        clear h
        repeat (first
          | (at_builtin; refine appS _ rfl (.tmp 27) (.tmp 29) rfl 0 A c l.length l rfl (World.ownsRow.alloc HO.out _) (w.heap.size + 1) (some ⟨w.heap.size, 0, none⟩) 1 1 [s] rfl (rdS1 w s) (by omega) (Nat.zero_le _) ?_
             intro A1 c1 w1 ho1 hg1 hk1
             have ht1 : Turn (Fp1 g X) w w1 := ((Turn.refl _ w).alloc _).then_ (Turn.ofGrown (G := fun k => some k = X) hg1 (fun k hk => by rw [HX.out]; exact hk.symm)) (fun k _ hk => .inr hk.symm)
             have hb1 : Bk w1 g 113 [.slice A l.length c] := (Turn.ofGrown (G := fun k => some k = X) hg1 (fun k hk => by rw [HX.out]; exact hk.symm)).bk (HB.out.alloc _) (fun e => HG.out e.symm)
             have cg1 := hb1.cell 0
             rw [show [Value.slice A l.length c][0]? = some (Value.slice A l.length c) from rfl] at cg1
             have fg1 := hb1.frozen 0
             have cg2 := (hb1.set_ 0 (.slice A1 (l.length + 1) c1)).cell 0
             rw [show ([Value.slice A l.length c].set 0 (.slice A1 (l.length + 1) c1))[0]? = some (.slice A1 (l.length + 1) c1) from rfl] at cg2)
          | go_step)
        go_ret2
        have hX1 : (Value.slice A1 (l.length + 1) c1).ownBlock ≠ some g := by
          rcases hk1 with e | e
          · rw [e, ← HX.out]
            exact HG.out
          · rw [e]
            simp
            omega
        refine ⟨by rw [HP.out]; first | rfl | (congr 3; simp), (Value.slice A1 (l.length + 1) c1).ownBlock, ?_, ht1.setCell (fun _ => .inl rfl) _, fun k hk => ?_⟩
        · rw [HP.out]
          refine ⟨A1, c1, by simpa using hb1.set_ 0 (.slice A1 (l.length + 1) c1), ?_, by simp, hX1⟩
          have hT : Turn (fun k => k = g) w1 (w1.setCell ⟨g, 0, none⟩ (.slice A1 (l.length + 1) c1)) := Turn.setCell (Turn.refl (fun k => k = g) w1) (p := ⟨g, 0, none⟩) (fun _ => rfl) _
          have := hT.own ho1 (fun k hk e => hX1 (by rw [hk, e]))
          simpa [OwS] using this
        · rcases hk1 with e | e
          · rw [hk, ← HX.out] at e
            exact .inl e.symm
          · rw [hk] at e
            simp only [Option.some.injEq] at e
            refine .inr ?_
            rw [e]
            simp

def ofL : List ByteArray → List ByteArray → List ByteArray × Nat
  | acc, [] => (acc, 0)
  | acc, s :: r => if (putL acc s).2.2 = 0 then ofL (putL acc s).1 r else ([], (putL acc s).2.2)

set_option maxRecDepth 100000 in
set_option maxHeartbeats 1000000 in
theorem rOf_any (A : Option Addr) (n c : Nat) (l : List ByteArray) (w : World) (hr : Rd w w.heap.size 1 A n (l.map sv)) (hn : n ≤ 100000) (hs : ∀ s ∈ l, s.size ≤ 1099511627776) :
    Calls Tryz.prog 46 #[.slice A n c] w fun e w' => Below w.heap.size w w' ∧
      (((ofL [] l).2 = 0 ∧ ∃ X, e = .returned (.tuple #[.pointer (some ⟨w.heap.size, 0, none⟩), .int .i64 0]) ∧ RT w' w.heap.size X (ofL [] l).1 ∧ ∀ k, X = some k → w.heap.size ≤ k) ∨
       ((ofL [] l).2 ≠ 0 ∧ e = .returned (.tuple #[.pointer none, .int .i64 ((ofL [] l).2 : Int)]))) := by
  have hl : l.length = n := by simpa using hr.len1
  have HL := Lib.hid hl
  have HR := Lib.hid hr
  have HS := Lib.hid hs
  clear hr hl hs
  obtain ⟨W0, hW0, hb0, hbw0⟩ : ∃ W0, W0 = w.alloc (.cells #[.slice none 0 0] 113) ∧ Bk W0 w.heap.size 113 [.slice none 0 0] ∧ Below w.heap.size w W0 :=
    ⟨_, rfl, Bk.new w _ _, (Below.refl _ _).alloc (Nat.le_refl _) _⟩
  have HW0 := Lib.hid hW0
  have hRT : RT W0 w.heap.size none [] := ⟨none, 0, hb0, World.ownsRow_nil _ _ _ _, rfl, by simp⟩
  clear hW0 hb0
  go_enter Tryz.func46, Tryz.ntmps46
  repeat go_step
  rw [← HW0.out]
  go_loopw [5] (fun p wr => ∃ (i : Nat) (X : Option Nat) (acc : List ByteArray), i ≤ n ∧ p = .int .i64 (i : Int) ∧ acc.length ≤ i ∧ ofL [] l = ofL acc (l.drop i) ∧ RT wr w.heap.size X acc ∧ (∀ k, X = some k → w.heap.size ≤ k) ∧ Below w.heap.size w wr)
    (fun p _ => n - (intOf p).toNat)
  case atStart => exact ⟨0, none, [], by omega, rfl, by simp, rfl, hRT, by simp, hbw0⟩
  case round =>
    clear hRT hbw0
    obtain ⟨i, X, acc, hi, rfl, hacc, hof, hrt, hX, hbw⟩ := hrel
    by_cases hlt : i < n
    · have hci : (i : Int) < (n : Int) := by omega
      obtain ⟨b, o, u, hA, hbb, hu, hc⟩ := (HR.out.below hbw).at1 hlt
      subst hA
      obtain ⟨s, hx⟩ : ∃ s, l[i]? = some s := ⟨_, List.getElem?_eq_getElem (by have := HL.out; omega)⟩
      rw [List.getElem?_map, hx] at hu
      simp only [Option.map_some, Option.some.injEq] at hu
      subst hu
      have hsz := HS.out s (List.mem_of_getElem? hx)
      have hd : l.drop i = s :: l.drop (i + 1) := by
        rw [List.drop_eq_getElem_cons (by have := HL.out; omega)]
        congr 1
        exact (List.getElem?_eq_some_iff.1 hx).2
      rw [hd, ofL] at hof
      have HOF := Lib.hid hof
      have HX := Lib.hid hX
      clear hx hd hof hX
      repeat go_step
      refine (rPut_any w.heap.size X acc s wr hrt (by omega) hsz).mono ?_
      rintro e w1 ⟨rfl, X1, hrt1, ht1, hx1⟩
      have hbw1 : Below w.heap.size w w1 := hbw.trans (ht1.below (fun k _ hk => by
        rcases hk with rfl | hk
        · exact Nat.le_refl _
        · exact HX.out k hk) hbw.size)
      have hX1 : ∀ k, X1 = some k → w.heap.size ≤ k := fun k hk => by
        rcases hx1 k hk with h | h
        · exact HX.out k h
        · exact Nat.le_trans hbw.size h
      have hlen := putL_len acc s
      have HX1 := Lib.hid hX1
      clear hrt ht1 hx1 hX1 hbw hc
      obtain ⟨q, hq⟩ : ∃ q, putL acc s = q := ⟨_, rfl⟩
      obtain ⟨acc1, num, err⟩ := q
      have hof2 := HOF.out
      rw [hq] at hof2 hrt1 hlen ⊢
      dsimp only at hof2 hrt1 hlen ⊢
      have HO2 := Lib.hid hof2
      clear hof2 hq HOF
      by_cases he : err = 0
      · subst he
        have hof3 := HO2.out
        rw [if_pos rfl] at hof3
        have HO3 := Lib.hid hof3
        clear hof3
        go_wp2
        go_roundw
        case rel => exact ⟨i + 1, X1, acc1, by omega, by go_num, by omega, HO3.out, hrt1, HX1.out, hbw1⟩
        case measure => simp [intOf]; omega
      · have hof3 := HO2.out
        rw [if_neg he] at hof3
        have HO3 := Lib.hid hof3
        have hne : ((err : Int) != 0) = true := by simp; omega
        have HE := Lib.hid he
        clear hof3 he
        go_wp2
        go_ret2
        exact ⟨hbw1, .inr ⟨by rw [HO3.out]; exact HE.out, by rw [HO3.out]; rfl⟩⟩
    · obtain rfl : n = i := by omega
      rw [List.drop_of_length_le (by have := HL.out; omega), ofL] at hof
      have HOF := Lib.hid hof
      have HX := Lib.hid hX
      clear hof hX
      go_wp2
      go_ret2
      exact ⟨hbw, .inl ⟨by rw [HOF.out], X, rfl, by rw [HOF.out]; exact hrt, HX.out⟩⟩
end Go.Proofs.YtoigpbajefkpoaaGreatDoor

set_option linter.unusedVariables false
namespace Go.Proofs.YtoigpbajefkpoaaGreatDoor
open Go Go.RowKit

/-- Names, each once, that may be; no more than so many. -/
structure Good (n : Nat) (l : List ByteArray) : Prop where
 nodup : l.Nodup
 may : ∀ s ∈ l, mayB s = true
 len : l.length ≤ n
theorem Good.nil (n : Nat) : Good n [] := ⟨List.nodup_nil, by simp, by simp⟩
theorem findO_mem {l : List ByteArray} {s : ByteArray} : findO l s = none ↔ s ∉ l := by
 constructor
 ·
  intro h hm
  unfold findO at h
  rw [List.findIdx?_eq_none_iff] at h
  have := h s hm
  simp at this
 ·
  intro h
  exact findO_none fun j x hj e => h (e ▸ List.mem_of_getElem? hj)
theorem findO_get {l : List ByteArray} {s : ByteArray} {k : Nat} (h : findO l s = some k) : l[k]? = some s := by
 unfold findO at h
 rw [List.findIdx?_eq_some_iff_getElem] at h
 obtain ⟨hk, h1, _⟩ := h
 rw [List.getElem?_eq_getElem hk]
 simpa using h1
theorem putL_may {l : List ByteArray} {s : ByteArray} (h : mayB s = false) : putL l s = (l, 0, 8) := by unfold putL; rw [if_pos h]
theorem putL_old {l : List ByteArray} {s : ByteArray} {k : Nat} (h : mayB s = true) (hf : findO l s = some k) : putL l s = (l, k, 0) := by
 unfold putL
 rw [if_neg (by simp [h]), hf]
theorem putL_new {l : List ByteArray} {s : ByteArray} (h : mayB s = true) (hf : findO l s = none) (hl : l.length < 4096) : putL l s = (l ++ [s], l.length, 0) := by
 unfold putL
 rw [if_neg (by simp [h]), hf]
 simp [Nat.not_le.2 hl]
theorem Good.mono {n m : Nat} {l : List ByteArray} (h : Good n l) (hm : n ≤ m) : Good m l := ⟨h.nodup, h.may, Nat.le_trans h.len hm⟩
theorem putL_good {n : Nat} {l : List ByteArray} (s : ByteArray) (h : Good n l) (hn : n < 4096) : Good (n + 1) (putL l s).1 := by
 cases hm : mayB s with
 | false => rw [putL_may hm]; exact h.mono (by omega)
 | true =>
  cases hf : findO l s with
  | some k => rw [putL_old hm hf]; exact h.mono (by omega)
  | none =>
   rw [putL_new hm hf (by have := h.len; omega)]
   refine ⟨?_, ?_, ?_⟩
   ·
    rw [List.nodup_append]
    exact ⟨h.nodup, by simp, fun a ha b hb e => findO_mem.1 hf (by simp at hb; rw [← hb, ← e]; exact ha)⟩
   ·
    intro x hx
    rcases List.mem_append.1 hx with h1 | h1
    ·
     exact h.may x h1
    ·
     simp at h1
     rw [h1]
     exact hm
   ·
    simp
    have := h.len
    omega
end Go.Proofs.YtoigpbajefkpoaaGreatDoor

set_option linter.unusedVariables false
set_option linter.unusedSimpArgs false
namespace Go.Proofs.YtoigpbajefkpoaaGreatDoor
open Go Go.RowKit

/-- A term: is it a variable? its number. -/
abbrev Tm := Bool × UInt32
abbrev AtL := UInt32 × List Tm
abbrev Li := Bool × AtL
abbrev Cl := AtL × List Li
abbrev nv (x : UInt32) : Value := .int .u32 (x.toNat : Int)
theorem n32_lt (x : UInt32) : x.toNat < 4294967296 := UInt32.toNat_lt x
def tmC (t : Tm) : List Value := [.bool t.1, nv t.2]
def tmCs (l : List Tm) : List Value := l.flatMap tmC
theorem tmCs_cons (t : Tm) (l : List Tm) : tmCs (t :: l) = .bool t.1 :: nv t.2 :: tmCs l := rfl
theorem tmCs_len (l : List Tm) : (tmCs l).length = l.length * 2 := by
 induction l with
 | nil => rfl
 | cons t l ih => rw [tmCs_cons, List.length_cons, List.length_cons, ih, List.length_cons]; omega
theorem tmCs_at {l : List Tm} {i : Nat} {t : Tm} (h : l[i]? = some t) : (tmCs l)[i * 2]? = some (.bool t.1) ∧ (tmCs l)[i * 2 + 1]? = some (nv t.2) := by
 induction l generalizing i with
 | nil => simp at h
 | cons x l ih =>
  rw [tmCs_cons]
  cases i with
  | zero =>
   simp only [List.getElem?_cons_zero, Option.some.injEq] at h
   subst h
   exact ⟨rfl, rfl⟩
  | succ i =>
   rw [List.getElem?_cons_succ] at h
   have := ih h
   rw [show (i + 1) * 2 = i * 2 + 1 + 1 by omega, List.getElem?_cons_succ, List.getElem?_cons_succ, show i * 2 + 1 + 1 + 1 = (i * 2 + 1) + 1 + 1 by omega, List.getElem?_cons_succ, List.getElem?_cons_succ]
   exact this
theorem tmCs_one (l : List Tm) : ∀ u ∈ tmCs l, u.oneCell' = true := by
 intro u hu
 unfold tmCs at hu
 obtain ⟨t, _, ht⟩ := List.mem_flatMap.1 hu
 simp only [tmC, List.mem_cons, List.not_mem_nil, or_false] at ht
 rcases ht with rfl | rfl <;> rfl

section
variable {w w' : World} {B : Nat} {A : Option Addr} {n : Nat}
/-- A slice of terms that is read. -/
abbrev RdT (w : World) (B : Nat) (A : Option Addr) (n : Nat) (l : List Tm) : Prop := Rd w B 2 A n (tmCs l)
abbrev RdU (w : World) (B : Nat) (A : Option Addr) (n : Nat) (l : List UInt32) : Prop := Rd w B 1 A n (l.map nv)
theorem rdT_len {l : List Tm} (h : RdT w B A n l) : l.length = n := by
 have := h.1
 rw [tmCs_len] at this
 omega
theorem rdT_at {l : List Tm} (h : RdT w B A n l) {i : Nat} (hi : i < n) :
  ∃ b o t, A = some ⟨b, o, none⟩ ∧ b < B ∧ l[i]? = some t ∧ w.cell? ⟨b, o + i * 2, none⟩ = some (.bool t.1) ∧ w.cell? ⟨b, o + i * 2 + 1, none⟩ = some (nv t.2) := by
 obtain ⟨b, o, e, hb, hc⟩ := h.2 (by omega)
 have hl := rdT_len h
 have ht : l[i]? = some (l[i]'(by omega)) := List.getElem?_eq_getElem _
 have h2 := tmCs_at ht
 exact ⟨b, o, _, e, hb, ht, hc _ _ h2.1, hc _ _ h2.2⟩
end

/-! ### What the document says -/
def mayA (a : AtL) : Bool := a.2.all (fun t => !t.1 || decide (t.2.toNat < 16)) && decide (a.2.length ≤ 6)
def mayC (c : Cl) : Bool := c.2.all (fun l => mayA l.2) && mayA c.1 && decide (c.2.length ≤ 8)
theorem all_at {α : Type} {l : List α} {f : α → Bool} {i : Nat} {x : α} (h : l[i]? = some x) (hx : f x = false) : l.all f = false := by
 rw [List.all_eq_false]
 exact ⟨x, List.mem_of_getElem? h, by simp [hx]⟩
theorem all_upto {α : Type} {l : List α} {f : α → Bool} {i : Nat} {x : α} (h : l[i]? = some x) (h0 : (l.take i).all f = true) (hx : f x = true) : (l.take (i + 1)).all f = true := by
 rw [List.take_add_one, h]
 simp [h0, hx]
theorem all_whole {α : Type} {l : List α} {f : α → Bool} {i : Nat} (hi : l.length ≤ i) (h0 : (l.take i).all f = true) : l.all f = true := by
 rwa [List.take_of_length_le hi] at h0
end Go.Proofs.YtoigpbajefkpoaaGreatDoor

set_option linter.unusedVariables false
set_option linter.unusedSimpArgs false
namespace Go.Proofs.YtoigpbajefkpoaaGreatDoor
open Go Go.RowKit

/-- Nobody or somebody says an atom; a condition; a rule. -/
abbrev Sy := Bool × Tm × AtL
abbrev Co := Bool × Sy
abbrev Rl := Sy × List Co
def mayS (s : Sy) : Bool := (s.1 || decide (s.2.1 = (false, 0))) && (!s.2.1.1 || decide (s.2.1.2.toNat < 16)) && mayA s.2.2
def mayR (r : Rl) : Bool := r.2.all (fun c => mayS c.2) && mayS r.1 && decide (r.2.length ≤ 8)
end Go.Proofs.YtoigpbajefkpoaaGreatDoor

set_option linter.unusedVariables false
set_option linter.unusedSimpArgs false
namespace Go.Proofs.YtoigpbajefkpoaaGreatDoor
open Go Go.RowKit

/-- What words come; the names; the rule's variables. -/
abbrev PS := List Wd × List ByteArray × List ByteArray
/-- What is wrong, and where. -/
abbrev PE := Nat × Nat
def kindE (l : List Wd) : Nat := match l with | [] => 0 | w :: _ => w.1
def placeE (sz : Nat) (l : List Wd) : Nat := match l with | [] => sz | w :: _ => w.2.2
def txE (l : List Wd) : ByteArray := match l with | [] => ⟨#[]⟩ | w :: _ => ⟨w.2.1.toArray⟩
def bindE {α β : Type} (x : Except PE (α × PS)) (f : α → PS → Except PE (β × PS)) : Except PE (β × PS) := match x with | .ok z => f z.1 z.2 | .error z => .error z
/-- The words behind the first one. -/
abbrev nextE (s : PS) : PS := (s.1.tail, s.2)
def wordE (sz k : Nat) (s : PS) : Except PE (ByteArray × PS) := if kindE s.1 = k then .ok (txE s.1, nextE s) else .error (5, placeE sz s.1)
def nameE (sz : Nat) (s : PS) : Except PE (Nat × PS) :=
 if kindE s.1 = 1 then
  match findO s.2.1 (txE s.1) with
  | some i => .ok (i, nextE s)
  | none => if 4096 ≤ s.2.1.length then .error (6, placeE sz s.1) else .ok (s.2.1.length, (s.1.tail, s.2.1 ++ [txE s.1], s.2.2))
 else .error (5, placeE sz s.1)
def termE (sz : Nat) (s : PS) : Except PE (Tm × PS) :=
 if kindE s.1 = 2 then
  match findO s.2.2 (txE s.1) with
  | some i => .ok ((true, UInt32.ofNat i), nextE s)
  | none => if 16 ≤ s.2.2.length then .error (6, placeE sz s.1) else .ok ((true, UInt32.ofNat s.2.2.length), (s.1.tail, s.2.1, s.2.2 ++ [txE s.1]))
 else bindE (nameE sz s) fun i s1 => .ok ((false, UInt32.ofNat i), s1)
def argsE (sz : Nat) : Nat → List Tm → PS → Except PE (List Tm × PS)
 | 0, _, _ => .error (0, 0)
 | n + 1, acc, s =>
  if acc.length = 6 ∧ (kindE s.1 = 1 ∨ kindE s.1 = 2) then .error (6, placeE sz s.1) else
  bindE (termE sz s) fun t s1 =>
   if kindE s1.1 = 7 then argsE sz n (acc ++ [t]) (nextE s1) else
   bindE (wordE sz 6 s1) fun _ s2 => .ok (acc ++ [t], s2)
def atomE (sz : Nat) (s : PS) : Except PE (AtL × PS) :=
 bindE (nameE sz s) fun p s1 =>
  if kindE s1.1 = 5 then bindE (argsE sz 7 [] (nextE s1)) fun l s2 => .ok ((UInt32.ofNat p, l), s2) else .ok ((UInt32.ofNat p, []), s1)
def sayE (sz : Nat) (s : PS) : Except PE (Sy × PS) :=
 if kindE s.1 = 2 ∨ kindE s.1.tail = 4 then
  bindE (termE sz s) fun t s1 => bindE (wordE sz 4 s1) fun _ s2 => bindE (atomE sz s2) fun a s3 => .ok ((true, t, a), s3)
 else bindE (atomE sz s) fun a s1 => .ok ((false, (false, 0), a), s1)
def condsE (sz : Nat) : Nat → List Co → PS → Except PE (List Co × PS)
 | 0, _, _ => .error (0, 0)
 | n + 1, acc, s =>
  if acc.length = 8 ∧ (kindE s.1 = 3 ∨ kindE s.1 = 1 ∨ kindE s.1 = 2) then .error (6, placeE sz s.1) else
  bindE (sayE sz (if kindE s.1 = 3 then nextE s else s)) fun y s1 =>
   if kindE s1.1 = 7 then condsE sz n (acc ++ [(decide (kindE s.1 = 3), y)]) (nextE s1) else .ok (acc ++ [(decide (kindE s.1 = 3), y)], s1)
def bodyE (sz : Nat) (s : PS) : Except PE (List Co × PS) := if kindE s.1 = 9 then condsE sz 9 [] (nextE s) else .ok ([], s)
def ruleE (sz : Nat) (s : PS) : Except PE (Rl × PS) :=
 bindE (sayE sz (s.1, s.2.1, [])) fun h s1 => bindE (bodyE sz s1) fun b s2 => bindE (wordE sz 8 s2) fun _ s3 => .ok ((h, b), s3)
def rulesE (sz : Nat) : Nat → List Rl → PS → Except PE (List Rl × PS)
 | 0, acc, s => .ok (acc, s)
 | n + 1, acc, s => if s.1 = [] then .ok (acc, s) else bindE (ruleE sz s) fun r s1 => rulesE sz n (acc ++ [r]) s1
/-- The whole answer: the rules, the names behind it, the place, what is wrong. -/
def parseL (names : List ByteArray) (text : List UInt8) : List Rl × List ByteArray × Nat × Nat :=
 match wordsL text with
 | (ws, y, z) =>
  if z ≠ 0 then ([], names, y, z) else
  match rulesE text.length ws.length [] (ws, names, []) with
  | .ok (rs, s) => (rs, s.2.1, 0, 0)
  | .error (e, a) => ([], names, a, e)

/-! ### as a text -/
/-- Is a name a Name as a word? -/
def plainB (s : ByteArray) : Bool := match wordsL (tb s) with | ([w], _, 0) => decide (w.1 = 1 ∧ w.2.1 = tb s) | _ => false
def namedL (names : List ByteArray) (n : Nat) : List UInt8 := match names[n]? with | some s => if plainB s then tb s else [] | none => []
def digitsL (n : Nat) : List UInt8 := if h : n < 10 then [UInt8.ofNat (48 + n)] else digitsL (n / 10) ++ [UInt8.ofNat (48 + n % 10)]
def termL (names : List ByteArray) (t : Tm) : List UInt8 := if t.1 then 88 :: digitsL t.2.toNat else namedL names t.2.toNat
abbrev saysW : List UInt8 := [32, 115, 97, 121, 115, 32]
abbrev notW : List UInt8 := [110, 111, 116, 32]
def argsL (names : List ByteArray) : List Tm → List UInt8
 | [] => []
 | t :: l => 40 :: (termL names t ++ l.flatMap (fun u => [44, 32] ++ termL names u)) ++ [41]
def sayL (names : List ByteArray) (y : Sy) : List UInt8 := (if y.1 then termL names y.2.1 ++ saysW else []) ++ namedL names y.2.2.1.toNat ++ argsL names y.2.2.2
def condL (names : List ByteArray) (c : Co) : List UInt8 := (if c.1 then notW else []) ++ sayL names c.2
def bodyL (names : List ByteArray) : List Co → List UInt8
 | [] => []
 | c :: l => [32, 58, 45, 32] ++ condL names c ++ l.flatMap (fun d => [44, 32] ++ condL names d)
def ruleL (names : List ByteArray) (r : Rl) : List UInt8 := sayL names r.1 ++ bodyL names r.2 ++ [46, 10]
def knownB (names : List ByteArray) (y : Sy) : Bool := decide (namedL names y.2.2.1.toNat ≠ []) && (!y.1 || decide (termL names y.2.1 ≠ [])) && y.2.2.2.all (fun t => decide (termL names t ≠ []))
def knownR (names : List ByteArray) (r : Rl) : Bool := knownB names r.1 && r.2.all (fun c => knownB names c.2)
/-- The text, or what is wrong with the first rule of which something is. -/
def printL (names : List ByteArray) : List Rl → List UInt8 × Nat
 | [] => ([], 0)
 | r :: l => if !mayR r then ([], 8) else if !knownR names r then ([], 4) else
  match (printL names l).2 with
  | 0 => (ruleL names r ++ (printL names l).1, 0)
  | e => ([], e)

/-! ### the variables of a rule, as they come -/
def termsS (y : Sy) : List Tm := (if y.1 then [y.2.1] else []) ++ y.2.2.2
def termsR (r : Rl) : List Tm := termsS r.1 ++ r.2.flatMap (fun c => termsS c.2)
/-- The number of the next variable, behind these terms; none: they don't come so. -/
def comeG : Nat → List Tm → Option Nat
 | k, [] => some k
 | k, t :: l => if t.1 then (if k < t.2.toNat then none else if t.2.toNat = k then comeG (k + 1) l else comeG k l) else comeG k l
def comeR (r : Rl) : Bool := (comeG 0 (termsR r)).isSome
end Go.Proofs.YtoigpbajefkpoaaGreatDoor

