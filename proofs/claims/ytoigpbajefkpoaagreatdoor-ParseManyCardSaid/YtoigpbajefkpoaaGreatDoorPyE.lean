/- Texts, packed: SyL PaQ PaB PaC PaT PaU -/
import Derived.Test.YtoigpbajefkpoaaGreatDoorPyD
import Derived.Lib.SliceRun
import Derived.Test.YtoigpbajefkpoaaGreatDoorPyC
import Derived.Lib.OthersKept
import Derived.Deep.RegionHeld3
import Derived.StillTailTactics
import Derived.StillTail
import Derived.KernelRfl
import Derived.Deep.Cut
set_option linter.unusedVariables false
set_option linter.unusedSimpArgs false
namespace Go.Proofs.YtoigpbajefkpoaaGreatDoor
open Go Go.RowKit

theorem owSLit0 (w : World) (base : Nat) (hb : base ≤ w.heap.size) : OwS (w.alloc (.cells #[] 9)) base (some ⟨w.heap.size, 0, none⟩) 0 0 [] :=
 World.ownsRow_lit (base := base) w #[] 0 hb (by simp [maxLen]) (by simp)
theorem owsBelow {base : Nat} {w0 w w' : World} {A : Option Addr} {c n : Nat} {l : List ByteArray} (hb : Below base w0 w) (hown : OwS w base A c n l) (hg : w.grownBy w' (Value.slice A n c).ownBlock) (hbase : base ≤ w.heap.size) : Below base w0 w' := belowApp hb hown hg hbase

set_option maxRecDepth 100000 in
set_option maxHeartbeats 1000000 in
theorem clone_any (A : Option Addr) (n c B : Nat) (l : List ByteArray) (w : World) (hr : Rd w B 1 A n (l.map sv)) (hB : B ≤ w.heap.size) (hn : n ≤ 1000000) :
  Calls Tryz.prog 34 #[.slice A n c] w fun e w' => ∃ A' c', e = .returned (.slice A' n c') ∧ OwS w' w.heap.size A' c' n l ∧ Below w.heap.size w w' := by
 have hl : l.length = n := by simpa using hr.len1
 cases A with
 | none =>
  have h0 : n = 0 := by
   rcases Nat.eq_zero_or_pos n with h | h
   ·
    exact h
   ·
    obtain ⟨b, o, e, _⟩ := hr.2 h
    cases e
  subst h0
  obtain rfl : l = [] := List.eq_nil_of_length_eq_zero hl
  have hq := Go.Lib.run_eql_slice_nil (P := Tryz.prog) w 22 9 none 0 c 0 0 Tryz.underlying22
  simp only [Option.isNone] at hq
  go_enter Tryz.func34, Tryz.ntmps34
  go_wp2
  go_ret
  exact ⟨none, 0, rfl, World.ownsRow_nil _ _ _ _, Below.refl _ _⟩
 | some a =>
  have hq := Go.Lib.run_eql_slice_nil (P := Tryz.prog) w 22 9 (some a) n c 0 0 Tryz.underlying22
  simp only [Option.isNone] at hq
  go_enter Tryz.func34, Tryz.ntmps34
  repeat (first
   | (at_builtin; refine appS _ rfl (.tmp 5) (.tmp 6) rfl w.heap.size _ 0 0 [] rfl (owSLit0 w _ (Nat.le_refl _)) B (some a) n c l rfl (hr.alloc hB _) (by omega) (by simp) ?_; intro A1 c1 w1 ho1 hg1 _)
   | go_step)
  have hb1 := owsBelow ((Below.refl _ _).alloc (Nat.le_refl _) _) (owSLit0 w _ (Nat.le_refl _)) hg1 (by simp)
  rw [Nat.zero_add, List.nil_append] at ho1
  go_ret
  refine ⟨A1, c1, ?_, ho1, hb1⟩
  first | rfl | simp

set_option maxRecDepth 100000 in
set_option maxHeartbeats 1000000 in
theorem list_any (g : Nat) (X M : Option Nat) (l : List ByteArray) (w : World) (h : ST w g X M l) (hl : l.length ≤ 1000000) :
  Calls Tryz.prog 15 #[.pointer (some ⟨g, 0, none⟩)] w fun e w' => ∃ A' c', e = .returned (.slice A' l.length c') ∧ OwS w' w.heap.size A' c' l.length l ∧ Below w.heap.size w w' := by
 obtain ⟨A, c, hb, ho, hM, hX, hg, hXM⟩ := id h
 have cg := hb.cell 0
 rw [show [Value.slice A l.length c, .map M][0]? = some (Value.slice A l.length c) from rfl] at cg
 have hr : Rd w w.heap.size 1 A l.length (l.map sv) := Rd.ofOwn ho
 have HR := Lib.hid hr
 clear hb ho hM hX hg hXM h hr
 go_enter Tryz.func15, Tryz.ntmps15
 repeat go_step
 refine (clone_any A l.length c w.heap.size l w HR.out (Nat.le_refl _) hl).mono ?_
 rintro e w1 ⟨A1, c1, rfl, ho1, hb1⟩
 dsimp only
 repeat go_step
 go_ret
 exact ⟨A1, c1, rfl, ho1, hb1⟩

/-! ### A table, in words that hide its fields -/
/-- The program's table at block g holds the names l; F: the blocks that it is made of. -/
def Tb (w : World) (g : Nat) (F : Nat → Prop) (l : List ByteArray) : Prop := ∃ X M, ST w g X M l ∧ F = Fp2 g X M
theorem Tb.turn {G F : Nat → Prop} {w w' : World} {g : Nat} {l : List ByteArray} (h : Tb w g F l) (ht : Turn G w w') (hn : ∀ k, F k → ¬ G k) : Tb w' g F l := by
 obtain ⟨X, M, h1, rfl⟩ := h
 exact ⟨X, M, h1.turn ht hn, rfl⟩
theorem Tb.lt {F : Nat → Prop} {w : World} {g : Nat} {l : List ByteArray} (h : Tb w g F l) : ∀ k, F k → k < w.heap.size := by
 obtain ⟨X, M, h1, rfl⟩ := h
 exact h1.lt
theorem Tb.later {F : Nat → Prop} {w w' : World} {g : Nat} {l : List ByteArray} (h : Tb w g F l) (hb : Below w.heap.size w w') : Tb w' g F l :=
 h.turn (Turn.ofBelow (G := fun _ => False) hb) (fun _ _ h => h)
theorem tNew (w : World) : Calls Tryz.prog 23 #[] w fun e w' => ∃ g F, e = .returned (.pointer (some ⟨g, 0, none⟩)) ∧ Tb w' g F [] ∧ (∀ k, F k → w.heap.size ≤ k) ∧ Below w.heap.size w w' := by
 refine (new_tab w).mono ?_
 rintro e w' ⟨g, rfl, hg, h, hb⟩
 refine ⟨g, _, rfl, ⟨none, none, h, rfl⟩, ?_, hb⟩
 rintro k (rfl | hk | hk)
 ·
  exact hg
 ·
  cases hk
 ·
  cases hk
theorem tPut (g : Nat) (F : Nat → Prop) (l : List ByteArray) (s : ByteArray) (w : World) (h : Tb w g F l) (hl : l.length ≤ 1000000) (hs : s.size ≤ 1099511627776)
  (hmay : ∀ W : World, Calls Tryz.prog 43 #[sv s] W fun e w' => e = .returned (.bool (mayB s)) ∧ W = w') :
  Calls Tryz.prog 24 #[.pointer (some ⟨g, 0, none⟩), sv s] w fun e w' => e = .returned (.tuple #[.int .u32 ((putL l s).2.1 : Int), .int .i64 ((putL l s).2.2 : Int)]) ∧
   ∃ F', Tb w' g F' (putL l s).1 ∧ Turn F w w' ∧ ∀ k, F' k → F k ∨ w.heap.size ≤ k := by
 obtain ⟨X, M, h1, rfl⟩ := h
 refine (put_any g X M l s w h1 hl hs hmay).mono ?_
 rintro e w' ⟨rfl, X', M', h2, h3, h4, h5⟩
 refine ⟨rfl, _, ⟨X', M', h2, rfl⟩, h3, ?_⟩
 rintro k (rfl | hk | hk)
 ·
  exact .inl (.inl rfl)
 ·
  rcases h4 k hk with h | h
  ·
   exact .inl (.inr (.inl h))
  ·
   exact .inr h
 ·
  rcases h5 k hk with h | h
  ·
   exact .inl (.inr (.inr h))
  ·
   exact .inr h
theorem tFind (g : Nat) (F : Nat → Prop) (l : List ByteArray) (s : ByteArray) (w : World) (h : Tb w g F l) (hs : s.size ≤ maxLen) :
  Calls Tryz.prog 26 #[.pointer (some ⟨g, 0, none⟩), sv s] w fun e w' => e = .returned (.tuple #[.int .u32 (((findO l s).getD 0 : Nat) : Int), .bool (findO l s).isSome]) ∧ w = w' := by
 obtain ⟨X, M, h1, rfl⟩ := h
 exact find_any g X M l s w h1 hs
theorem tName (g : Nat) (F : Nat → Prop) (l : List ByteArray) (n : Nat) (w : World) (h : Tb w g F l) (hn : n < 4294967296) :
  Calls Tryz.prog 128 #[.pointer (some ⟨g, 0, none⟩), .int .u32 (n : Int)] w fun e w' => e = .returned (.tuple #[sv (l.getD n ⟨#[]⟩), .bool (decide (n < l.length))]) ∧ w = w' := by
 obtain ⟨X, M, h1, rfl⟩ := h
 exact name_any g X M l n w h1 hn
theorem tLen (g : Nat) (F : Nat → Prop) (l : List ByteArray) (w : World) (h : Tb w g F l) :
  Calls Tryz.prog 19 #[.pointer (some ⟨g, 0, none⟩)] w fun e w' => e = .returned (.int .i64 (l.length : Int)) ∧ w = w' := by
 obtain ⟨X, M, h1, rfl⟩ := h
 exact len_any g X M l w h1
theorem tList (g : Nat) (F : Nat → Prop) (l : List ByteArray) (w : World) (h : Tb w g F l) (hl : l.length ≤ 1000000) :
  Calls Tryz.prog 15 #[.pointer (some ⟨g, 0, none⟩)] w fun e w' => ∃ A' c', e = .returned (.slice A' l.length c') ∧ OwS w' w.heap.size A' c' l.length l ∧ Below w.heap.size w w' := by
 obtain ⟨X, M, h1, rfl⟩ := h
 exact list_any g X M l w h1 hl
end Go.Proofs.YtoigpbajefkpoaaGreatDoor

set_option linter.unusedVariables false
set_option linter.unusedSimpArgs false
namespace Go.Proofs.YtoigpbajefkpoaaGreatDoor
open Go Go.RowKit

/-- What is asked of the program's May. -/
def MayOk : Prop := ∀ (s : ByteArray) (W : World), s.size ≤ 1099511627776 → Calls Tryz.prog 43 #[sv s] W fun e w' => e = .returned (.bool (mayB s)) ∧ W = w'
/-- Put into a table that is of the call's own. -/
theorem tPut' (hmay : MayOk) (g : Nat) (F : Nat → Prop) (l : List ByteArray) (s : ByteArray) (B : Nat) (w : World) (h : Tb w g F l) (hB : ∀ k, F k → B ≤ k) (hBw : B ≤ w.heap.size) (hl : l.length ≤ 1000000) (hs : s.size ≤ 1099511627776)
    (l' : List ByteArray) (n e : Nat) (hp : putL l s = (l', n, e)) :
    Calls Tryz.prog 24 #[.pointer (some ⟨g, 0, none⟩), sv s] w fun r w' => r = .returned (.tuple #[.int .u32 (n : Int), .int .i64 (e : Int)]) ∧
      ∃ F', Tb w' g F' l' ∧ (∀ k, F' k → B ≤ k) ∧ Below B w w' := by
  refine (tPut g F l s w h hl hs (fun W => hmay s W hs)).mono ?_
  rintro r w' ⟨rfl, F', h1, h2, h3⟩
  rw [hp] at h1 ⊢
  refine ⟨rfl, F', h1, fun k hk => ?_, h2.below (fun k _ hk => hB k hk) hBw⟩
  rcases h3 k hk with h | h
  · exact hB k h
  · omega
set_option maxRecDepth 100000 in
set_option maxHeartbeats 1000000 in
theorem tOf (hmay : MayOk) (A : Option Addr) (n c : Nat) (l : List ByteArray) (w : World) (hr : Rd w w.heap.size 1 A n (l.map sv)) (hn : n ≤ 100000) (hs : ∀ s ∈ l, s.size ≤ 1099511627776) :
    Calls Tryz.prog 28 #[.slice A n c] w fun e w' => Below w.heap.size w w' ∧
      (((ofL [] l).2 = 0 ∧ ∃ g F, e = .returned (.tuple #[.pointer (some ⟨g, 0, none⟩), .int .i64 0]) ∧ Tb w' g F (ofL [] l).1 ∧ ∀ k, F k → w.heap.size ≤ k) ∨
       ((ofL [] l).2 ≠ 0 ∧ e = .returned (.tuple #[.pointer none, .int .i64 ((ofL [] l).2 : Int)]))) := by
  have hl : l.length = n := by simpa using hr.len1
  have HL := Lib.hid hl
  have HR := Lib.hid hr
  have HS := Lib.hid hs
  clear hr hl hs
  go_enter Tryz.func28, Tryz.ntmps28
  repeat go_step
  refine (tNew w).mono ?_
  rintro e W0 ⟨g, F0, rfl, h0, hF0, hb0⟩
  dsimp only
  repeat go_step
  go_loopw [12] (fun p wr => ∃ (i : Nat) (F : Nat → Prop) (acc : List ByteArray), i ≤ n ∧ p = .int .i64 (i : Int) ∧ acc.length ≤ i ∧ ofL [] l = ofL acc (l.drop i) ∧ Tb wr g F acc ∧ (∀ k, F k → w.heap.size ≤ k) ∧ Below w.heap.size w wr)
    (fun p _ => n - (intOf p).toNat)
  case atStart => exact ⟨0, F0, [], by omega, rfl, by simp, rfl, h0, hF0, hb0⟩
  case round =>
    clear h0 hF0 hb0
    obtain ⟨i, F, acc, hi, rfl, hacc, hof, hrt, hX, hbw⟩ := hrel
    by_cases hlt : i < n
    · have hci : (i : Int) < (n : Int) := by omega
      obtain ⟨b, o, u, hA, hbb, hu, hc⟩ := (HR.out.below hbw).at1 hlt
      subst hA
      obtain ⟨s, hx⟩ : ∃ s, l[i]? = some s := ⟨_, List.getElem?_eq_getElem (by have := HL.out; omega)⟩
      rw [List.getElem?_map, hx] at hu
      simp only [Option.map_some, Option.some.injEq] at hu
      subst hu
      have hsz := HS.out s (List.mem_of_getElem? hx)
      have hd : l.drop i = s :: l.drop (i + 1) := by
        rw [List.drop_eq_getElem_cons (by have := HL.out; omega)]
        congr 1
        exact (List.getElem?_eq_some_iff.1 hx).2
      rw [hd, ofL] at hof
      have hlen := putL_len acc s
      obtain ⟨q, hq⟩ : ∃ q, putL acc s = q := ⟨_, rfl⟩
      obtain ⟨acc1, num, err⟩ := q
      rw [hq] at hof hlen
      have HQ := Lib.hid hq
      have HOF := Lib.hid hof
      have HX := Lib.hid hX
      dsimp only at hlen
      clear hx hd hof hX hq
      repeat go_step
      refine (tPut' hmay g F acc s w.heap.size wr hrt HX.out hbw.size (by omega) hsz _ _ _ HQ.out).mono ?_
      rintro e w1 ⟨rfl, F1, hrt1, hF1, hb1⟩
      have hbw1 := hbw.trans hb1
      have HX1 := Lib.hid hF1
      have hof2 := HOF.out
      dsimp only at hof2
      have HO2 := Lib.hid hof2
      clear hrt hb1 hF1 hbw hc hof2 HOF HQ
      dsimp only
      by_cases he : err = 0
      · subst he
        have hof3 := HO2.out
        rw [if_pos rfl] at hof3
        have HO3 := Lib.hid hof3
        clear hof3
        go_wp2
        go_roundw
        case rel => exact ⟨i + 1, F1, acc1, by omega, by go_num, by omega, HO3.out, hrt1, HX1.out, hbw1⟩
        case measure => simp [intOf]; omega
      · have hof3 := HO2.out
        rw [if_neg he] at hof3
        have HO3 := Lib.hid hof3
        have hne : ((err : Int) != 0) = true := by simp; omega
        have HE := Lib.hid he
        clear hof3 he
        go_wp2
        go_ret2
        exact ⟨hbw1, .inr ⟨by rw [HO3.out]; exact HE.out, by rw [HO3.out]; rfl⟩⟩
    · obtain rfl : n = i := by omega
      rw [List.drop_of_length_le (by have := HL.out; omega), ofL] at hof
      have HOF := Lib.hid hof
      have HX := Lib.hid hX
      clear hof hX
      go_wp2
      go_ret2
      exact ⟨hbw, .inl ⟨by rw [HOF.out], g, F, rfl, by rw [HOF.out]; exact hrt, HX.out⟩⟩
end Go.Proofs.YtoigpbajefkpoaaGreatDoor

set_option linter.unusedVariables false
set_option linter.unusedSimpArgs false
namespace Go.Proofs.YtoigpbajefkpoaaGreatDoor
open Go Go.RowKit

/-- The parser's fields as they lie in memory. -/
abbrev pzC (AW : Option Addr) (nW cW k sz : Nat) (AN : Option Addr) (nN cN : Nat) (AV : Option Addr) (nV cV e a : Nat) : List Value :=
 [.slice AW nW cW, .int .i64 (k : Int), .int .i64 (sz : Int), .slice AN nN cN, .slice AV nV cV, .int .i64 (e : Int), .int .i64 (a : Int)]
abbrev PT : TypeId := 83
section
variable {AW : Option Addr} {nW cW k sz : Nat} {AN : Option Addr} {nN cN : Nat} {AV : Option Addr} {nV cV e0 a0 : Nat} {g : Nat}
theorem own_far {w : World} {base : Nat} {e T : TypeId} {s n : Nat} {v : Value} {xs cs : List Value} (h : w.ownsRow base e s v n xs) (hb : Bk w g T cs) (hT : T ≠ e) : v.ownBlock ≠ some g := by
 rcases h.2 with ⟨rfl, _⟩ | ⟨g', cap, cur, rfl, _, hg, _⟩
 ·
  simp [Value.ownBlock]
 ·
  intro h
  simp only [Value.ownBlock, Option.some.injEq] at h
  subst h
  unfold Bk at hb
  rw [hg] at hb
  simp only [Option.some.injEq, Obj.cells.injEq] at hb
  exact hT hb.2.1.symm
/-- The parser's own block alone turns. -/
abbrev Only (g : Nat) (w w' : World) : Prop := Turn (fun j => j = g) w w'
theorem own_only {w w' : World} {base : Nat} {e T : TypeId} {s n : Nat} {v : Value} {xs cs : List Value} (h : w.ownsRow base e s v n xs) (hb : Bk w g T cs) (hT : T ≠ e) (ht : Only g w w') : w'.ownsRow base e s v n xs :=
 ht.own h fun k hk e => own_far h hb hT (hk.trans (by rw [e]))

end
end Go.Proofs.YtoigpbajefkpoaaGreatDoor

set_option linter.unusedVariables false
set_option linter.unusedSimpArgs false
namespace Go.Proofs.YtoigpbajefkpoaaGreatDoor
open Go Go.RowKit

/-! ### the parser's state -/
abbrev KeptS (g : Nat) (w w' : World) : Prop := Lib.OthersKept 9 (some g) w w'
def stOk (ws : List Wd) (x : Except PE PS) (e a k : Nat) (names vars : List ByteArray) : Prop :=
 match x with
 | .ok s => e = 0 ∧ s = (ws.drop k, names, vars)
 | .error z => e = z.1 ∧ a = z.2 ∧ e ≠ 0
/-- The parser at block g, over the words ws of a text of so many bytes, is in the state x. -/
def PSt (w : World) (base g : Nat) (ws : List Wd) (sz : Nat) (x : Except PE PS) : Prop :=
 ∃ (AW : Option Addr) (nW cW k : Nat) (AN : Option Addr) (nN cN : Nat) (AV : Option Addr) (nV cV e a : Nat) (names vars : List ByteArray),
  base ≤ g ∧ Bk w g PT (pzC AW nW cW k sz AN nN cN AV nV cV e a) ∧ OwV 127 w base AW cW nW ws ∧ OwS w base AN cN nN names ∧ OwS w base AV cV nV vars ∧
   (∀ b, (Value.slice AN nN cN).ownBlock = some b → (Value.slice AV nV cV).ownBlock ≠ some b) ∧ k ≤ nW ∧ nW ≤ 70000 ∧ nN ≤ 5000 ∧ nV ≤ 20 ∧ stOk ws x e a k names vars
theorem only_below {w w' : World} {base g : Nat} (h : Only g w w') (hg : base ≤ g) (hl : g < w.heap.size) : Below base w w' := h.below (fun k _ e => by omega) (by omega)
theorem only_kept {w w' : World} {g : Nat} (h : Only g w w') : KeptS g w w' := fun k o hk hb _ => (h.block k (Array.getElem?_eq_some_iff.1 hk).1 (fun e => hb (by rw [e]))).trans hk
/-- What turns in a step of the parser: nothing below base; else the parser's own block, and rows of strings. -/
structure Kp (base g : Nat) (w w' : World) : Prop where
 below : Below base w w'
 kept : KeptS g w w'
theorem Kp.refl (base g : Nat) (w : World) : Kp base g w w := ⟨Below.refl _ _, Lib.OthersKept.refl _ _ _⟩
theorem Kp.trans {base g : Nat} {a b c : World} (h : Kp base g a b) (k : Kp base g b c) : Kp base g a c := ⟨h.below.trans k.below, h.kept.trans k.kept⟩
theorem Kp.only {base g : Nat} {w w' : World} (h : Only g w w') (hg : base ≤ g) (hl : g < w.heap.size) : Kp base g w w' := ⟨only_below h hg hl, only_kept h⟩
theorem Kp.alloc {base g : Nat} {a b : World} (h : Kp base g a b) (hB : base ≤ b.heap.size) (o : Obj) : Kp base g a (b.alloc o) := ⟨h.below.alloc hB o, h.kept.alloc o⟩
/-- A row of another type that is one's own stays so. -/
theorem Kp.own {base g base' : Nat} {w w' : World} {e : TypeId} {s n : Nat} {v : Value} {xs cs : List Value} (h : Kp base g w w') (ho : w.ownsRow base' e s v n xs) (hb : Bk w g PT cs) (h1 : e ≠ 9) (h2 : e ≠ PT) : w'.ownsRow base' e s v n xs := by
 have hf := own_far ho hb h2.symm
 rcases ho.2 with ⟨rfl, h0⟩ | ⟨g', cap, cur, rfl, hg, hc, h3, h4, h5, h6⟩
 ·
  exact ⟨ho.1, Or.inl ⟨rfl, h0⟩⟩
 ·
  refine ⟨ho.1, Or.inr ⟨g', cap, cur, rfl, hg, ?_, h3, h4, h5, h6⟩⟩
  refine h.kept _ _ hc (fun e => hf (by simpa [Value.ownBlock] using e)) (fun c fz e => ?_)
  simp only [Obj.cells.injEq] at e
  exact h1 e.2.1
section
variable {base g : Nat} {ws : List Wd} {sz : Nat}
theorem PSt.at_ {w : World} {x : Except PE PS} (h : PSt w base g ws sz x) : base ≤ g ∧ g < w.heap.size := by
 obtain ⟨AW, nW, cW, k, AN, nN, cN, AV, nV, cV, e, a, names, vars, hg, hb, _⟩ := h
 exact ⟨hg, hb.lt⟩
theorem PSt.bk {w : World} {x : Except PE PS} (h : PSt w base g ws sz x) : ∃ cs, Bk w g PT cs := by
 obtain ⟨AW, nW, cW, k, AN, nN, cN, AV, nV, cV, e, a, names, vars, hg, hb, _⟩ := h
 exact ⟨_, hb⟩
/-- Behind what turns the parser's own block alone. -/
theorem mkSt {w w' : World} {x : Except PE PS} {AW : Option Addr} {nW cW k : Nat} {AN : Option Addr} {nN cN : Nat} {AV : Option Addr} {nV cV e a : Nat} {names vars : List ByteArray} {cs : List Value}
  (hg : base ≤ g) (hb0 : Bk w g PT cs) (hb : Bk w' g PT (pzC AW nW cW k sz AN nN cN AV nV cV e a)) (hw : OwV 127 w base AW cW nW ws) (hn : OwS w base AN cN nN names) (hv : OwS w base AV cV nV vars)
  (hne : ∀ b, (Value.slice AN nN cN).ownBlock = some b → (Value.slice AV nV cV).ownBlock ≠ some b) (hk : k ≤ nW) (hW : nW ≤ 70000) (hN : nN ≤ 5000) (hV : nV ≤ 20) (ht : Only g w w') (hs : stOk ws x e a k names vars) : PSt w' base g ws sz x :=
 ⟨AW, nW, cW, k, AN, nN, cN, AV, nV, cV, e, a, names, vars, hg, hb, own_only hw hb0 (by decide) ht, own_only hn hb0 (by decide) ht, own_only hv hb0 (by decide) ht, hne, hk, hW, hN, hV, hs⟩
end
theorem sInfo : (Tryz.prog.info? 9).map (fun i => (i.zero, i.size, i.bytes)) = some (some (.string ⟨#[]⟩), 1, 16) := by kernel_rfl
theorem run_litS (s : ByteArray) (w : World) : (Instr.buildSlice 22 1 #[(0, sv s)]).run Tryz.prog w = .ok (.slice (some ⟨w.heap.size, 0, none⟩) 1 1) (w.alloc (.cells #[sv s] 9)) := by
 obtain ⟨i0, hi, hz0, hz1, hz2⟩ := info_parts sInfo
 simp [Instr.buildSlice, run_underlying Tryz.underlying22, sizeOf, typeInfo, zeroValue, hi, hz0, hz1, newRow, Instr.fill]
 kernel_rfl
/-- 'l = append(l, s)', over strings, in a region of any order. -/
theorem anyd_appS {ops : Array Oper} {E : Prop} {o : Oper} {a : Act} {K : Act → World → Prop} {Q : Exit → Act → World → Prop} {w : World} (hwant : Region.wanted o (yielded ops a.tmps) = true) (p x : Operand)
  (ho : o.op = .call { callee := .builtin .append, args := #[p, x], argTypes := #[22, 22] })
  (base : Nat) (A0 : Option Addr) (c0 n : Nat) (l : List ByteArray) (hv : a.eval p = .slice A0 n c0) (hown : OwS w base A0 c0 n l)
  (B : Nat) (A : Option Addr) (c : Nat) (s : ByteArray) (hx : a.eval x = .slice A 1 c) (hr : Rd w B 1 A 1 [sv s]) (hb : n ≤ 1000000) (hbase : base ≤ w.heap.size)
  (h : ∀ A' c' w', OwS w' base A' c' (n + 1) (l ++ [s]) → w.grownBy w' (Value.slice A0 n c0).ownBlock → ((Value.slice A' (n + 1) c').ownBlock = (Value.slice A0 n c0).ownBlock ∨ (Value.slice A' (n + 1) c').ownBlock = some w.heap.size) → K (a.put o.dst (.slice A' (n + 1) c')) w') : if Region.wanted o (yielded ops a.tmps) = true then Oper.wp Tryz.prog o a w K Q else E := by
 rw [if_pos hwant]
 obtain ⟨i0, hi, hz0, hz1, hz2⟩ := info_parts sInfo
 refine wp_app w p x 22 ho base 9 i0 _ 1 16 Tryz.underlying22 hi hz0 hz1 hz2 rfl (by decide) _ n _ hv hown B A 1 c _ hx hr (by simp [Value.oneCell']) (by simp only [maxLen]; omega) (by omega) hbase ?_
 intro A' c' w' h1 h2 h3
 exact h A' c' w' (by show World.ownsRow _ _ _ _ _ _ _; rw [List.map_append]; exact h1) h2 h3
end Go.Proofs.YtoigpbajefkpoaaGreatDoor

set_option linter.unusedVariables false
set_option linter.unusedSimpArgs false
namespace Go.Proofs.YtoigpbajefkpoaaGreatDoor
open Go Go.RowKit

theorem Kp.bk {base g b : Nat} {w w' : World} {T : TypeId} {cs : List Value} (h : Kp base g w w') (hb : Bk w b T cs) (hT : T ≠ 9) (hg : b ≠ g) : Bk w' b T cs :=
 h.kept _ _ hb (fun e => hg (by simpa using e)) (fun c fz e => by simp only [Obj.cells.injEq] at e; exact hT e.2.1)
/-- A block that was made since then may turn. -/
theorem Kp.fresh {base g r : Nat} {w V W : World} (h : Kp base g w V) (ht : Only r V W) (h1 : w.heap.size ≤ r) (h2 : base ≤ r) (h3 : r < V.heap.size) : Kp base g w W :=
 ⟨h.below.trans (only_below ht h2 h3), fun k o hk hb ho => by
  have hl : k < w.heap.size := (Array.getElem?_eq_some_iff.1 hk).1
  have h4 := h.kept k o hk hb ho
  exact (ht.block k (Array.getElem?_eq_some_iff.1 h4).1 (by omega)).trans h4⟩
theorem PSt.far {base g r sz : Nat} {ws : List Wd} {w w' : World} {x : Except PE PS} {T : TypeId} {cs : List Value} (h : PSt w base g ws sz x) (hb : Bk w r T cs) (h1 : T ≠ PT) (h2 : T ≠ 9) (h3 : T ≠ 127) (ht : Only r w w') : PSt w' base g ws sz x := by
 obtain ⟨AW, nW, cW, k, AN, nN, cN, AV, nV, cV, e0, a0, names, vars, hg, hbg, hw, hn, hv, hne, rest⟩ := h
 have hgr : g ≠ r := by
  rintro rfl
  unfold Bk at hb hbg
  rw [hbg] at hb
  simp only [Option.some.injEq, Obj.cells.injEq] at hb
  exact h1 hb.2.1.symm
 exact ⟨AW, nW, cW, k, AN, nN, cN, AV, nV, cV, e0, a0, names, vars, hg, ht.bk hbg hgr, own_only hw hb h3 ht, own_only hn hb h2 ht, own_only hv hb h2 ht, hne, rest⟩
theorem PSt.later {base g sz : Nat} {ws : List Wd} {w w' : World} {x : Except PE PS} (h : PSt w base g ws sz x) (hb : Below w.heap.size w w') : PSt w' base g ws sz x := by
 obtain ⟨AW, nW, cW, k, AN, nN, cN, AV, nV, cV, e0, a0, names, vars, hg, hbg, hw, hn, hv, hne, rest⟩ := h
 exact ⟨AW, nW, cW, k, AN, nN, cN, AV, nV, cV, e0, a0, names, vars, hg, hbg.later hb, ownBelow hw hb (Nat.le_refl _), ownBelow hn hb (Nat.le_refl _), ownBelow hv hb (Nat.le_refl _), hne, rest⟩
end Go.Proofs.YtoigpbajefkpoaaGreatDoor

set_option linter.unusedVariables false
set_option linter.unusedSimpArgs false
namespace Go.Proofs.YtoigpbajefkpoaaGreatDoor
open Go Go.RowKit

section
variable {base g sz : Nat} {ws : List Wd} {w : World} {x : Except PE PS}
theorem PSt.err (h : PSt w base g ws sz x) : ∃ e0 : Nat, w.cell? ⟨g, 5, none⟩ = some (.int .i64 (e0 : Int)) ∧ (∀ s, x = .ok s → e0 = 0) ∧ (∀ z, x = .error z → e0 ≠ 0) := by
 obtain ⟨AW, nW, cW, k, AN, nN, cN, AV, nV, cV, e0, a0, names, vars, hg, hb, hw, hn, hv, hne, hk, hW, hN, hV, hst⟩ := h
 refine ⟨e0, hb.cell 5, ?_, ?_⟩
 ·
  rintro s rfl
  exact hst.1
 ·
  rintro z rfl
  exact hst.2.2
theorem PSt.step (h : PSt w base g ws sz x) : ∃ k : Nat, w.cell? ⟨g, 1, none⟩ = some (.int .i64 (k : Int)) ∧ w.frozen? ⟨g, 1, none⟩ = false ∧ k ≤ 70000 ∧
  ∀ s, x = .ok s → s.1 ≠ [] → PSt (w.setCell ⟨g, 1, none⟩ (.int .i64 ((k : Int) + 1))) base g ws sz (.ok (nextE s)) ∧ Kp base g w (w.setCell ⟨g, 1, none⟩ (.int .i64 ((k : Int) + 1))) := by
 obtain ⟨AW, nW, cW, k, AN, nN, cN, AV, nV, cV, e0, a0, names, vars, hg, hb, hw, hn, hv, hne, hk, hW, hN, hV, hst⟩ := h
 refine ⟨k, hb.cell 1, hb.frozen 1, by omega, ?_⟩
 rintro s rfl hs
 obtain ⟨rfl, rfl⟩ := hst
 have ht : Only g w (w.setCell ⟨g, 1, none⟩ (.int .i64 ((k : Int) + 1))) := Turn.setCell (G := fun j => j = g) (Turn.refl _ w) (fun _ => rfl) _
 have hlt : k < nW := by
  by_cases h : k < nW
  ·
   exact h
  ·
   exact absurd (List.drop_of_length_le (by rw [rdV_len (OwV.rd hw)]; omega)) hs
 refine ⟨mkSt hg hb (hb.set_ 1 _) hw hn hv hne (show k + 1 ≤ nW by omega) hW hN hV ht ⟨rfl, ?_⟩, Kp.only ht hg hb.lt⟩
 show ((ws.drop k).tail, names, vars) = _
 rw [List.tail_drop]
theorem PSt.text (h : PSt w base g ws sz x) : base ≤ w.heap.size := by
 have := h.at_
 omega

end
end Go.Proofs.YtoigpbajefkpoaaGreatDoor

