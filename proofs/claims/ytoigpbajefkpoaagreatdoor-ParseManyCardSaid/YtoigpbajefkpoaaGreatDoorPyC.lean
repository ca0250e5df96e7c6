/- Texts, packed: SyB SyG AtA PaA PaM PaN SyC -/
import Derived.Test.YtoigpbajefkpoaaGreatDoorPyB
import Derived.Test.YtoigpbajefkpoaaGreatDoorPyA
import Derived.Test.YtoigpbajefkpoaaGreatDoorChecked
import Derived.Orders
import Derived.RegionTactic
set_option linter.unusedVariables false
set_option linter.unusedSimpArgs false
namespace Go.Proofs.YtoigpbajefkpoaaGreatDoor
open Go Go.RowKit

theorem putL_len (l : List ByteArray) (s : ByteArray) : (putL l s).1.length ≤ l.length + 1 := by
  unfold putL
  split
  · simp
  · split
    · simp
    · split <;> simp

set_option maxRecDepth 100000 in
set_option maxHeartbeats 1000000 in
theorem rPut_any (g : Nat) (X : Option Nat) (l : List ByteArray) (s : ByteArray) (w : World) (h : RT w g X l) (hl : l.length ≤ 1000000) (hs : s.size ≤ 1099511627776) :
    Calls Tryz.prog 70 #[.pointer (some ⟨g, 0, none⟩), sv s] w fun e w' => e = .returned (.tuple #[.int .u32 ((putL l s).2.1 : Int), .int .i64 ((putL l s).2.2 : Int)]) ∧
      ∃ X', RT w' g X' (putL l s).1 ∧ Turn (Fp1 g X) w w' ∧ ∀ k, X' = some k → X = some k ∨ w.heap.size ≤ k := by
  have hstay : ∀ n e : Nat, putL l s = (l, n, e) → ∃ X', RT w g X' (putL l s).1 ∧ Turn (Fp1 g X) w w ∧ ∀ k, X' = some k → X = some k ∨ w.heap.size ≤ k := fun n e he => ⟨X, by rw [he]; exact h, Turn.refl _ _, fun k hk => .inl hk⟩
  have HSTAY := Lib.hid hstay
  clear hstay
  by_cases hm : mayB s = false
  · have hp : putL l s = (l, 0, 8) := by unfold putL; rw [if_pos hm]
    have HP := Lib.hid hp
    go_enter Tryz.func70, Tryz.ntmps70
    repeat go_step
    refine (rMay_any s w hs).mono ?_
    rintro e w1 ⟨rfl, rfl⟩
    rw [hm]
    dsimp only
    go_wp2
    go_ret2
    exact ⟨by rw [HP.out]; rfl, HSTAY.out _ _ HP.out⟩
  · have hm1 : mayB s = true := by simpa using hm
    cases hf : findO l s with
    | some k =>
      have hk := findO_lt hf
      have hp : putL l s = (l, k, 0) := by unfold putL; rw [if_neg hm, hf]
      have HP := Lib.hid hp
      have hz : findZ l s = (k : Int) := by unfold findZ; rw [hf]
      clear hf hp
      go_enter Tryz.func70, Tryz.ntmps70
      repeat go_step
      refine (rMay_any s w hs).mono ?_
      rintro e w1 ⟨rfl, rfl⟩
      rw [hm1]
      dsimp only
      repeat go_step
      refine (rFind_any g X l s w h hl).mono ?_
      rintro e w1 ⟨rfl, rfl⟩
      rw [hz]
      dsimp only
      go_wp2
      go_ret2
      exact ⟨by rw [HP.out]; rfl, HSTAY.out _ _ HP.out⟩
    | none =>
      have hz : findZ l s = -1 := by unfold findZ; rw [hf]
      obtain ⟨A, c, hb, ho, hX, hg⟩ := id h
      have cg := hb.cell 0
      rw [show [Value.slice A l.length c][0]? = some (Value.slice A l.length c) from rfl] at cg
      by_cases hbig : 4096 ≤ l.length
      · have hp : putL l s = (l, 0, 6) := by unfold putL; rw [if_neg hm, hf]; simp [hbig]
        have HP := Lib.hid hp
        have hd : decide ((4096 : Int) ≤ (l.length : Int)) = true := by simp; omega
        clear hf hp
        go_enter Tryz.func70, Tryz.ntmps70
        repeat go_step
        refine (rMay_any s w hs).mono ?_
        rintro e w1 ⟨rfl, rfl⟩
        rw [hm1]
        dsimp only
        repeat go_step
        refine (rFind_any g X l s w h hl).mono ?_
        rintro e w1 ⟨rfl, rfl⟩
        rw [hz]
        dsimp only
        clear hb ho hX hg h
        go_wp2
        go_ret2
        exact ⟨by rw [HP.out]; rfl, HSTAY.out _ _ HP.out⟩
      · have hp : putL l s = (l ++ [s], l.length, 0) := by unfold putL; rw [if_neg hm, hf]; simp [hbig]
        have HP := Lib.hid hp
        have hd : decide ((4096 : Int) ≤ (l.length : Int)) = false := by simp; omega
        have hgl := hb.lt
        have HB := Lib.hid hb
        have HO := Lib.hid ho
        have HX := Lib.hid hX
        have HG := Lib.hid hg
        clear hf hp hb ho hX hg
        go_enter Tryz.func70, Tryz.ntmps70
        repeat go_step
        refine (rMay_any s w hs).mono ?_
        rintro e w1 ⟨rfl, rfl⟩
        rw [hm1]
        dsimp only
        repeat go_step
        refine (rFind_any g X l s w h hl).mono ?_
        rintro e w1 ⟨rfl, rfl⟩
        rw [hz]
        dsimp only
        clear h
        repeat (first
          | (at_builtin; refine appS _ rfl (.tmp 27) (.tmp 29) rfl 0 A c l.length l rfl (World.ownsRow.alloc HO.out _) (w.heap.size + 1) (some ⟨w.heap.size, 0, none⟩) 1 1 [s] rfl (rdS1 w s) (by omega) (Nat.zero_le _) ?_
             intro A1 c1 w1 ho1 hg1 hk1
             have ht1 : Turn (Fp1 g X) w w1 := ((Turn.refl _ w).alloc _).then_ (Turn.ofGrown (G := fun k => some k = X) hg1 (fun k hk => by rw [HX.out]; exact hk.symm)) (fun k _ hk => .inr hk.symm)
             have hb1 : Bk w1 g 113 [.slice A l.length c] := (Turn.ofGrown (G := fun k => some k = X) hg1 (fun k hk => by rw [HX.out]; exact hk.symm)).bk (HB.out.alloc _) (fun e => HG.out e.symm)
             have cg1 := hb1.cell 0
             rw [show [Value.slice A l.length c][0]? = some (Value.slice A l.length c) from rfl] at cg1
             have fg1 := hb1.frozen 0
             have cg2 := (hb1.set_ 0 (.slice A1 (l.length + 1) c1)).cell 0
             rw [show ([Value.slice A l.length c].set 0 (.slice A1 (l.length + 1) c1))[0]? = some (.slice A1 (l.length + 1) c1) from rfl] at cg2)
          | go_step)
        go_ret2
        have hX1 : (Value.slice A1 (l.length + 1) c1).ownBlock ≠ some g := by
          rcases hk1 with e | e
          · rw [e, ← HX.out]
            exact HG.out
          · rw [e]
            simp
            omega
        refine ⟨by rw [HP.out]; first | rfl | (congr 3; simp), (Value.slice A1 (l.length + 1) c1).ownBlock, ?_, ht1.setCell (fun _ => .inl rfl) _, fun k hk => ?_⟩
        · rw [HP.out]
          refine ⟨A1, c1, by simpa using hb1.set_ 0 (.slice A1 (l.length + 1) c1), ?_, by simp, hX1⟩
          have hT : Turn (fun k => k = g) w1 (w1.setCell ⟨g, 0, none⟩ (.slice A1 (l.length + 1) c1)) := Turn.setCell (Turn.refl (fun k => k = g) w1) (p := ⟨g, 0, none⟩) (fun _ => rfl) _
          have := hT.own ho1 (fun k hk e => hX1 (by rw [hk, e]))
          simpa [OwS] using this
        · rcases hk1 with e | e
          · rw [hk, ← HX.out] at e
            exact .inl e.symm
          · rw [hk] at e
            simp only [Option.some.injEq] at e
            refine .inr ?_
            rw [e]
            simp

def ofL : List ByteArray → List ByteArray → List ByteArray × Nat
  | acc, [] => (acc, 0)
  | acc, s :: r => if (putL acc s).2.2 = 0 then ofL (putL acc s).1 r else ([], (putL acc s).2.2)

set_option maxRecDepth 100000 in
set_option maxHeartbeats 1000000 in
theorem rOf_any (A : Option Addr) (n c : Nat) (l : List ByteArray) (w : World) (hr : Rd w w.heap.size 1 A n (l.map sv)) (hn : n ≤ 100000) (hs : ∀ s ∈ l, s.size ≤ 1099511627776) :
    Calls Tryz.prog 46 #[.slice A n c] w fun e w' => Below w.heap.size w w' ∧
      (((ofL [] l).2 = 0 ∧ ∃ X, e = .returned (.tuple #[.pointer (some ⟨w.heap.size, 0, none⟩), .int .i64 0]) ∧ RT w' w.heap.size X (ofL [] l).1 ∧ ∀ k, X = some k → w.heap.size ≤ k) ∨
       ((ofL [] l).2 ≠ 0 ∧ e = .returned (.tuple #[.pointer none, .int .i64 ((ofL [] l).2 : Int)]))) := by
  have hl : l.length = n := by simpa using hr.len1
  have HL := Lib.hid hl
  have HR := Lib.hid hr
  have HS := Lib.hid hs
  clear hr hl hs
  obtain ⟨W0, hW0, hb0, hbw0⟩ : ∃ W0, W0 = w.alloc (.cells #[.slice none 0 0] 113) ∧ Bk W0 w.heap.size 113 [.slice none 0 0] ∧ Below w.heap.size w W0 :=
    ⟨_, rfl, Bk.new w _ _, (Below.refl _ _).alloc (Nat.le_refl _) _⟩
  have HW0 := Lib.hid hW0
  have hRT : RT W0 w.heap.size none [] := ⟨none, 0, hb0, World.ownsRow_nil _ _ _ _, rfl, by simp⟩
  clear hW0 hb0
  go_enter Tryz.func46, Tryz.ntmps46
  repeat go_step
  rw [← HW0.out]
  go_loopw [5] (fun p wr => ∃ (i : Nat) (X : Option Nat) (acc : List ByteArray), i ≤ n ∧ p = .int .i64 (i : Int) ∧ acc.length ≤ i ∧ ofL [] l = ofL acc (l.drop i) ∧ RT wr w.heap.size X acc ∧ (∀ k, X = some k → w.heap.size ≤ k) ∧ Below w.heap.size w wr)
    (fun p _ => n - (intOf p).toNat)
  case atStart => exact ⟨0, none, [], by omega, rfl, by simp, rfl, hRT, by simp, hbw0⟩
  case round =>
    clear hRT hbw0
    obtain ⟨i, X, acc, hi, rfl, hacc, hof, hrt, hX, hbw⟩ := hrel
    by_cases hlt : i < n
    · have hci : (i : Int) < (n : Int) := by omega
      obtain ⟨b, o, u, hA, hbb, hu, hc⟩ := (HR.out.below hbw).at1 hlt
      subst hA
      obtain ⟨s, hx⟩ : ∃ s, l[i]? = some s := ⟨_, List.getElem?_eq_getElem (by have := HL.out; omega)⟩
      rw [List.getElem?_map, hx] at hu
      simp only [Option.map_some, Option.some.injEq] at hu
      subst hu
      have hsz := HS.out s (List.mem_of_getElem? hx)
      have hd : l.drop i = s :: l.drop (i + 1) := by
        rw [List.drop_eq_getElem_cons (by have := HL.out; omega)]
        congr 1
        exact (List.getElem?_eq_some_iff.1 hx).2
      rw [hd, ofL] at hof
      have HOF := Lib.hid hof
      have HX := Lib.hid hX
      clear hx hd hof hX
      repeat go_step
      refine (rPut_any w.heap.size X acc s wr hrt (by omega) hsz).mono ?_
      rintro e w1 ⟨rfl, X1, hrt1, ht1, hx1⟩
      have hbw1 : Below w.heap.size w w1 := hbw.trans (ht1.below (fun k _ hk => by
        rcases hk with rfl | hk
        · exact Nat.le_refl _
        · exact HX.out k hk) hbw.size)
      have hX1 : ∀ k, X1 = some k → w.heap.size ≤ k := fun k hk => by
        rcases hx1 k hk with h | h
        · exact HX.out k h
        · exact Nat.le_trans hbw.size h
      have hlen := putL_len acc s
      have HX1 := Lib.hid hX1
      clear hrt ht1 hx1 hX1 hbw hc
      obtain ⟨q, hq⟩ : ∃ q, putL acc s = q := ⟨_, rfl⟩
      obtain ⟨acc1, num, err⟩ := q
      have hof2 := HOF.out
      rw [hq] at hof2 hrt1 hlen ⊢
      dsimp only at hof2 hrt1 hlen ⊢
      have HO2 := Lib.hid hof2
      clear hof2 hq HOF
      by_cases he : err = 0
      · subst he
        have hof3 := HO2.out
        rw [if_pos rfl] at hof3
        have HO3 := Lib.hid hof3
        clear hof3
        go_wp2
        go_roundw
        case rel => exact ⟨i + 1, X1, acc1, by omega, by go_num, by omega, HO3.out, hrt1, HX1.out, hbw1⟩
        case measure => simp [intOf]; omega
      · have hof3 := HO2.out
        rw [if_neg he] at hof3
        have HO3 := Lib.hid hof3
        have hne : ((err : Int) != 0) = true := by simp; omega
        have HE := Lib.hid he
        clear hof3 he
        go_wp2
        go_ret2
        exact ⟨hbw1, .inr ⟨by rw [HO3.out]; exact HE.out, by rw [HO3.out]; rfl⟩⟩
    · obtain rfl : n = i := by omega
      rw [List.drop_of_length_le (by have := HL.out; omega), ofL] at hof
      have HOF := Lib.hid hof
      have HX := Lib.hid hX
      clear hof hX
      go_wp2
      go_ret2
      exact ⟨hbw, .inl ⟨by rw [HOF.out], X, rfl, by rw [HOF.out]; exact hrt, HX.out⟩⟩
end Go.Proofs.YtoigpbajefkpoaaGreatDoor

set_option linter.unusedVariables false
namespace Go.Proofs.YtoigpbajefkpoaaGreatDoor
open Go Go.RowKit

/-- Names, each once, that may be; no more than so many. -/
structure Good (n : Nat) (l : List ByteArray) : Prop where
 nodup : l.Nodup
 may : ∀ s ∈ l, mayB s = true
 len : l.length ≤ n
theorem Good.nil (n : Nat) : Good n [] := ⟨List.nodup_nil, by simp, by simp⟩
theorem findO_mem {l : List ByteArray} {s : ByteArray} : findO l s = none ↔ s ∉ l := by
 constructor
 ·
  intro h hm
  unfold findO at h
  rw [List.findIdx?_eq_none_iff] at h
  have := h s hm
  simp at this
 ·
  intro h
  exact findO_none fun j x hj e => h (e ▸ List.mem_of_getElem? hj)
theorem findO_get {l : List ByteArray} {s : ByteArray} {k : Nat} (h : findO l s = some k) : l[k]? = some s := by
 unfold findO at h
 rw [List.findIdx?_eq_some_iff_getElem] at h
 obtain ⟨hk, h1, _⟩ := h
 rw [List.getElem?_eq_getElem hk]
 simpa using h1
theorem putL_may {l : List ByteArray} {s : ByteArray} (h : mayB s = false) : putL l s = (l, 0, 8) := by unfold putL; rw [if_pos h]
theorem putL_old {l : List ByteArray} {s : ByteArray} {k : Nat} (h : mayB s = true) (hf : findO l s = some k) : putL l s = (l, k, 0) := by
 unfold putL
 rw [if_neg (by simp [h]), hf]
theorem putL_new {l : List ByteArray} {s : ByteArray} (h : mayB s = true) (hf : findO l s = none) (hl : l.length < 4096) : putL l s = (l ++ [s], l.length, 0) := by
 unfold putL
 rw [if_neg (by simp [h]), hf]
 simp [Nat.not_le.2 hl]
theorem Good.mono {n m : Nat} {l : List ByteArray} (h : Good n l) (hm : n ≤ m) : Good m l := ⟨h.nodup, h.may, Nat.le_trans h.len hm⟩
theorem putL_good {n : Nat} {l : List ByteArray} (s : ByteArray) (h : Good n l) (hn : n < 4096) : Good (n + 1) (putL l s).1 := by
 cases hm : mayB s with
 | false => rw [putL_may hm]; exact h.mono (by omega)
 | true =>
  cases hf : findO l s with
  | some k => rw [putL_old hm hf]; exact h.mono (by omega)
  | none =>
   rw [putL_new hm hf (by have := h.len; omega)]
   refine ⟨?_, ?_, ?_⟩
   ·
    rw [List.nodup_append]
    exact ⟨h.nodup, by simp, fun a ha b hb e => findO_mem.1 hf (by simp at hb; rw [← hb, ← e]; exact ha)⟩
   ·
    intro x hx
    rcases List.mem_append.1 hx with h1 | h1
    ·
     exact h.may x h1
    ·
     simp at h1
     rw [h1]
     exact hm
   ·
    simp
    have := h.len
    omega
end Go.Proofs.YtoigpbajefkpoaaGreatDoor

set_option linter.unusedVariables false
set_option linter.unusedSimpArgs false
namespace Go.Proofs.YtoigpbajefkpoaaGreatDoor
open Go Go.RowKit

/-- A term: is it a variable? its number. -/
abbrev Tm := Bool × UInt32
abbrev AtL := UInt32 × List Tm
abbrev Li := Bool × AtL
abbrev Cl := AtL × List Li
abbrev nv (x : UInt32) : Value := .int .u32 (x.toNat : Int)
theorem n32_lt (x : UInt32) : x.toNat < 4294967296 := UInt32.toNat_lt x
def tmC (t : Tm) : List Value := [.bool t.1, nv t.2]
def tmCs (l : List Tm) : List Value := l.flatMap tmC
theorem tmCs_cons (t : Tm) (l : List Tm) : tmCs (t :: l) = .bool t.1 :: nv t.2 :: tmCs l := rfl
theorem tmCs_len (l : List Tm) : (tmCs l).length = l.length * 2 := by
 induction l with
 | nil => rfl
 | cons t l ih => rw [tmCs_cons, List.length_cons, List.length_cons, ih, List.length_cons]; omega
theorem tmCs_at {l : List Tm} {i : Nat} {t : Tm} (h : l[i]? = some t) : (tmCs l)[i * 2]? = some (.bool t.1) ∧ (tmCs l)[i * 2 + 1]? = some (nv t.2) := by
 induction l generalizing i with
 | nil => simp at h
 | cons x l ih =>
  rw [tmCs_cons]
  cases i with
  | zero =>
   simp only [List.getElem?_cons_zero, Option.some.injEq] at h
   subst h
   exact ⟨rfl, rfl⟩
  | succ i =>
   rw [List.getElem?_cons_succ] at h
   have := ih h
   rw [show (i + 1) * 2 = i * 2 + 1 + 1 by omega, List.getElem?_cons_succ, List.getElem?_cons_succ, show i * 2 + 1 + 1 + 1 = (i * 2 + 1) + 1 + 1 by omega, List.getElem?_cons_succ, List.getElem?_cons_succ]
   exact this
theorem tmCs_one (l : List Tm) : ∀ u ∈ tmCs l, u.oneCell' = true := by
 intro u hu
 unfold tmCs at hu
 obtain ⟨t, _, ht⟩ := List.mem_flatMap.1 hu
 simp only [tmC, List.mem_cons, List.not_mem_nil, or_false] at ht
 rcases ht with rfl | rfl <;> rfl

section
variable {w w' : World} {B : Nat} {A : Option Addr} {n : Nat}
/-- A slice of terms that is read. -/
abbrev RdT (w : World) (B : Nat) (A : Option Addr) (n : Nat) (l : List Tm) : Prop := Rd w B 2 A n (tmCs l)
abbrev RdU (w : World) (B : Nat) (A : Option Addr) (n : Nat) (l : List UInt32) : Prop := Rd w B 1 A n (l.map nv)
theorem rdT_len {l : List Tm} (h : RdT w B A n l) : l.length = n := by
 have := h.1
 rw [tmCs_len] at this
 omega
theorem rdT_at {l : List Tm} (h : RdT w B A n l) {i : Nat} (hi : i < n) :
  ∃ b o t, A = some ⟨b, o, none⟩ ∧ b < B ∧ l[i]? = some t ∧ w.cell? ⟨b, o + i * 2, none⟩ = some (.bool t.1) ∧ w.cell? ⟨b, o + i * 2 + 1, none⟩ = some (nv t.2) := by
 obtain ⟨b, o, e, hb, hc⟩ := h.2 (by omega)
 have hl := rdT_len h
 have ht : l[i]? = some (l[i]'(by omega)) := List.getElem?_eq_getElem _
 have h2 := tmCs_at ht
 exact ⟨b, o, _, e, hb, ht, hc _ _ h2.1, hc _ _ h2.2⟩
end

/-! ### What the document says -/
def mayA (a : AtL) : Bool := a.2.all (fun t => !t.1 || decide (t.2.toNat < 16)) && decide (a.2.length ≤ 6)
def mayC (c : Cl) : Bool := c.2.all (fun l => mayA l.2) && mayA c.1 && decide (c.2.length ≤ 8)
theorem all_at {α : Type} {l : List α} {f : α → Bool} {i : Nat} {x : α} (h : l[i]? = some x) (hx : f x = false) : l.all f = false := by
 rw [List.all_eq_false]
 exact ⟨x, List.mem_of_getElem? h, by simp [hx]⟩
theorem all_upto {α : Type} {l : List α} {f : α → Bool} {i : Nat} {x : α} (h : l[i]? = some x) (h0 : (l.take i).all f = true) (hx : f x = true) : (l.take (i + 1)).all f = true := by
 rw [List.take_add_one, h]
 simp [h0, hx]
theorem all_whole {α : Type} {l : List α} {f : α → Bool} {i : Nat} (hi : l.length ≤ i) (h0 : (l.take i).all f = true) : l.all f = true := by
 rwa [List.take_of_length_le hi] at h0
end Go.Proofs.YtoigpbajefkpoaaGreatDoor

set_option linter.unusedVariables false
set_option linter.unusedSimpArgs false
namespace Go.Proofs.YtoigpbajefkpoaaGreatDoor
open Go Go.RowKit

/-- Nobody or somebody says an atom; a condition; a rule. -/
abbrev Sy := Bool × Tm × AtL
abbrev Co := Bool × Sy
abbrev Rl := Sy × List Co
def mayS (s : Sy) : Bool := (s.1 || decide (s.2.1 = (false, 0))) && (!s.2.1.1 || decide (s.2.1.2.toNat < 16)) && mayA s.2.2
def mayR (r : Rl) : Bool := r.2.all (fun c => mayS c.2) && mayS r.1 && decide (r.2.length ≤ 8)
end Go.Proofs.YtoigpbajefkpoaaGreatDoor

set_option linter.unusedVariables false
set_option linter.unusedSimpArgs false
namespace Go.Proofs.YtoigpbajefkpoaaGreatDoor
open Go Go.RowKit

/-- What words come; the names; the rule's variables. -/
abbrev PS := List Wd × List ByteArray × List ByteArray
/-- What is wrong, and where. -/
abbrev PE := Nat × Nat
def kindE (l : List Wd) : Nat := match l with | [] => 0 | w :: _ => w.1
def placeE (sz : Nat) (l : List Wd) : Nat := match l with | [] => sz | w :: _ => w.2.2
def txE (l : List Wd) : ByteArray := match l with | [] => ⟨#[]⟩ | w :: _ => ⟨w.2.1.toArray⟩
def bindE {α β : Type} (x : Except PE (α × PS)) (f : α → PS → Except PE (β × PS)) : Except PE (β × PS) := match x with | .ok z => f z.1 z.2 | .error z => .error z
/-- The words behind the first one. -/
abbrev nextE (s : PS) : PS := (s.1.tail, s.2)
def wordE (sz k : Nat) (s : PS) : Except PE (ByteArray × PS) := if kindE s.1 = k then .ok (txE s.1, nextE s) else .error (5, placeE sz s.1)
def nameE (sz : Nat) (s : PS) : Except PE (Nat × PS) :=
 if kindE s.1 = 1 then
  match findO s.2.1 (txE s.1) with
  | some i => .ok (i, nextE s)
  | none => if 4096 ≤ s.2.1.length then .error (6, placeE sz s.1) else .ok (s.2.1.length, (s.1.tail, s.2.1 ++ [txE s.1], s.2.2))
 else .error (5, placeE sz s.1)
def termE (sz : Nat) (s : PS) : Except PE (Tm × PS) :=
 if kindE s.1 = 2 then
  match findO s.2.2 (txE s.1) with
  | some i => .ok ((true, UInt32.ofNat i), nextE s)
  | none => if 16 ≤ s.2.2.length then .error (6, placeE sz s.1) else .ok ((true, UInt32.ofNat s.2.2.length), (s.1.tail, s.2.1, s.2.2 ++ [txE s.1]))
 else bindE (nameE sz s) fun i s1 => .ok ((false, UInt32.ofNat i), s1)
def argsE (sz : Nat) : Nat → List Tm → PS → Except PE (List Tm × PS)
 | 0, _, _ => .error (0, 0)
 | n + 1, acc, s =>
  if acc.length = 6 ∧ (kindE s.1 = 1 ∨ kindE s.1 = 2) then .error (6, placeE sz s.1) else
  bindE (termE sz s) fun t s1 =>
   if kindE s1.1 = 7 then argsE sz n (acc ++ [t]) (nextE s1) else
   bindE (wordE sz 6 s1) fun _ s2 => .ok (acc ++ [t], s2)
def atomE (sz : Nat) (s : PS) : Except PE (AtL × PS) :=
 bindE (nameE sz s) fun p s1 =>
  if kindE s1.1 = 5 then bindE (argsE sz 7 [] (nextE s1)) fun l s2 => .ok ((UInt32.ofNat p, l), s2) else .ok ((UInt32.ofNat p, []), s1)
def sayE (sz : Nat) (s : PS) : Except PE (Sy × PS) :=
 if kindE s.1 = 2 ∨ kindE s.1.tail = 4 then
  bindE (termE sz s) fun t s1 => bindE (wordE sz 4 s1) fun _ s2 => bindE (atomE sz s2) fun a s3 => .ok ((true, t, a), s3)
 else bindE (atomE sz s) fun a s1 => .ok ((false, (false, 0), a), s1)
def condsE (sz : Nat) : Nat → List Co → PS → Except PE (List Co × PS)
 | 0, _, _ => .error (0, 0)
 | n + 1, acc, s =>
  if acc.length = 8 ∧ (kindE s.1 = 3 ∨ kindE s.1 = 1 ∨ kindE s.1 = 2) then .error (6, placeE sz s.1) else
  bindE (sayE sz (if kindE s.1 = 3 then nextE s else s)) fun y s1 =>
   if kindE s1.1 = 7 then condsE sz n (acc ++ [(decide (kindE s.1 = 3), y)]) (nextE s1) else .ok (acc ++ [(decide (kindE s.1 = 3), y)], s1)
def bodyE (sz : Nat) (s : PS) : Except PE (List Co × PS) := if kindE s.1 = 9 then condsE sz 9 [] (nextE s) else .ok ([], s)
def ruleE (sz : Nat) (s : PS) : Except PE (Rl × PS) :=
 bindE (sayE sz (s.1, s.2.1, [])) fun h s1 => bindE (bodyE sz s1) fun b s2 => bindE (wordE sz 8 s2) fun _ s3 => .ok ((h, b), s3)
def rulesE (sz : Nat) : Nat → List Rl → PS → Except PE (List Rl × PS)
 | 0, acc, s => .ok (acc, s)
 | n + 1, acc, s => if s.1 = [] then .ok (acc, s) else bindE (ruleE sz s) fun r s1 => rulesE sz n (acc ++ [r]) s1
/-- The whole answer: the rules, the names behind it, the place, what is wrong. -/
def parseL (names : List ByteArray) (text : List UInt8) : List Rl × List ByteArray × Nat × Nat :=
 match wordsL text with
 | (ws, y, z) =>
  if z ≠ 0 then ([], names, y, z) else
  match rulesE text.length ws.length [] (ws, names, []) with
  | .ok (rs, s) => (rs, s.2.1, 0, 0)
  | .error (e, a) => ([], names, a, e)

/-! ### as a text -/
/-- Is a name a Name as a word? -/
def plainB (s : ByteArray) : Bool := match wordsL (tb s) with | ([w], _, 0) => decide (w.1 = 1 ∧ w.2.1 = tb s) | _ => false
def namedL (names : List ByteArray) (n : Nat) : List UInt8 := match names[n]? with | some s => if plainB s then tb s else [] | none => []
def digitsL (n : Nat) : List UInt8 := if h : n < 10 then [UInt8.ofNat (48 + n)] else digitsL (n / 10) ++ [UInt8.ofNat (48 + n % 10)]
def termL (names : List ByteArray) (t : Tm) : List UInt8 := if t.1 then 88 :: digitsL t.2.toNat else namedL names t.2.toNat
abbrev saysW : List UInt8 := [32, 115, 97, 121, 115, 32]
abbrev notW : List UInt8 := [110, 111, 116, 32]
def argsL (names : List ByteArray) : List Tm → List UInt8
 | [] => []
 | t :: l => 40 :: (termL names t ++ l.flatMap (fun u => [44, 32] ++ termL names u)) ++ [41]
def sayL (names : List ByteArray) (y : Sy) : List UInt8 := (if y.1 then termL names y.2.1 ++ saysW else []) ++ namedL names y.2.2.1.toNat ++ argsL names y.2.2.2
def condL (names : List ByteArray) (c : Co) : List UInt8 := (if c.1 then notW else []) ++ sayL names c.2
def bodyL (names : List ByteArray) : List Co → List UInt8
 | [] => []
 | c :: l => [32, 58, 45, 32] ++ condL names c ++ l.flatMap (fun d => [44, 32] ++ condL names d)
def ruleL (names : List ByteArray) (r : Rl) : List UInt8 := sayL names r.1 ++ bodyL names r.2 ++ [46, 10]
def knownB (names : List ByteArray) (y : Sy) : Bool := decide (namedL names y.2.2.1.toNat ≠ []) && (!y.1 || decide (termL names y.2.1 ≠ [])) && y.2.2.2.all (fun t => decide (termL names t ≠ []))
def knownR (names : List ByteArray) (r : Rl) : Bool := knownB names r.1 && r.2.all (fun c => knownB names c.2)
/-- The text, or what is wrong with the first rule of which something is. -/
def printL (names : List ByteArray) : List Rl → List UInt8 × Nat
 | [] => ([], 0)
 | r :: l => if !mayR r then ([], 8) else if !knownR names r then ([], 4) else
  match (printL names l).2 with
  | 0 => (ruleL names r ++ (printL names l).1, 0)
  | e => ([], e)

/-! ### the variables of a rule, as they come -/
def termsS (y : Sy) : List Tm := (if y.1 then [y.2.1] else []) ++ y.2.2.2
def termsR (r : Rl) : List Tm := termsS r.1 ++ r.2.flatMap (fun c => termsS c.2)
/-- The number of the next variable, behind these terms; none: they don't come so. -/
def comeG : Nat → List Tm → Option Nat
 | k, [] => some k
 | k, t :: l => if t.1 then (if k < t.2.toNat then none else if t.2.toNat = k then comeG (k + 1) l else comeG k l) else comeG k l
def comeR (r : Rl) : Bool := (comeG 0 (termsR r)).isSome
end Go.Proofs.YtoigpbajefkpoaaGreatDoor

set_option linter.unusedVariables false
set_option linter.unusedSimpArgs false
namespace Go.Proofs.YtoigpbajefkpoaaGreatDoor
open Go Go.RowKit

theorem bindE_ok {α β : Type} {x : Except PE (α × PS)} {f : α → PS → Except PE (β × PS)} {y : β × PS} (h : bindE x f = .ok y) : ∃ a s, x = .ok (a, s) ∧ f a s = .ok y := by
 cases x with
 | error z => simp [bindE] at h
 | ok z => exact ⟨z.1, z.2, rfl, h⟩
theorem bindE_of {α β : Type} {x : Except PE (α × PS)} {f : α → PS → Except PE (β × PS)} {a : α} {s : PS} (h : x = .ok (a, s)) : bindE x f = f a s := by rw [h]; rfl
theorem kindE_app {l : List Wd} (h : l ≠ []) (l2 : List Wd) : kindE (l ++ l2) = kindE l := by
 cases l with
 | nil => exact absurd rfl h
 | cons w t => rfl
theorem tail_app {l : List Wd} (h : l ≠ []) (l2 : List Wd) : (l ++ l2).tail = l.tail ++ l2 := by
 cases l with
 | nil => exact absurd rfl h
 | cons w t => rfl
theorem kindE_ne {l : List Wd} {k : Nat} (h : kindE l = k) (hk : k ≠ 0) : l ≠ [] := by
 rintro rfl
 exact hk h.symm
/-- What one word is taken by. -/
def Took1 {α : Type} (f : Nat → PS → Except PE (α × PS)) : Prop :=
 ∀ sz l N V v r N' V', f sz (l, N, V) = .ok (v, (r, N', V')) → ∃ w, l = w :: r ∧ ∀ sz' l2, f sz' (l ++ l2, N, V) = .ok (v, (r ++ l2, N', V'))
/-- What words are taken by: with others behind them the same is taken, if one is left. -/
def Took {α : Type} (f : Nat → PS → Except PE (α × PS)) : Prop :=
 ∀ sz l N V v r N' V', f sz (l, N, V) = .ok (v, (r, N', V')) → (∃ w u, l = w :: (u ++ r)) ∧ (r ≠ [] → ∀ sz' l2, f sz' (l ++ l2, N, V) = .ok (v, (r ++ l2, N', V')))
theorem took_word (k : Nat) (hk : k ≠ 0) : Took1 (fun sz s => wordE sz k s) := by
 intro sz l N V v r N' V' h
 cases l with
 | nil =>
  have : ¬ ((0 : Nat) = k) := fun e => hk e.symm
  simp [wordE, kindE, this] at h
 | cons w t =>
  by_cases hw : w.1 = k
  ·
   simp [wordE, kindE, hw, nextE] at h
   obtain ⟨rfl, rfl, rfl, rfl⟩ := h
   exact ⟨w, rfl, fun sz' l2 => by simp [wordE, kindE, hw, nextE, txE]⟩
  ·
   simp [wordE, kindE, hw] at h
theorem took_name : Took1 nameE := by
 intro sz l N V v r N' V' h
 cases l with
 | nil => simp [nameE, kindE] at h
 | cons w t =>
  by_cases hw : w.1 = 1
  ·
   cases hf : findO N ⟨w.2.1.toArray⟩ with
   | some i =>
    simp [nameE, kindE, hw, nextE, txE, hf] at h
    obtain ⟨rfl, rfl, rfl, rfl⟩ := h
    exact ⟨w, rfl, fun sz' l2 => by simp [nameE, kindE, hw, nextE, txE, hf]⟩
   | none =>
    by_cases hl : 4096 ≤ N.length
    ·
     simp [nameE, kindE, hw, nextE, txE, hf, hl] at h
    ·
     simp [nameE, kindE, hw, nextE, txE, hf, hl] at h
     obtain ⟨rfl, rfl, rfl, rfl⟩ := h
     exact ⟨w, rfl, fun sz' l2 => by simp [nameE, kindE, hw, nextE, txE, hf, hl]⟩
  ·
   simp [nameE, kindE, hw] at h
theorem took_term : Took1 termE := by
 intro sz l N V v r N' V' h
 by_cases hw : kindE l = 2
 ·
  cases l with
  | nil => simp [kindE] at hw
  | cons w t =>
   have hw' : w.1 = 2 := hw
   cases hf : findO V ⟨w.2.1.toArray⟩ with
   | some i =>
    simp [termE, kindE, hw', nextE, txE, hf] at h
    obtain ⟨rfl, rfl, rfl, rfl⟩ := h
    exact ⟨w, rfl, fun sz' l2 => by simp [termE, kindE, hw', nextE, txE, hf]⟩
   | none =>
    by_cases hl : 16 ≤ V.length
    ·
     simp [termE, kindE, hw', nextE, txE, hf, hl] at h
    ·
     simp [termE, kindE, hw', nextE, txE, hf, hl] at h
     obtain ⟨rfl, rfl, rfl, rfl⟩ := h
     exact ⟨w, rfl, fun sz' l2 => by simp [termE, kindE, hw', nextE, txE, hf, hl]⟩
 ·
  unfold termE at h
  rw [if_neg hw] at h
  obtain ⟨i, s1, h1, h2⟩ := bindE_ok h
  obtain ⟨r1, N1, V1⟩ := s1
  obtain ⟨w, rfl, hq⟩ := took_name _ _ _ _ _ _ _ _ h1
  simp only [Except.ok.injEq, Prod.mk.injEq] at h2
  obtain ⟨rfl, rfl, rfl, rfl⟩ := h2
  refine ⟨w, rfl, fun sz' l2 => ?_⟩
  unfold termE
  rw [if_neg (by rw [kindE_app (by simp)]; exact hw), hq sz' l2]
  rfl
theorem took_args : ∀ (n : Nat) (acc : List Tm), Took (fun sz s => argsE sz n acc s)
 | 0, acc => by
  intro sz l N V v r N' V' h
  simp [argsE] at h
 | n + 1, acc => by
  intro sz l N V v r N' V' h
  dsimp only at h
  rw [argsE] at h
  by_cases h6 : acc.length = 6 ∧ (kindE l = 1 ∨ kindE l = 2)
  ·
   rw [if_pos h6] at h; cases h
  ·
   rw [if_neg h6] at h
   obtain ⟨t, ⟨r1, N1, V1⟩, h1, h2⟩ := bindE_ok h
   obtain ⟨w, rfl, hq⟩ := took_term _ _ _ _ _ _ _ _ h1
   dsimp only at h2
   by_cases h7 : kindE r1 = 7
   ·
    rw [if_pos h7] at h2
    have hr1 := kindE_ne h7 (by omega)
    obtain ⟨⟨w2, u2, he⟩, hk⟩ := took_args n (acc ++ [t]) _ _ _ _ _ _ _ _ h2
    dsimp only at he
    refine ⟨⟨w, r1.head hr1 :: w2 :: u2, ?_⟩, fun hr sz' l2 => ?_⟩
    ·
     congr 1
     show r1 = r1.head hr1 :: (w2 :: (u2 ++ r))
     rw [← he, List.cons_head_tail]
    ·
     dsimp only
     rw [argsE, if_neg (by rw [kindE_app (by simp)]; exact h6), hq sz' l2, bindE_of rfl, if_pos (by dsimp only; rw [kindE_app hr1]; exact h7)]
     have := hk hr sz' l2
     dsimp only [nextE] at this ⊢
     rw [tail_app hr1]
     exact this
   ·
    rw [if_neg h7] at h2
    obtain ⟨y, ⟨r2, N2, V2⟩, h3, h4⟩ := bindE_ok h2
    obtain ⟨w2, rfl, hq2⟩ := took_word 6 (by omega) _ _ _ _ _ _ _ _ h3
    simp only [Except.ok.injEq, Prod.mk.injEq] at h4
    obtain ⟨rfl, rfl, rfl, rfl⟩ := h4
    refine ⟨⟨w, [w2], rfl⟩, fun hr sz' l2 => ?_⟩
    dsimp only
    rw [argsE, if_neg (by rw [kindE_app (by simp)]; exact h6), hq sz' l2, bindE_of rfl, if_neg (by dsimp only; rw [kindE_app (by simp)]; exact h7)]
    have := hq2 sz' l2
    dsimp only at this
    rw [bindE_of this]
theorem took_atom : Took atomE := by
 intro sz l N V v r N' V' h
 unfold atomE at h
 obtain ⟨p, ⟨r1, N1, V1⟩, h1, h2⟩ := bindE_ok h
 obtain ⟨w, rfl, hq⟩ := took_name _ _ _ _ _ _ _ _ h1
 dsimp only at h2
 by_cases h5 : kindE r1 = 5
 ·
  rw [if_pos h5] at h2
  have hr1 := kindE_ne h5 (by omega)
  obtain ⟨y, ⟨r2, N2, V2⟩, h3, h4⟩ := bindE_ok h2
  obtain ⟨⟨w2, u2, he⟩, hk⟩ := took_args 7 [] _ _ _ _ _ _ _ _ h3
  simp only [Except.ok.injEq, Prod.mk.injEq] at h4
  obtain ⟨rfl, rfl, rfl, rfl⟩ := h4
  dsimp only at he
  refine ⟨⟨w, r1.head hr1 :: w2 :: u2, ?_⟩, fun hr sz' l2 => ?_⟩
  ·
   congr 1
   show r1 = r1.head hr1 :: (w2 :: (u2 ++ _))
   rw [← he, List.cons_head_tail]
  ·
   unfold atomE
   rw [hq sz' l2, bindE_of rfl, if_pos (by dsimp only; rw [kindE_app hr1]; exact h5)]
   have := hk hr sz' l2
   dsimp only [nextE] at this ⊢
   rw [tail_app hr1, bindE_of this]
 ·
  rw [if_neg h5] at h2
  simp only [Except.ok.injEq, Prod.mk.injEq] at h2
  obtain ⟨rfl, rfl, rfl, rfl⟩ := h2
  refine ⟨⟨w, [], rfl⟩, fun hr sz' l2 => ?_⟩
  unfold atomE
  rw [hq sz' l2, bindE_of rfl, if_neg (by dsimp only; rw [kindE_app hr]; exact h5)]
theorem took_say : Took sayE := by
 intro sz l N V v r N' V' h
 unfold sayE at h
 dsimp only at h
 by_cases hc : kindE l = 2 ∨ kindE l.tail = 4
 ·
  rw [if_pos hc] at h
  obtain ⟨t, ⟨r1, N1, V1⟩, h1, h2⟩ := bindE_ok h
  obtain ⟨w, rfl, hq⟩ := took_term _ _ _ _ _ _ _ _ h1
  obtain ⟨y, ⟨r2, N2, V2⟩, h3, h4⟩ := bindE_ok h2
  obtain ⟨w2, rfl, hq2⟩ := took_word 4 (by omega) _ _ _ _ _ _ _ _ h3
  obtain ⟨a, ⟨r3, N3, V3⟩, h5, h6⟩ := bindE_ok h4
  obtain ⟨⟨w3, u3, rfl⟩, hk⟩ := took_atom _ _ _ _ _ _ _ _ h5
  simp only [Except.ok.injEq, Prod.mk.injEq] at h6
  obtain ⟨rfl, rfl, rfl, rfl⟩ := h6
  refine ⟨⟨w, w2 :: w3 :: u3, rfl⟩, fun hr sz' l2 => ?_⟩
  unfold sayE
  dsimp only
  rw [if_pos (by rw [kindE_app (by simp), tail_app (by simp), kindE_app (by simp)]; exact hc), hq sz' l2, bindE_of rfl]
  have := hq2 sz' l2
  dsimp only at this
  rw [bindE_of this, bindE_of (hk hr sz' l2)]
 ·
  rw [if_neg hc] at h
  obtain ⟨a, ⟨r1, N1, V1⟩, h1, h2⟩ := bindE_ok h
  obtain ⟨⟨w, u, rfl⟩, hk⟩ := took_atom _ _ _ _ _ _ _ _ h1
  simp only [Except.ok.injEq, Prod.mk.injEq] at h2
  obtain ⟨rfl, rfl, rfl, rfl⟩ := h2
  refine ⟨⟨w, u, rfl⟩, fun hr sz' l2 => ?_⟩
  unfold sayE
  dsimp only
  rw [if_neg (by rw [kindE_app (by simp), tail_app (by simp), kindE_app (by simp [hr])]; exact hc), bindE_of (hk hr sz' l2)]
theorem took_conds : ∀ (n : Nat) (acc : List Co), Took (fun sz s => condsE sz n acc s)
 | 0, acc => by
  intro sz l N V v r N' V' h
  simp [condsE] at h
 | n + 1, acc => by
  intro sz l N V v r N' V' h
  dsimp only at h
  rw [condsE] at h
  by_cases h8 : acc.length = 8 ∧ (kindE l = 3 ∨ kindE l = 1 ∨ kindE l = 2)
  ·
   rw [if_pos h8] at h; cases h
  ·
   rw [if_neg h8] at h
   obtain ⟨y, ⟨r1, N1, V1⟩, h1, h2⟩ := bindE_ok h
   dsimp only at h1 h2
   -- what comes behind a Not
   have hsay : (∃ w u, l = w :: (u ++ r1)) ∧ (r1 ≠ [] → ∀ sz' l2, sayE sz' (if kindE (l ++ l2) = 3 then ((l ++ l2).tail, N, V) else (l ++ l2, N, V)) = .ok (y, (r1 ++ l2, N1, V1)) ∧ kindE (l ++ l2) = kindE l) := by
    by_cases h3 : kindE l = 3
    ·
     rw [if_pos h3] at h1
     have hl := kindE_ne h3 (by omega)
     obtain ⟨⟨w, u, he⟩, hk⟩ := took_say _ _ _ _ _ _ _ _ h1
     refine ⟨⟨l.head hl, w :: u, ?_⟩, fun hr sz' l2 => ⟨?_, kindE_app hl _⟩⟩
     ·
      have : l = l.head hl :: l.tail := (List.cons_head_tail hl).symm
      rw [show l.tail = w :: (u ++ r1) from he] at this
      exact this
     ·
      rw [if_pos (by rw [kindE_app hl]; exact h3), tail_app hl]
      exact hk hr sz' l2
    ·
     rw [if_neg h3] at h1
     obtain ⟨⟨w, u, he⟩, hk⟩ := took_say _ _ _ _ _ _ _ _ h1
     have hl : l ≠ [] := by rw [he]; simp
     refine ⟨⟨w, u, he⟩, fun hr sz' l2 => ⟨?_, kindE_app hl _⟩⟩
     rw [if_neg (by rw [kindE_app hl]; exact h3)]
     exact hk hr sz' l2
   obtain ⟨⟨w, u, he⟩, hsy⟩ := hsay
   by_cases h7 : kindE r1 = 7
   ·
    rw [if_pos h7] at h2
    have hr1 := kindE_ne h7 (by omega)
    obtain ⟨⟨w2, u2, he2⟩, hk⟩ := took_conds n _ _ _ _ _ _ _ _ _ h2
    dsimp only at he2
    refine ⟨⟨w, u ++ r1.head hr1 :: w2 :: u2, ?_⟩, fun hr sz' l2 => ?_⟩
    ·
     rw [he]
     congr 1
     rw [List.append_assoc]
     congr 1
     show r1 = r1.head hr1 :: (w2 :: (u2 ++ r))
     rw [← he2, List.cons_head_tail]
    ·
     dsimp only
     obtain ⟨h10, h11⟩ := hsy hr1 sz' l2
     rw [condsE]
     dsimp only [nextE] at h10 ⊢
     rw [h11] at h10 ⊢
     rw [if_neg h8, h10, bindE_of rfl, if_pos (by dsimp only; rw [kindE_app hr1]; exact h7)]
     have := hk hr sz' l2
     dsimp only [nextE] at this ⊢
     rw [tail_app hr1]
     exact this
   ·
    rw [if_neg h7] at h2
    simp only [Except.ok.injEq, Prod.mk.injEq] at h2
    obtain ⟨rfl, rfl, rfl, rfl⟩ := h2
    refine ⟨⟨w, u, he⟩, fun hr sz' l2 => ?_⟩
    dsimp only
    obtain ⟨h10, h11⟩ := hsy hr sz' l2
    rw [condsE]
    dsimp only [nextE] at h10 ⊢
    rw [h11] at h10 ⊢
    rw [if_neg h8, h10, bindE_of rfl, if_neg (by dsimp only; rw [kindE_app hr]; exact h7)]
theorem took_rule : ∀ sz l N V v r N' V', ruleE sz (l, N, V) = .ok (v, (r, N', V')) → (∃ w u, l = w :: (u ++ r)) ∧ ∀ sz' l2 V2, ruleE sz' (l ++ l2, N, V2) = .ok (v, (r ++ l2, N', V')) := by
 intro sz l N V v r N' V' h
 unfold ruleE at h
 obtain ⟨hd, ⟨r1, N1, V1⟩, h1, h2⟩ := bindE_ok h
 obtain ⟨b, ⟨r2, N2, V2⟩, h3, h4⟩ := bindE_ok h2
 obtain ⟨y, ⟨r3, N3, V3⟩, h5, h6⟩ := bindE_ok h4
 simp only [Except.ok.injEq, Prod.mk.injEq] at h6
 obtain ⟨rfl, rfl, rfl, rfl⟩ := h6
 obtain ⟨⟨w, u, he⟩, hk1⟩ := took_say _ _ _ _ _ _ _ _ h1
 obtain ⟨w5, rfl, hk5⟩ := took_word 8 (by omega) _ _ _ _ _ _ _ _ h5
 unfold bodyE at h3
 dsimp only at h3
 by_cases h9 : kindE r1 = 9
 ·
  rw [if_pos h9] at h3
  have hr1 := kindE_ne h9 (by omega)
  obtain ⟨⟨w3, u3, he3⟩, hk3⟩ := took_conds 9 [] _ _ _ _ _ _ _ _ h3
  dsimp only at he3
  refine ⟨⟨w, u ++ r1.head hr1 :: w3 :: (u3 ++ [w5]), ?_⟩, fun sz' l2 V2 => ?_⟩
  ·
   dsimp only at he
   rw [he]
   congr 1
   rw [List.append_assoc]
   congr 1
   have h0 : r1 = r1.head hr1 :: r1.tail := (List.cons_head_tail hr1).symm
   rw [he3] at h0
   refine h0.trans ?_
   simp
  ·
   unfold ruleE
   have e1 := hk1 hr1 sz' l2
   dsimp only at e1 ⊢
   rw [bindE_of e1]
   have e3 := hk3 (by simp) sz' l2
   unfold bodyE
   dsimp only [nextE] at e3 ⊢
   rw [if_pos (by rw [kindE_app hr1]; exact h9), tail_app hr1, bindE_of e3]
   have e5 := hk5 sz' l2
   dsimp only at e5
   rw [bindE_of e5]
 ·
  rw [if_neg h9] at h3
  simp only [Except.ok.injEq, Prod.mk.injEq] at h3
  obtain ⟨rfl, rfl, rfl, rfl⟩ := h3
  refine ⟨⟨w, u ++ [w5], by dsimp only at he; rw [he]; simp⟩, fun sz' l2 V2 => ?_⟩
  unfold ruleE
  have e1 := hk1 (by simp) sz' l2
  dsimp only at e1 ⊢
  rw [bindE_of e1]
  unfold bodyE
  dsimp only
  rw [if_neg (by rw [kindE_app (by simp)]; exact h9), bindE_of rfl]
  have e5 := hk5 sz' l2
  dsimp only at e5
  rw [bindE_of e5]
end Go.Proofs.YtoigpbajefkpoaaGreatDoor

set_option linter.unusedVariables false
set_option linter.unusedSimpArgs false
namespace Go.Proofs.YtoigpbajefkpoaaGreatDoor
open Go Go.RowKit

/-- All orders of a drawn region end in one act and in worlds of which S is so; there the walk goes on, once. -/
theorem wpAny_meet {P : Program} {md : Region.Mode} {ops : Array Oper} {Q : Exit → Act → World → Prop} {fuel : Nat} {listed : Array Bool} {a : Act} {w : World} {b : Act} (S : World → Prop) (hc : ∀ V, S V → Q .normal b V)
  (h : (∀ V, S V → Q .normal b V) → wpAny P md ops Q fuel listed a w) : wpAny P md ops Q fuel listed a w := h hc
theorem anyd_loadStr {ops : Array Oper} {E : Prop} {o : Oper} {a : Act} {K : Act → World → Prop} {Q : Exit → Act → World → Prop} {w : World} (hwant : Region.wanted o (yielded ops a.tmps) = true) (x : Operand)
  (ho : o.op = .load 9 x) (b i : Nat) (v : Value) (hx : a.eval x = .pointer (some ⟨b, i, none⟩)) (hc : w.cell? ⟨b, i, none⟩ = some v)
  (h : K (a.put o.dst v) w) : if Region.wanted o (yielded ops a.tmps) = true then Oper.wp Tryz.prog o a w K Q else E := by
 rw [if_pos hwant]
 unfold Oper.wp execOp
 simp only [ho, hx]
 go_simp
 exact h
theorem rdS_at {w : World} {B n : Nat} {A : Option Addr} {l : List ByteArray} (h : Rd w B 1 A n (l.map sv)) {i : Nat} (hi : i < n) :
  ∃ b o s, A = some ⟨b, o, none⟩ ∧ b < B ∧ l[i]? = some s ∧ w.cell? ⟨b, o + i, none⟩ = some (sv s) := by
 have hl : l.length = n := by simpa using h.len1
 obtain ⟨b, o, u, hA, hb, hu, hc⟩ := h.at1 hi
 have hx : l[i]? = some (l[i]'(by omega)) := List.getElem?_eq_getElem _
 rw [List.getElem?_map, hx] at hu
 simp only [Option.map_some, Option.some.injEq] at hu
 subst hu
 exact ⟨b, o, _, hA, hb, hx, hc⟩
theorem take_same {a b : List ByteArray} {i : Nat} {x y : ByteArray} (h1 : a[i]? = some x) (h2 : b[i]? = some y) (h : a.take i = b.take i) (he : x = y) : a.take (i + 1) = b.take (i + 1) := by
 rw [List.take_add_one, List.take_add_one, h1, h2, h, he]

set_option maxRecDepth 100000 in
set_option maxHeartbeats 1000000 in
theorem rSame_any (A0 A1 : Option Addr) (n0 c0 n1 c1 : Nat) (B0 B1 : Nat) (l0 l1 : List ByteArray) (w : World) (h0 : Rd w B0 1 A0 n0 (l0.map sv)) (h1 : Rd w B1 1 A1 n1 (l1.map sv)) (hn0 : n0 ≤ 1000000) :
  Calls Tryz.prog 14 #[.slice A0 n0 c0, .slice A1 n1 c1] w fun e w' => e = .returned (.bool (decide (l0 = l1))) ∧ ∃ q, w' = w.drewN q := by
 have HL0 := Lib.hid (show l0.length = n0 by simpa using h0.len1)
 have HL1 := Lib.hid (show l1.length = n1 by simpa using h1.len1)
 have H0 := Lib.hid h0
 have H1 := Lib.hid h1
 clear h0 h1
 by_cases hn : n0 = n1
 ·
  subst hn
  have hd : ((n0 : Int) != (n0 : Int)) = false := by simp
  go_enter Tryz.func14, Tryz.ntmps14
  repeat go_step
  go_loopw [5] (fun p wr => ∃ i : Nat, i ≤ n0 ∧ p = .int .i64 (i : Int) ∧ l0.take i = l1.take i ∧ ∃ q, wr = w.drewN q) (fun p _ => n0 - (intOf p).toNat)
  case atStart => exact ⟨0, by omega, rfl, rfl, 0, rfl⟩
  case round =>
   obtain ⟨i, hi, rfl, htk, q, rfl⟩ := hrel
   by_cases hlt : i < n0
   ·
    have hci : (i : Int) < (n0 : Int) := by omega
    obtain ⟨b, o, s, hA, hb, hx, hc⟩ := rdS_at H0.out hlt
    obtain ⟨b', o', s', hA', hb', hx', hc'⟩ := rdS_at H1.out hlt
    subst hA hA'
    have HX := Lib.hid hx
    have HX' := Lib.hid hx'
    have HTK := Lib.hid htk
    obtain ⟨W, hW, hcw, hcw'⟩ : ∃ W, W = w.drewN q ∧ W.drew.cell? ⟨b, o + i, none⟩ = some (sv s) ∧ W.drew.cell? ⟨b', o' + i, none⟩ = some (sv s') := ⟨_, rfl, hc, hc'⟩
    have HWq := Lib.hid hW
    rw [← hW]
    have HC := Lib.hid hcw
    have HC' := Lib.hid hcw'
    clear hx hx' htk hc hc' hW hcw hcw'
    by_cases he : s = s'
    ·
     subst he
     repeat go_step
     refine wp_region_any (by kernel_rfl) ?_
     try (change wpAny _ _ _ _ _ _ _ (World.drew _))
     refine wpAny_meet (b := ?ad1) (fun V => V = World.drew W) ?cd1 ?rd1
     case rd1 =>
      intro hEnd
      have hf0 : World.drew W = World.drew W := rfl
      refine wpAny_take (i := 0) (oi := ?p2) (v := ?v2) ?a2 (by kernel_rfl) ?b2 ?c2 ?q2 ?y2 ?z2
      case a2 => (simp only [List.getElem?_toArray, List.getElem?_cons_succ, List.getElem?_cons_zero]; exact rfl)
      case b2 => kernel_rfl
      case c2 => kernel_rfl
      case q2 => exact fun _ _ _ h => h
      case y2 =>
       refine Or.inl ⟨by rfl, ?_⟩
       intro w
       go_simp
       (try with_reducible rfl)
      try simp only [Act.put, List.setIfInBounds_toArray, List.set_cons_zero, List.set_cons_succ]
      refine wpAny_take (i := 1) (oi := ?p3) (v := ?v3) ?a3 (by kernel_rfl) ?b3 ?c3 ?q3 ?y3 ?z3
      case a3 => (simp only [List.getElem?_toArray, List.getElem?_cons_succ, List.getElem?_cons_zero]; exact rfl)
      case b3 => kernel_rfl
      case c3 => kernel_rfl
      case q3 => exact fun _ _ _ h => h
      case y3 =>
       refine Or.inl ⟨by rfl, ?_⟩
       intro w
       go_simp
       (try with_reducible rfl)
      try simp only [Act.put, List.setIfInBounds_toArray, List.set_cons_zero, List.set_cons_succ]
      refine wpAny_take (i := 2) (oi := ?p4) (v := ?v4) ?a4 (by kernel_rfl) ?b4 ?c4 ?q4 ?y4 ?z4
      case a4 => (simp only [List.getElem?_toArray, List.getElem?_cons_succ, List.getElem?_cons_zero]; exact rfl)
      case b4 => kernel_rfl
      case c4 => kernel_rfl
      case q4 => exact fun _ _ _ h => h
      case y4 =>
       refine Or.inl ⟨by rfl, ?_⟩
       intro w
       go_simp
       (try with_reducible rfl)
      try simp only [Act.put, List.setIfInBounds_toArray, List.set_cons_zero, List.set_cons_succ]
      refine wpAny_take (i := 4) (oi := ?p5) (v := ?v5) ?a5 (by kernel_rfl) ?b5 ?c5 ?q5 ?y5 ?z5
      case a5 => (simp only [List.getElem?_toArray, List.getElem?_cons_succ, List.getElem?_cons_zero]; exact rfl)
      case b5 => kernel_rfl
      case c5 => kernel_rfl
      case q5 => exact fun _ _ _ h => h
      case y5 =>
       refine Or.inl ⟨by rfl, ?_⟩
       intro w
       go_simp
       (try with_reducible rfl)
      try simp only [Act.put, List.setIfInBounds_toArray, List.set_cons_zero, List.set_cons_succ]
      refine wpAny_take (i := 5) (oi := ?p6) (v := ?v6) ?a6 (by kernel_rfl) ?b6 ?c6 ?q6 ?y6 ?z6
      case a6 => (simp only [List.getElem?_toArray, List.getElem?_cons_succ, List.getElem?_cons_zero]; exact rfl)
      case b6 => kernel_rfl
      case c6 => kernel_rfl
      case q6 => exact fun _ _ _ h => h
      case y6 =>
       refine Or.inl ⟨by rfl, ?_⟩
       intro w
       go_simp
       (try with_reducible rfl)
      try simp only [Act.put, List.setIfInBounds_toArray, List.set_cons_zero, List.set_cons_succ]
      refine wpAny_take (i := 6) (oi := ?p7) (v := ?v7) ?a7 (by kernel_rfl) ?b7 ?c7 ?q7 ?y7 ?z7
      case a7 => (simp only [List.getElem?_toArray, List.getElem?_cons_succ, List.getElem?_cons_zero]; exact rfl)
      case b7 => kernel_rfl
      case c7 => kernel_rfl
      case q7 => exact fun _ _ _ h => h
      case y7 =>
       refine Or.inl ⟨by rfl, ?_⟩
       intro w
       go_simp
       (try with_reducible rfl)
      try simp only [Act.put, List.setIfInBounds_toArray, List.set_cons_zero, List.set_cons_succ]
      refine wpAny_ready (rs := [3, 7]) (by kernel_rfl) (by simp) ?_
      refine AllReady.cons (o := ?od8) ?hod8 (fun K hK => ?kd8) ?md8
      case hod8 => (simp only [List.getElem?_toArray, List.getElem?_cons_succ, List.getElem?_cons_zero]; exact rfl)
      case kd8 =>
       refine anyd_loadStr (by rfl) (.tmp 19) rfl b (o + i) _ (by rfl) HC.out ?_
       refine hK _ _ ?_
       clear hK K
       try simp only [Act.put, List.setIfInBounds_toArray, List.set_cons_zero, List.set_cons_succ]
       refine wpAny_ready (rs := [7]) (by kernel_rfl) (by simp) ?_
       refine AllReady.cons (o := ?od9) ?hod9 (fun K hK => ?kd9) ?md9
       case hod9 => (simp only [List.getElem?_toArray, List.getElem?_cons_succ, List.getElem?_cons_zero]; exact rfl)
       case kd9 =>
        refine anyd_loadStr (by rfl) (.tmp 23) rfl b' (o' + i) _ (by rfl) HC'.out ?_
        refine hK _ _ ?_
        clear hK K
        try simp only [Act.put, List.setIfInBounds_toArray, List.set_cons_zero, List.set_cons_succ]
        refine wpAny_take (i := 8) (oi := ?p10) (v := ?v10) ?a10 (by kernel_rfl) ?b10 ?c10 ?q10 ?y10 ?z10
        case a10 => (simp only [List.getElem?_toArray, List.getElem?_cons_succ, List.getElem?_cons_zero]; exact rfl)
        case b10 => kernel_rfl
        case c10 => kernel_rfl
        case q10 => exact fun _ _ _ h => h
        case y10 =>
         refine Or.inl ⟨by rfl, ?_⟩
         intro w
         go_simp
         (try with_reducible rfl)
        try simp only [Act.put, List.setIfInBounds_toArray, List.set_cons_zero, List.set_cons_succ]
        exact wpAny_done (by kernel_rfl) (hEnd _ hf0) _
       exact AllReady.nil
      refine AllReady.cons (o := ?od11) ?hod11 (fun K hK => ?kd11) ?md11
      case hod11 => (simp only [List.getElem?_toArray, List.getElem?_cons_succ, List.getElem?_cons_zero]; exact rfl)
      case kd11 =>
       refine anyd_loadStr (by rfl) (.tmp 23) rfl b' (o' + i) _ (by rfl) HC'.out ?_
       refine hK _ _ ?_
       clear hK K
       try simp only [Act.put, List.setIfInBounds_toArray, List.set_cons_zero, List.set_cons_succ]
       refine wpAny_ready (rs := [3]) (by kernel_rfl) (by simp) ?_
       refine AllReady.cons (o := ?od12) ?hod12 (fun K hK => ?kd12) ?md12
       case hod12 => (simp only [List.getElem?_toArray, List.getElem?_cons_succ, List.getElem?_cons_zero]; exact rfl)
       case kd12 =>
        refine anyd_loadStr (by rfl) (.tmp 19) rfl b (o + i) _ (by rfl) HC.out ?_
        refine hK _ _ ?_
        clear hK K
        try simp only [Act.put, List.setIfInBounds_toArray, List.set_cons_zero, List.set_cons_succ]
        refine wpAny_take (i := 8) (oi := ?p13) (v := ?v13) ?a13 (by kernel_rfl) ?b13 ?c13 ?q13 ?y13 ?z13
        case a13 => (simp only [List.getElem?_toArray, List.getElem?_cons_succ, List.getElem?_cons_zero]; exact rfl)
        case b13 => kernel_rfl
        case c13 => kernel_rfl
        case q13 => exact fun _ _ _ h => h
        case y13 =>
         refine Or.inl ⟨by rfl, ?_⟩
         intro w
         go_simp
         (try with_reducible rfl)
        try simp only [Act.put, List.setIfInBounds_toArray, List.set_cons_zero, List.set_cons_succ]
        exact wpAny_done (by kernel_rfl) (hEnd _ hf0) _
       exact AllReady.nil
      exact AllReady.nil
     case cd1 =>
      rintro V rfl
      repeat go_step
      go_roundw
      case rel => exact ⟨i + 1, by omega, by go_num, take_same HX.out HX'.out HTK.out rfl, q + 1, by rw [HWq.out]; rfl⟩
      case measure => simp [intOf]; omega
    ·
     have hq := neS he
     have HE := Lib.hid he
     clear he
     repeat go_step
     refine wp_region_any (by kernel_rfl) ?_
     try (change wpAny _ _ _ _ _ _ _ (World.drew _))
     refine wpAny_meet (b := ?ad14) (fun V => V = World.drew W) ?cd14 ?rd14
     case rd14 =>
      intro hEnd
      have hf0 : World.drew W = World.drew W := rfl
      refine wpAny_take (i := 0) (oi := ?p15) (v := ?v15) ?a15 (by kernel_rfl) ?b15 ?c15 ?q15 ?y15 ?z15
      case a15 => (simp only [List.getElem?_toArray, List.getElem?_cons_succ, List.getElem?_cons_zero]; exact rfl)
      case b15 => kernel_rfl
      case c15 => kernel_rfl
      case q15 => exact fun _ _ _ h => h
      case y15 =>
       refine Or.inl ⟨by rfl, ?_⟩
       intro w
       go_simp
       (try with_reducible rfl)
      try simp only [Act.put, List.setIfInBounds_toArray, List.set_cons_zero, List.set_cons_succ]
      refine wpAny_take (i := 1) (oi := ?p16) (v := ?v16) ?a16 (by kernel_rfl) ?b16 ?c16 ?q16 ?y16 ?z16
      case a16 => (simp only [List.getElem?_toArray, List.getElem?_cons_succ, List.getElem?_cons_zero]; exact rfl)
      case b16 => kernel_rfl
      case c16 => kernel_rfl
      case q16 => exact fun _ _ _ h => h
      case y16 =>
       refine Or.inl ⟨by rfl, ?_⟩
       intro w
       go_simp
       (try with_reducible rfl)
      try simp only [Act.put, List.setIfInBounds_toArray, List.set_cons_zero, List.set_cons_succ]
      refine wpAny_take (i := 2) (oi := ?p17) (v := ?v17) ?a17 (by kernel_rfl) ?b17 ?c17 ?q17 ?y17 ?z17
      case a17 => (simp only [List.getElem?_toArray, List.getElem?_cons_succ, List.getElem?_cons_zero]; exact rfl)
      case b17 => kernel_rfl
      case c17 => kernel_rfl
      case q17 => exact fun _ _ _ h => h
      case y17 =>
       refine Or.inl ⟨by rfl, ?_⟩
       intro w
       go_simp
       (try with_reducible rfl)
      try simp only [Act.put, List.setIfInBounds_toArray, List.set_cons_zero, List.set_cons_succ]
      refine wpAny_take (i := 4) (oi := ?p18) (v := ?v18) ?a18 (by kernel_rfl) ?b18 ?c18 ?q18 ?y18 ?z18
      case a18 => (simp only [List.getElem?_toArray, List.getElem?_cons_succ, List.getElem?_cons_zero]; exact rfl)
      case b18 => kernel_rfl
      case c18 => kernel_rfl
      case q18 => exact fun _ _ _ h => h
      case y18 =>
       refine Or.inl ⟨by rfl, ?_⟩
       intro w
       go_simp
       (try with_reducible rfl)
      try simp only [Act.put, List.setIfInBounds_toArray, List.set_cons_zero, List.set_cons_succ]
      refine wpAny_take (i := 5) (oi := ?p19) (v := ?v19) ?a19 (by kernel_rfl) ?b19 ?c19 ?q19 ?y19 ?z19
      case a19 => (simp only [List.getElem?_toArray, List.getElem?_cons_succ, List.getElem?_cons_zero]; exact rfl)
      case b19 => kernel_rfl
      case c19 => kernel_rfl
      case q19 => exact fun _ _ _ h => h
      case y19 =>
       refine Or.inl ⟨by rfl, ?_⟩
       intro w
       go_simp
       (try with_reducible rfl)
      try simp only [Act.put, List.setIfInBounds_toArray, List.set_cons_zero, List.set_cons_succ]
      refine wpAny_take (i := 6) (oi := ?p20) (v := ?v20) ?a20 (by kernel_rfl) ?b20 ?c20 ?q20 ?y20 ?z20
      case a20 => (simp only [List.getElem?_toArray, List.getElem?_cons_succ, List.getElem?_cons_zero]; exact rfl)
      case b20 => kernel_rfl
      case c20 => kernel_rfl
      case q20 => exact fun _ _ _ h => h
      case y20 =>
       refine Or.inl ⟨by rfl, ?_⟩
       intro w
       go_simp
       (try with_reducible rfl)
      try simp only [Act.put, List.setIfInBounds_toArray, List.set_cons_zero, List.set_cons_succ]
      refine wpAny_ready (rs := [3, 7]) (by kernel_rfl) (by simp) ?_
      refine AllReady.cons (o := ?od21) ?hod21 (fun K hK => ?kd21) ?md21
      case hod21 => (simp only [List.getElem?_toArray, List.getElem?_cons_succ, List.getElem?_cons_zero]; exact rfl)
      case kd21 =>
       refine anyd_loadStr (by rfl) (.tmp 19) rfl b (o + i) _ (by rfl) HC.out ?_
       refine hK _ _ ?_
       clear hK K
       try simp only [Act.put, List.setIfInBounds_toArray, List.set_cons_zero, List.set_cons_succ]
       refine wpAny_ready (rs := [7]) (by kernel_rfl) (by simp) ?_
       refine AllReady.cons (o := ?od22) ?hod22 (fun K hK => ?kd22) ?md22
       case hod22 => (simp only [List.getElem?_toArray, List.getElem?_cons_succ, List.getElem?_cons_zero]; exact rfl)
       case kd22 =>
        refine anyd_loadStr (by rfl) (.tmp 23) rfl b' (o' + i) _ (by rfl) HC'.out ?_
        refine hK _ _ ?_
        clear hK K
        try simp only [Act.put, List.setIfInBounds_toArray, List.set_cons_zero, List.set_cons_succ]
        refine wpAny_take (i := 8) (oi := ?p23) (v := ?v23) ?a23 (by kernel_rfl) ?b23 ?c23 ?q23 ?y23 ?z23
        case a23 => (simp only [List.getElem?_toArray, List.getElem?_cons_succ, List.getElem?_cons_zero]; exact rfl)
        case b23 => kernel_rfl
        case c23 => kernel_rfl
        case q23 => exact fun _ _ _ h => h
        case y23 =>
         refine Or.inl ⟨by rfl, ?_⟩
         intro w
         go_simp
         (try with_reducible rfl)
        try simp only [Act.put, List.setIfInBounds_toArray, List.set_cons_zero, List.set_cons_succ]
        exact wpAny_done (by kernel_rfl) (hEnd _ hf0) _
       exact AllReady.nil
      refine AllReady.cons (o := ?od24) ?hod24 (fun K hK => ?kd24) ?md24
      case hod24 => (simp only [List.getElem?_toArray, List.getElem?_cons_succ, List.getElem?_cons_zero]; exact rfl)
      case kd24 =>
       refine anyd_loadStr (by rfl) (.tmp 23) rfl b' (o' + i) _ (by rfl) HC'.out ?_
       refine hK _ _ ?_
       clear hK K
       try simp only [Act.put, List.setIfInBounds_toArray, List.set_cons_zero, List.set_cons_succ]
       refine wpAny_ready (rs := [3]) (by kernel_rfl) (by simp) ?_
       refine AllReady.cons (o := ?od25) ?hod25 (fun K hK => ?kd25) ?md25
       case hod25 => (simp only [List.getElem?_toArray, List.getElem?_cons_succ, List.getElem?_cons_zero]; exact rfl)
       case kd25 =>
        refine anyd_loadStr (by rfl) (.tmp 19) rfl b (o + i) _ (by rfl) HC.out ?_
        refine hK _ _ ?_
        clear hK K
        try simp only [Act.put, List.setIfInBounds_toArray, List.set_cons_zero, List.set_cons_succ]
        refine wpAny_take (i := 8) (oi := ?p26) (v := ?v26) ?a26 (by kernel_rfl) ?b26 ?c26 ?q26 ?y26 ?z26
        case a26 => (simp only [List.getElem?_toArray, List.getElem?_cons_succ, List.getElem?_cons_zero]; exact rfl)
        case b26 => kernel_rfl
        case c26 => kernel_rfl
        case q26 => exact fun _ _ _ h => h
        case y26 =>
         refine Or.inl ⟨by rfl, ?_⟩
         intro w
         go_simp
         (try with_reducible rfl)
        try simp only [Act.put, List.setIfInBounds_toArray, List.set_cons_zero, List.set_cons_succ]
        exact wpAny_done (by kernel_rfl) (hEnd _ hf0) _
       exact AllReady.nil
      exact AllReady.nil
     case cd14 =>
      rintro V rfl
      repeat go_step
      go_ret
      exact ⟨by rw [decide_eq_false (show ¬ l0 = l1 from fun e => HE.out (by have h1 := HX.out; rw [e, HX'.out] at h1; cases h1; rfl))]; rfl, q + 1, by rw [HWq.out]; rfl⟩
   ·
    obtain rfl : n0 = i := by omega
    rw [List.take_of_length_le (by have := HL0.out; omega), List.take_of_length_le (by have := HL1.out; omega)] at htk
    have HD := Lib.hid (decide_eq_true htk)
    clear htk
    go_wp2
    go_ret
    exact ⟨by rw [HD.out]; rfl, q, rfl⟩
 ·
  have hd : ((n0 : Int) != (n1 : Int)) = true := by simp; omega
  have HD := Lib.hid (decide_eq_false (show ¬ l0 = l1 from fun e => hn (by rw [← HL0.out, ← HL1.out, e])))
  go_enter Tryz.func14, Tryz.ntmps14
  go_wp2
  go_ret
  exact ⟨by rw [HD.out]; rfl, 0, rfl⟩

end Go.Proofs.YtoigpbajefkpoaaGreatDoor

