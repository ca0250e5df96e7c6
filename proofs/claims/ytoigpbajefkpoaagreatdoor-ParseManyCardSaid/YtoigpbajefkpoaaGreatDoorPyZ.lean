/- What more is needed: QdA QdB SyN QdC SyR QdD PdV -/
import Derived.WalkKit
import Derived.ProofKit
import Derived.OpenShut
import Derived.Carry
import Derived.SizedLaws
import Derived.Maps.AppendAt
import Derived.Deep.AppendLies
import Derived.Deep.Draws
import Derived.Laws.BytesArg
import Derived.Lib.Hide
import Derived.Below
import Derived.Test.YtoigpbajefkpoaaGreatDoorPyA
import Derived.Test.YtoigpbajefkpoaaGreatDoorChecked
import Derived.Maps.StringElems
import Derived.RegionTactic
import Derived.Deep.QuietTactic
import Derived.BigQuiet
import Derived.Laws.DeepStrings4
import Derived.Test.YtoigpbajefkpoaaGreatDoorPyB
import Derived.Test.YtoigpbajefkpoaaGreatDoorPyC
import Derived.Orders
import Derived.Maps.OwnSet
import Derived.Maps.OwnOps
import Derived.StringKeys
import Derived.Lib.Strings
import Derived.Lib.Walk
import Derived.Lib.BufferWrite
import Derived.Lib.UnsafeStr
import Derived.Laws.MakeOwn
import Derived.Test.YtoigpbajefkpoaaGreatDoorPyD
import Derived.WalkSpells
import Derived.Lib.SliceRun
import Derived.Test.YtoigpbajefkpoaaGreatDoorPyE
import Derived.Lib.OthersKept
import Derived.StillTail
import Derived.StillTailTactics
import Derived.KernelRfl
import Derived.Deep.RegionHeld3
import Derived.Deep.Cut
import Derived.Great.BuildSlice
import Derived.Test.YtoigpbajefkpoaaGreatDoorPyF
import Derived.Test.YtoigpbajefkpoaaGreatDoorPyG
import Derived.Test.YtoigpbajefkpoaaGreatDoorPyH
import Derived.Test.YtoigpbajefkpoaaGreatDoorRows
import Derived.Test.YtoigpbajefkpoaaGreatDoorPyI
import Derived.SliceStrings
import Derived.ChangeMaps
import Derived.WalkSmall
import Derived.Test.YtoigpbajefkpoaaGreatDoorPyJ
import Derived.Test.YtoigpbajefkpoaaGreatDoorPyK
import Derived.Test.YtoigpbajefkpoaaGreatDoorPyL
import Derived.Test.YtoigpbajefkpoaaGreatDoorPyM
import Derived.Test.YtoigpbajefkpoaaGreatDoorPyN
import Derived.Lib.SmallJoins
import Derived.Deep.SlicePairs
import Derived.Deep.Strs
import Derived.Test.YtoigpbajefkpoaaGreatDoorPyS
import Derived.Test.YtoigpbajefkpoaaGreatDoorPyT
import Derived.Test.YtoigpbajefkpoaaGreatDoorPyU
import Derived.LaidEql
import Derived.Stop.Asserts
import Derived.RowKitTokens
import Derived.Test.YtoigpbajefkpoaaGreatDoorPyO
import Derived.Recover
import Derived.Lib.Bytealg
import Derived.Laws.Externs
import Derived.Test.YtoigpbajefkpoaaGreatDoorPyP
import Derived.Test.YtoigpbajefkpoaaGreatDoorPyQ
import Derived.Lib.Builder
import Derived.Lib.AppendStr
import Derived.Shelf.Strings.Builder1
import Derived.RangeFuncNested
import Derived.RangeFuncBound
import Derived.RangeFuncCalls
import Derived.RangeFuncLeaves
import Derived.Shelf.Abstract
import Derived.Shelf.RegionOpen
import Derived.OwnWalkIn
import Derived.TacticsInMore
import Derived.LoopNIn
import Derived.LoopIn
import Derived.WalkMore
import Derived.Deep.LoopGhost
import Derived.Deep.DeepCutAuto
import Derived.Deep.RegionWith
import Derived.Test.YtoigpbajefkpoaaGreatDoorPyR
import Derived.Test.YtoigpbajefkpoaaGreatDoorTie
import Derived.LaidHandle
import Derived.LaidLaws
import Derived.LaidMore
import Derived.Stop.Joined
import Derived.Stop.LaidErr
import Derived.Lib.LaidTab
set_option linter.unusedVariables false
set_option linter.unusedSimpArgs false
namespace Go.Proofs.YtoigpbajefkpoaaGreatDoor
open Go Go.RowKit

/-- The same words, all at place nought. -/
def zed (l : List Wd) : List Wd := l.map fun w => (w.1, w.2.1, 0)
/-- The same state but for the places. -/
def EqS (s s' : PS) : Prop := zed s.1 = s'.1 ∧ s.2 = s'.2
/-- The same answer but for the places. -/
def EqR {α : Type} (x y : Except PE (α × PS)) : Prop := match x, y with
  | .ok (v, s), .ok (v', s') => v = v' ∧ EqS s s'
  | .error (e, _), .error (e', _) => e = e'
  | _, _ => False
theorem EqR.bind {α β : Type} {x y : Except PE (α × PS)} {f g : α → PS → Except PE (β × PS)} (h : EqR x y) (hk : ∀ v s s', EqS s s' → EqR (f v s) (g v s')) : EqR (bindE x f) (bindE y g) := by
  cases x with
  | ok p =>
    cases y with
    | ok q =>
      obtain ⟨v, s⟩ := p
      obtain ⟨v', s'⟩ := q
      obtain ⟨h1, h2⟩ := h
      subst h1
      exact hk _ _ _ h2
    | error e => exact h.elim
  | error e =>
    cases y with
    | ok q => exact h.elim
    | error e' => exact h
theorem EqS.kind {s s' : PS} (h : EqS s s') : kindE s.1 = kindE s'.1 := by
  rw [← h.1]
  cases s.1 <;> rfl
theorem EqS.tx {s s' : PS} (h : EqS s s') : txE s.1 = txE s'.1 := by
  rw [← h.1]
  cases s.1 <;> rfl
theorem EqS.tail {s s' : PS} (h : EqS s s') : zed s.1.tail = s'.1.tail := by
  rw [← h.1]
  cases s.1 <;> rfl
theorem EqS.next {s s' : PS} (h : EqS s s') : EqS (nextE s) (nextE s') := ⟨h.tail, h.2⟩
theorem EqS.kind2 {s s' : PS} (h : EqS s s') : kindE s.1.tail = kindE s'.1.tail := (EqS.next h).kind
theorem eq_word {sz : Nat} (k : Nat) {s s' : PS} (h : EqS s s') : EqR (wordE sz k s) (wordE 0 k s') := by
  unfold wordE
  rw [← h.kind]
  split
  · exact ⟨h.tx, h.next⟩
  · rfl
theorem eq_name {sz : Nat} {s s' : PS} (h : EqS s s') : EqR (nameE sz s) (nameE 0 s') := by
  unfold nameE
  rw [← h.kind, ← h.tx, ← h.2]
  split
  · split
    · exact ⟨rfl, h.next⟩
    · split
      · rfl
      · refine ⟨rfl, h.tail, ?_⟩
        show (s.2.1 ++ [txE s.1], s.2.2) = _
        rfl
  · rfl
theorem eq_term {sz : Nat} {s s' : PS} (h : EqS s s') : EqR (termE sz s) (termE 0 s') := by
  unfold termE
  rw [← h.kind, ← h.tx, ← h.2]
  split
  · split
    · exact ⟨rfl, h.next⟩
    · split
      · rfl
      · exact ⟨rfl, h.tail, rfl⟩
  · exact (eq_name h).bind fun v t t' ht => ⟨rfl, ht⟩
theorem eq_args {sz : Nat} : ∀ (n : Nat) (acc : List Tm) {s s' : PS}, EqS s s' → EqR (argsE sz n acc s) (argsE 0 n acc s')
  | 0, acc, s, s', h => rfl
  | n + 1, acc, s, s', h => by
    rw [argsE, argsE, ← h.kind]
    split
    · rfl
    · refine (eq_term h).bind fun t u u' hu => ?_
      rw [← hu.kind]
      split
      · exact eq_args n _ hu.next
      · exact (eq_word 6 hu).bind fun _ z z' hz => ⟨rfl, hz⟩
theorem eq_atom {sz : Nat} {s s' : PS} (h : EqS s s') : EqR (atomE sz s) (atomE 0 s') := by
  unfold atomE
  refine (eq_name h).bind fun p u u' hu => ?_
  rw [← hu.kind]
  split
  · exact (eq_args 7 [] hu.next).bind fun _ z z' hz => ⟨rfl, hz⟩
  · exact ⟨rfl, hu⟩
theorem eq_say {sz : Nat} {s s' : PS} (h : EqS s s') : EqR (sayE sz s) (sayE 0 s') := by
  unfold sayE
  rw [← h.kind, ← h.kind2]
  split
  · exact (eq_term h).bind fun t u u' hu => (eq_word 4 hu).bind fun _ z z' hz => (eq_atom hz).bind fun a y y' hy => ⟨rfl, hy⟩
  · exact (eq_atom h).bind fun a y y' hy => ⟨rfl, hy⟩
theorem eq_conds {sz : Nat} : ∀ (n : Nat) (acc : List Co) {s s' : PS}, EqS s s' → EqR (condsE sz n acc s) (condsE 0 n acc s')
  | 0, acc, s, s', h => rfl
  | n + 1, acc, s, s', h => by
    rw [condsE, condsE, ← h.kind]
    split
    · rfl
    · refine EqR.bind ?_ fun y u u' hu => ?_
      · split
        · exact eq_say h.next
        · exact eq_say h
      · rw [← hu.kind]
        split
        · exact eq_conds n _ hu.next
        · exact ⟨rfl, hu⟩
theorem eq_body {sz : Nat} {s s' : PS} (h : EqS s s') : EqR (bodyE sz s) (bodyE 0 s') := by
  unfold bodyE
  rw [← h.kind]
  split
  · exact eq_conds 9 [] h.next
  · exact ⟨rfl, h⟩
theorem eq_rule {sz : Nat} {s s' : PS} (h : EqS s s') : EqR (ruleE sz s) (ruleE 0 s') := by
  unfold ruleE
  rw [← h.2]
  refine (eq_say (s := (s.1, s.2.1, [])) (s' := (s'.1, s.2.1, [])) ⟨h.1, rfl⟩).bind fun y u u' hu => ?_
  exact (eq_body hu).bind fun b z z' hz => (eq_word 8 hz).bind fun _ x x' hx => ⟨rfl, hx⟩
theorem zed_of {l : List Wd} {tk : List Tk} (h : texts l = tk) : zed l = tk.map fun x => (x.1, x.2, 0) := by
  rw [← h]
  simp [zed, texts]

/-! ### a rule of so many -/
/-- The name of a variable. -/
abbrev vName (k : Nat) : List UInt8 := [86, 110, 95, UInt8.ofNat (97 + k)]
def bsT : Nat → List Tk
  | 0 => []
  | a + 1 => bsT a ++ [if a = 0 then (5, [40]) else (7, [44]), (1, [98])]
/-- The head's words. -/
def headT (a : Nat) : List Tk := (1, [112]) :: (bsT a ++ if a = 0 then [] else [(6, [41])])
/-- The words of the variables k0 .. k0 + n - 1. -/
def varsT (k0 : Nat) : Nat → List Tk
  | 0 => []
  | n + 1 => varsT k0 n ++ [if n = 0 then (5, [40]) else (7, [44]), (2, vName (k0 + n))]
/-- The words of condition i. -/
def condT (v i : Nat) : List Tk := [if i = 0 then (9, [58, 45]) else (7, [44]), (1, [112])] ++ varsT (3 * i) (min 3 (v - 3 * i)) ++ if 3 * i < v then [(6, [41])] else []
def condsT (v : Nat) : Nat → List Tk
  | 0 => []
  | c + 1 => condsT v c ++ condT v c
/-- All words. -/
def manyT (a c v : Nat) : List Tk := headT a ++ (condsT v c ++ [(8, [46])])
def manyB (a c v : Nat) : Bool := decide (6 < a) || decide (8 < c) || decide (16 < min v (3 * c))
/-- What is to come of them. -/
def chkMany (a c v : Nat) : Bool :=
  match ruleE 0 ((manyT a c v).map fun x => (x.1, x.2, 0), [], []) with
  | .ok (r, s) => !manyB a c v && decide (r.2.length = c) && decide (r.1.2.2.2.length = a) && decide (s.1 = [])
  | .error (e, _) => manyB a c v && decide (e = 6)
end Go.Proofs.YtoigpbajefkpoaaGreatDoor

set_option linter.unusedVariables false
namespace Go.Proofs.YtoigpbajefkpoaaGreatDoor
open Go Go.RowKit
set_option maxRecDepth 100000 in
theorem chk_all : ∀ a < 10, ∀ c < 12, ∀ v < 20, chkMany a c v = true := by decide +kernel
end Go.Proofs.YtoigpbajefkpoaaGreatDoor

set_option linter.unusedVariables false
set_option linter.unusedSimpArgs false
namespace Go.Proofs.YtoigpbajefkpoaaGreatDoor
open Go Go.RowKit

def lett (n : Nat) : UInt8 := UInt8.ofNat (97 + n % 26)
theorem lett_nat (n : Nat) : (lett n).toNat = 97 + n % 26 := by
  unfold lett
  rw [UInt8.toNat_ofNat_of_lt' (by show _ < 256; omega)]
def digs (n : Nat) : List UInt8 := if h : n = 0 then [] else digs (n / 26) ++ [lett n]
termination_by n
decreasing_by omega
def fullN (n : Nat) : List UInt8 := if n = 0 then [lett 0] else digs n
/-- The name of a number, as bytes. -/
def nthL (n : Nat) : List UInt8 := [110, 95] ++ fullN n
def nthS (n : Nat) : ByteArray := ⟨(nthL n).toArray⟩
theorem digs_step (n : Nat) (h : n ≠ 0) : digs n = digs (n / 26) ++ [lett n] := by
  rw [digs, dif_neg h]
theorem digs_zero : digs 0 = [] := by rw [digs]; simp
theorem digs_len (n : Nat) : (digs n).length ≤ n := by
  induction n using Nat.strongRecOn with
  | ind n ih =>
    by_cases h : n = 0
    · subst h
      simp [digs_zero]
    · rw [digs_step n h, List.length_append, List.length_singleton]
      have := ih (n / 26) (by omega)
      omega
theorem fullN_len (n : Nat) : (fullN n).length ≤ n + 1 := by
  unfold fullN
  have := digs_len n
  split
  · simp
  · omega

set_option maxRecDepth 100000 in
set_option maxHeartbeats 1000000 in
theorem nth_any (n : Nat) (w : World) (hn : n ≤ 1000000) :
    Calls Tryz.prog 22 #[.int .i64 (n : Int)] w fun e w' => e = .returned (.string (nthS n)) ∧ Below w.heap.size w w' := by
  go_enter Tryz.func22, Tryz.ntmps22
  repeat go_step
  go_loopw [0, 3] (fun p q wr => ∃ (m : Nat) (out : List UInt8), m ≤ n ∧ p = .int .i64 (m : Int) ∧ q = strV out ∧ ((out = [] ∧ m = n) ∨ (out ≠ [] ∧ digs m ++ out = fullN n)) ∧ Below w.heap.size w wr)
    (fun p q _ => 2 * (intOf p).toNat + (match q with | .string s => if s.size = 0 then 1 else 0 | _ => 0))
  case atStart => exact ⟨n, [], Nat.le_refl _, rfl, rfl, .inl ⟨rfl, rfl⟩, Below.refl _ _⟩
  case round =>
    obtain ⟨m, out, hm, rfl, rfl, hor, hbw⟩ := hrel
    obtain ⟨r, hr⟩ : ∃ r, r = m % 26 := ⟨_, rfl⟩
    have e1 : (m : Int).tmod 26 = (r : Int) := by rw [Int.tmod_eq_emod_of_nonneg (by omega)]; omega
    have e2 : (m : Int) % 26 = (r : Int) := by omega
    have hlt : (97 : Int) + (r : Int) = ((lett m).toNat : Int) := by rw [lett_nat]; omega
    have hlw : IntKind.u8.wrap ((lett m).toNat : Int) = ((lett m).toNat : Int) := by rw [lett_nat, IntKind.wrap_u8]; omega
    have k1 : (convert 91 9 (.slice (some ⟨wr.heap.size, 0, none⟩) 1 1)).run Tryz.prog (wr.alloc (.cells #[.int .u8 ((lett m).toNat : Int)] 5)) = .ok (strV [lett m]) (wr.alloc (.cells #[.int .u8 ((lett m).toNat : Int)] 5)) :=
      run_conv_str (P := Tryz.prog) _ 91 9 5 Tryz.underlying91 Tryz.underlying5 Tryz.underlying9 (wr.heap.size + 1) _ _ _ [lett m] ⟨by simp, fun _ => ⟨_, _, rfl, by omega, fun j u hu => by
        rw [Nat.zero_add, cell_of_row _ _ j #[.int .u8 ((lett m).toNat : Int)] 5 (0, 0) (heap_alloc_new wr _)]
        simpa [bv] using hu⟩⟩
    have hol : out.length ≤ 1000001 := by
      rcases hor with ⟨rfl, _⟩ | ⟨_, h⟩
      · simp
      · have h1 := congrArg List.length h
        have h2 := fullN_len n
        rw [List.length_append] at h1
        omega
    have HOR := Lib.hid hor
    have HR := Lib.hid hr
    have hba := hbw.alloc hbw.size (.cells #[.int .u8 ((lett m).toNat : Int)] 5)
    clear hor hr
    rcases Nat.eq_zero_or_pos m with h0 | h0
    · subst h0
      cases out with
      | nil =>
        have hn0 : n = 0 := by
          rcases HOR.out with h | h
          · exact h.2.symm
          · exact absurd rfl h.1
        subst hn0
        have k0 : (convert 91 9 (.slice (some ⟨wr.heap.size, 0, none⟩) 1 1)).run Tryz.prog (wr.alloc (.cells #[.int .u8 97] 5)) = .ok (strV [97]) (wr.alloc (.cells #[.int .u8 97] 5)) := k1
        have hcat : ({ data := #[97] } ++ { data := #[] } : ByteArray) = { data := #[97] } := by decide
        clear k1
        repeat (first | go_step | go_upon)
        go_roundw
        case rel => exact ⟨0, [97], by omega, by go_num, rfl, .inr ⟨by simp, by rw [digs_zero]; rfl⟩, hba⟩
        case measure => decide
      | cons x xs =>
        have he : (x :: xs).isEmpty = false := rfl
        have hx : digs 0 ++ (x :: xs) = fullN n := by
          rcases HOR.out with h | h
          · exact absurd h.1 (by simp)
          · exact h.2
        rw [digs_zero, List.nil_append] at hx
        have hcat : ({ data := #[110, 95] } ++ { data := (x :: xs).toArray } : ByteArray) = nthS n := by
          unfold nthS nthL
          rw [← hx]
          apply ByteArray.ext
          simp
        have hxl : xs.length ≤ 1000000 := by simpa using hol
        have hb : ¬ (9223372036854775807 < 2 + (xs.length + 1)) := by omega
        clear k1 hx
        go_wp2
        go_ret
        exact ⟨rfl, hbw⟩
    · have hd : decide (0 < m) = true := decide_eq_true h0
      have hcat : ({ data := #[lett m] } ++ { data := out.toArray } : ByteArray) = { data := (lett m :: out).toArray } := by
        apply ByteArray.ext
        simp
      have hq : (m : Int).tdiv 26 = ((m / 26 : Nat) : Int) := by simp
      have hfull : digs (m / 26) ++ (lett m :: out) = fullN n := by
        have hd2 := digs_step m (by omega)
        rcases HOR.out with ⟨rfl, rfl⟩ | ⟨_, h⟩
        · unfold fullN
          rw [if_neg (by omega), hd2]
        · rw [← h, hd2, List.append_assoc]
          rfl
      have HF := Lib.hid hfull
      clear hfull
      repeat (first | go_step | go_upon)
      go_roundw
      case rel => exact ⟨m / 26, lett m :: out, by omega, by go_num, rfl, .inr ⟨by simp, HF.out⟩, hba⟩
      case measure => simp [intOf, ByteArray.size]; omega
end Go.Proofs.YtoigpbajefkpoaaGreatDoor

set_option linter.unusedVariables false
set_option linter.unusedSimpArgs false
namespace Go.Proofs.YtoigpbajefkpoaaGreatDoor
open Go Go.RowKit

/-- Words ahead of a mark. -/
def Pc (t : List UInt8) (tk : List Tk) : Prop := ∀ r ws, Ends r → Lx r ws → Lx (t ++ r) (tk ++ ws) ∧ Ends (t ++ r)
theorem Pc.nil : Pc [] [] := fun r ws h1 h2 => ⟨h2, h1⟩
theorem Pc.app {a b : List UInt8} {x y : List Tk} (h : Pc a x) (k : Pc b y) : Pc (a ++ b) (x ++ y) := fun r ws h1 h2 => by
  obtain ⟨k1, k2⟩ := k r ws h1 h2
  rw [List.append_assoc, List.append_assoc]
  exact h _ _ k2 k1
theorem nth_small {k : Nat} (h : k < 26) : nthL k = [110, 95, UInt8.ofNat (97 + k)] := by
  unfold nthL fullN lett
  by_cases h0 : k = 0
  · subst h0; rfl
  · rw [if_neg h0, digs_step k h0, show k / 26 = 0 by omega, digs_zero, lett, show k % 26 = k by omega]
    rfl
theorem pc_b (m : UInt8) (k : Nat) (hm : (m = 40 ∧ k = 5) ∨ (m = 44 ∧ k = 7)) : Pc [m, 98] [(k, [m]), (1, [98])] := fun r ws h1 h2 => by
  have hw : Lx ([98] ++ r) ((kindL [98], [98]) :: ws) := Lx.let_ (by decide) (by decide) (by decide) h1 h2
  rw [show kindL [98] = 1 by decide] at hw
  rcases hm with ⟨rfl, rfl⟩ | ⟨rfl, rfl⟩
  · exact ⟨hw.open_, ends_cons (by decide) (by decide)⟩
  · exact ⟨hw.comma, ends_cons (by decide) (by decide)⟩
theorem pc_shut : Pc [41] [(6, [41])] := fun r ws h1 h2 => ⟨h2.shut, ends_cons (by decide) (by decide)⟩
theorem v_ok : ∀ k < 26, (vName k).all okB = true ∧ kindL (vName k) = 2 := by decide +kernel
theorem pc_v (m : UInt8) (k n : Nat) (hn : n < 26) (hm : (m = 40 ∧ k = 5) ∨ (m = 44 ∧ k = 7)) : Pc (m :: 86 :: nthL n) [(k, [m]), (2, vName n)] := fun r ws h1 h2 => by
  obtain ⟨v1, v2⟩ := v_ok n hn
  have hw : Lx (vName n ++ r) ((kindL (vName n), vName n) :: ws) := Lx.let_ v1 (by simp) (by simp) h1 h2
  rw [v2] at hw
  rw [nth_small hn]
  rcases hm with ⟨rfl, rfl⟩ | ⟨rfl, rfl⟩
  · exact ⟨hw.open_, ends_cons (by decide) (by decide)⟩
  · exact ⟨hw.comma, ends_cons (by decide) (by decide)⟩
theorem pc_if : Pc [58, 45, 112] [(9, [58, 45]), (1, [112])] := fun r ws h1 h2 => by
  have hw : Lx ([112] ++ r) ((kindL [112], [112]) :: ws) := Lx.let_ (by decide) (by decide) (by decide) h1 h2
  rw [show kindL [112] = 1 by decide] at hw
  exact ⟨hw.if_, ends_cons (by decide) (by decide)⟩
theorem pc_and : Pc [44, 112] [(7, [44]), (1, [112])] := fun r ws h1 h2 => by
  have hw : Lx ([112] ++ r) ((kindL [112], [112]) :: ws) := Lx.let_ (by decide) (by decide) (by decide) h1 h2
  rw [show kindL [112] = 1 by decide] at hw
  exact ⟨hw.comma, ends_cons (by decide) (by decide)⟩

/-! ### the text, as it grows -/
def bsX : Nat → List UInt8
  | 0 => []
  | a + 1 => bsX a ++ [if a = 0 then 40 else 44, 98]
def headX (a : Nat) : List UInt8 := 112 :: (bsX a ++ if a = 0 then [] else [41])
def varsX (k0 : Nat) : Nat → List UInt8
  | 0 => []
  | n + 1 => varsX k0 n ++ (if n = 0 then 40 else 44) :: 86 :: nthL (k0 + n)
def condX (v i : Nat) : List UInt8 := (if i = 0 then [58, 45, 112] else [44, 112]) ++ varsX (3 * i) (min 3 (v - 3 * i)) ++ if 3 * i < v then [41] else []
def condsX (v : Nat) : Nat → List UInt8
  | 0 => []
  | c + 1 => condsX v c ++ condX v c
def manyX (a c v : Nat) : List UInt8 := headX a ++ (condsX v c ++ [46])
theorem pc_bs : ∀ a, Pc (bsX a) (bsT a)
  | 0 => Pc.nil
  | a + 1 => by
    rw [bsX, bsT]
    refine (pc_bs a).app ?_
    by_cases h : a = 0
    · rw [if_pos h, if_pos h]
      exact pc_b 40 5 (.inl ⟨rfl, rfl⟩)
    · rw [if_neg h, if_neg h]
      exact pc_b 44 7 (.inr ⟨rfl, rfl⟩)
theorem pc_vars (k0 : Nat) : ∀ n, k0 + n ≤ 26 → Pc (varsX k0 n) (varsT k0 n)
  | 0, _ => Pc.nil
  | n + 1, hn => by
    rw [varsX, varsT]
    refine (pc_vars k0 n (by omega)).app ?_
    by_cases h : n = 0
    · rw [if_pos h, if_pos h]
      exact pc_v 40 5 _ (by omega) (.inl ⟨rfl, rfl⟩)
    · rw [if_neg h, if_neg h]
      exact pc_v 44 7 _ (by omega) (.inr ⟨rfl, rfl⟩)
theorem pc_cond (v i : Nat) (hv : v ≤ 20) : Pc (condX v i) (condT v i) := by
  unfold condX condT
  refine Pc.app (Pc.app ?_ ?_) ?_
  · by_cases h : i = 0
    · rw [if_pos h, if_pos h]
      exact pc_if
    · rw [if_neg h, if_neg h]
      exact pc_and
  · by_cases h : 3 * i < v
    · exact pc_vars _ _ (by omega)
    · rw [show min 3 (v - 3 * i) = 0 by omega]
      exact Pc.nil
  · by_cases h : 3 * i < v
    · rw [if_pos h, if_pos h]
      exact pc_shut
    · rw [if_neg h, if_neg h]
      exact Pc.nil
theorem pc_conds (v : Nat) (hv : v ≤ 20) : ∀ c, Pc (condsX v c) (condsT v c)
  | 0 => Pc.nil
  | c + 1 => (pc_conds v hv c).app (pc_cond v c hv)
theorem lx_many (a c v : Nat) (hv : v ≤ 20) : Lx (manyX a c v) (manyT a c v) := by
  have h0 : Lx [46] [(8, [46])] := Lx.nil.stop
  have h1 := pc_conds v hv c _ _ (ends_cons (by decide) (by decide)) h0
  have h2 : Pc (bsX a ++ if a = 0 then [] else [41]) (bsT a ++ if a = 0 then [] else [(6, [41])]) := by
    refine (pc_bs a).app ?_
    by_cases h : a = 0
    · rw [if_pos h, if_pos h]
      exact Pc.nil
    · rw [if_neg h, if_neg h]
      exact pc_shut
  have h3 := h2 _ _ h1.2 h1.1
  have hw := Lx.let_ (w := [112]) (by decide) (by decide) (by decide) h3.2 h3.1
  rw [show kindL [112] = 1 by decide] at hw
  exact hw
theorem bsX_len : ∀ a, (bsX a).length = 2 * a
  | 0 => rfl
  | a + 1 => by rw [bsX, List.length_append, bsX_len a]; simp; omega
theorem varsX_len (k0 : Nat) : ∀ n, k0 + n ≤ 26 → (varsX k0 n).length = 5 * n
  | 0, _ => rfl
  | n + 1, hn => by rw [varsX, List.length_append, varsX_len k0 n (by omega), nth_small (by omega)]; simp; omega
theorem condX_len (v i : Nat) (hv : v ≤ 20) : (condX v i).length ≤ 19 := by
  unfold condX
  rw [List.length_append, List.length_append]
  have h1 : (varsX (3 * i) (min 3 (v - 3 * i))).length ≤ 15 := by
    by_cases h : 3 * i < v
    · rw [varsX_len _ _ (by omega)]; omega
    · rw [show min 3 (v - 3 * i) = 0 by omega]; simp [varsX]
  have h2 : (if i = 0 then [58, 45, 112] else [44, 112] : List UInt8).length ≤ 3 := by split <;> simp
  have h3 : (if 3 * i < v then [41] else [] : List UInt8).length ≤ 1 := by split <;> simp
  omega
theorem condsX_len (v : Nat) (hv : v ≤ 20) : ∀ c, (condsX v c).length ≤ 19 * c
  | 0 => by simp [condsX]
  | c + 1 => by
    rw [condsX, List.length_append]
    have h1 := condsX_len v hv c
    have h2 := condX_len v c hv
    omega
theorem headX_len (a : Nat) : (headX a).length ≤ 2 * a + 2 := by
  unfold headX
  rw [List.length_cons, List.length_append, bsX_len]
  split <;> simp
theorem manyX_len (a c v : Nat) (ha : a < 10) (hc : c < 12) (hv : v ≤ 20) : (manyX a c v).length ≤ 300 := by
  unfold manyX
  rw [List.length_append, List.length_append]
  have h1 := headX_len a
  have h2 := condsX_len v hv c
  simp only [List.length_cons, List.length_nil]
  omega
theorem many_parse (a c v : Nat) (ha : a < 10) (hc : c < 12) (hv : v < 20) : ∃ rs ns y z, (rs, ns, y, z) = parseL [] (manyX a c v) ∧
    (manyB a c v = true → z = 6 ∧ rs = [] ∧ ns = []) ∧ (manyB a c v = false → z = 0 ∧ ∃ r, rs = [r] ∧ r.2.length = c ∧ r.1.2.2.2.length = a) := by
  obtain ⟨h1, h2⟩ := lx_many a c v (by omega) 0
  have hlen := manyX_len a c v ha hc (by omega)
  have hw : wordsL (manyX a c v) = ((lexG 0 (manyX a c v)).1, 0, 0) := wordsL_ok (by omega) (by rw [← h1])
  obtain ⟨ws, hws⟩ : ∃ ws, ws = (lexG 0 (manyX a c v)).1 := ⟨_, rfl⟩
  rw [← hws] at hw h2
  have hz := zed_of h2
  have hchk := chk_all a ha c hc v hv
  have hne : ws ≠ [] := by
    rintro rfl
    simp [texts, manyT, headT] at h2
  obtain ⟨m, hm⟩ : ∃ m, ws.length = m + 1 := ⟨ws.length - 1, by have := List.length_pos_iff.2 hne; omega⟩
  have her := eq_rule (sz := (manyX a c v).length) (s := (ws, [], [])) (s' := (zed ws, [], [])) ⟨rfl, rfl⟩
  unfold chkMany at hchk
  rw [← hz] at hchk
  unfold parseL
  rw [hw]
  dsimp only
  rw [if_neg (by simp), hm, rules_go (by exact hne)]
  cases hx : ruleE (manyX a c v).length (ws, [], []) with
  | ok p =>
    obtain ⟨r, s⟩ := p
    rw [hx] at her
    cases hy : ruleE 0 (zed ws, [], []) with
    | ok q =>
      obtain ⟨r', s'⟩ := q
      rw [hy] at her hchk
      obtain ⟨e1, e2⟩ := her
      subst e1
      simp only [Bool.and_eq_true, Bool.not_eq_true', decide_eq_true_eq] at hchk
      obtain ⟨⟨⟨c1, c2⟩, c3⟩, c4⟩ := hchk
      have hs : s.1 = [] := by
        have := e2.1
        rw [c4] at this
        exact List.map_eq_nil_iff.1 this
      refine ⟨[r], s.2.1, 0, 0, ?_, fun h => (by rw [c1] at h; cases h), fun _ => ⟨rfl, r, rfl, c2, c3⟩⟩
      simp only [bindE]
      rw [rules_end hs]
      rfl
    | error q => rw [hy] at her; exact her.elim
  | error q =>
    obtain ⟨e, y⟩ := q
    rw [hx] at her
    cases hy : ruleE 0 (zed ws, [], []) with
    | ok q => rw [hy] at her; exact her.elim
    | error q =>
      obtain ⟨e', y'⟩ := q
      rw [hy] at her hchk
      simp only [Bool.and_eq_true, decide_eq_true_eq] at hchk
      have he : e = e' := her
      refine ⟨[], [], y, e, rfl, fun _ => ⟨by rw [he]; exact hchk.2, rfl, rfl⟩, fun h => (by rw [hchk.1] at h; cases h)⟩
end Go.Proofs.YtoigpbajefkpoaaGreatDoor

set_option linter.unusedVariables false
set_option linter.unusedSimpArgs false
namespace Go.Proofs.YtoigpbajefkpoaaGreatDoor
open Go Go.RowKit

def valL (l : List UInt8) : Nat := l.foldl (fun a c => 26 * a + (c.toNat - 97)) 0
theorem val_digs (n : Nat) : valL (digs n) = n := by
  induction n using Nat.strongRecOn with
  | ind n ih =>
    by_cases h : n = 0
    · subst h
      rw [digs_zero]
      rfl
    · rw [digs_step n h]
      unfold valL at ih ⊢
      rw [List.foldl_append, ih (n / 26) (by omega)]
      simp only [List.foldl_cons, List.foldl_nil, lett_nat]
      omega
theorem val_full (n : Nat) : valL (fullN n) = n := by
  unfold fullN
  split
  · rename_i h
    subst h
    rfl
  · exact val_digs n
theorem nthS_inj {a b : Nat} (h : nthS a = nthS b) : a = b := by
  have h1 : (nthS a).data = (nthS b).data := by rw [h]
  unfold nthS nthL at h1
  have h2 : ([110, 95] ++ fullN a : List UInt8) = [110, 95] ++ fullN b := by simpa using h1
  have h3 := List.append_cancel_left h2
  rw [← val_full a, ← val_full b, h3]
theorem ok_lett (n : Nat) : okB (lett n) = true := by
  unfold okB
  rw [lett_nat]
  have : n % 26 < 26 := Nat.mod_lt _ (by omega)
  simp
  omega
theorem ok_digs (n : Nat) : (digs n).all okB = true := by
  induction n using Nat.strongRecOn with
  | ind n ih =>
    by_cases h : n = 0
    · subst h
      rw [digs_zero]
      rfl
    · rw [digs_step n h, List.all_append, ih (n / 26) (by omega)]
      simp [ok_lett]
theorem digs_len3 (n : Nat) (h : n < 17576) : (digs n).length ≤ 3 := by
  have go : ∀ m, (digs m).length ≤ (digs (m / 26)).length + 1 := fun m => by
    by_cases h0 : m = 0
    · subst h0
      simp [digs_zero]
    · rw [digs_step m h0]
      simp
  have h1 := go n
  have h2 := go (n / 26)
  have h3 := go (n / 26 / 26)
  have h4 : n / 26 / 26 / 26 = 0 := by omega
  rw [h4, digs_zero] at h3
  simp at h3
  omega
theorem may_nth (n : Nat) (h : n < 17576) : mayB (nthS n) = true := by
  have hl : (fullN n).length ≤ 3 := by
    unfold fullN
    split
    · simp
    · exact digs_len3 n h
  have ha : (fullN n).all okB = true := by
    unfold fullN
    split
    · simp [ok_lett]
    · exact ok_digs n
  unfold mayB nthS nthL
  simp only [Bool.and_eq_true, decide_eq_true_eq]
  refine ⟨?_, ?_, ?_⟩
  · show List.all (([110, 95] : List UInt8) ++ fullN n) okB = true
    rw [List.all_append, ha]
    rfl
  · simp [ByteArray.size]
  · simp [ByteArray.size]
    omega
theorem nth_size (n : Nat) (h : n < 17576) : (nthS n).size ≤ 32 := by
  have := may_nth n h
  unfold mayB at this
  simp only [Bool.and_eq_true, decide_eq_true_eq] at this
  exact this.2.2
def tabL (n : Nat) : List ByteArray := (List.range n).map nthS
theorem tabL_len (n : Nat) : (tabL n).length = n := by simp [tabL]
theorem tabL_succ (n : Nat) : tabL (n + 1) = tabL n ++ [nthS n] := by simp [tabL, List.range_succ]
theorem tabL_not (n : Nat) : findO (tabL n) (nthS n) = none := findO_mem.2 fun h => by
  obtain ⟨k, hk, e⟩ := List.mem_map.1 h
  have := nthS_inj e
  have := List.mem_range.1 hk
  omega
theorem tabL_get {n k : Nat} (h : k < n) : (tabL n)[k]? = some (nthS k) := by simp [tabL, h]
theorem put_next (n : Nat) (h : n < 4096) : putL (tabL n) (nthS n) = (tabL (n + 1), n, 0) := by
  rw [putL_new (may_nth n (by omega)) (tabL_not n) (by rw [tabL_len]; exact h), tabL_succ, tabL_len]
end Go.Proofs.YtoigpbajefkpoaaGreatDoor

set_option linter.unusedVariables false
set_option linter.unusedSimpArgs false
namespace Go.Proofs.YtoigpbajefkpoaaGreatDoor
open Go Go.RowKit

theorem fact_atom {sz i : Nat} {x : List UInt8} {p q : Nat} {r : List Wd} {N N' : List ByteArray} (hn : nameE sz ((1, x, p) :: (8, [46], q) :: r, N, []) = .ok (i, ((8, [46], q) :: r, N', []))) :
    atomE sz ((1, x, p) :: (8, [46], q) :: r, N, []) = .ok ((UInt32.ofNat i, []), ((8, [46], q) :: r, N', [])) := by
  unfold atomE
  rw [bindE_of hn]
  exact if_neg (by simp [kindE])
theorem fact_rule {sz i : Nat} {x : List UInt8} {p q : Nat} {r : List Wd} {N V N' : List ByteArray} (hn : nameE sz ((1, x, p) :: (8, [46], q) :: r, N, []) = .ok (i, ((8, [46], q) :: r, N', []))) :
    ruleE sz ((1, x, p) :: (8, [46], q) :: r, N, V) = .ok (((false, (false, 0), (UInt32.ofNat i, [])), []), (r, N', [])) := by
  have hs : sayE sz ((1, x, p) :: (8, [46], q) :: r, N, []) = .ok ((false, (false, 0), (UInt32.ofNat i, [])), ((8, [46], q) :: r, N', [])) := by
    unfold sayE
    refine (if_neg (by simp [kindE])).trans ?_
    rw [bindE_of (fact_atom hn)]
  unfold ruleE
  dsimp only
  rw [bindE_of hs]
  have hb : bodyE sz ((8, [46], q) :: r, N', []) = .ok ([], ((8, [46], q) :: r, N', [])) := by
    unfold bodyE
    exact if_neg (by simp [kindE])
  rw [bindE_of hb]
  have hw : wordE sz 8 ((8, [46], q) :: r, N', []) = .ok (⟨([46] : List UInt8).toArray⟩, (r, N', [])) := by
    unfold wordE
    exact if_pos (by simp [kindE])
  rw [bindE_of hw]
theorem fact_bad {sz : Nat} {x : List UInt8} {p q : Nat} {r : List Wd} {N V : List ByteArray} {z : PE} (hn : nameE sz ((1, x, p) :: (8, [46], q) :: r, N, []) = .error z) :
    ruleE sz ((1, x, p) :: (8, [46], q) :: r, N, V) = .error z := by
  have hs : sayE sz ((1, x, p) :: (8, [46], q) :: r, N, []) = .error z := by
    unfold sayE
    refine (if_neg (by simp [kindE])).trans ?_
    unfold atomE
    rw [hn]
    rfl
  unfold ruleE
  dsimp only
  rw [hs]
  rfl
theorem name_old {sz i : Nat} {x : List UInt8} {p : Nat} {r : List Wd} {N V : List ByteArray} (h : findO N ⟨x.toArray⟩ = some i) : nameE sz ((1, x, p) :: r, N, V) = .ok (i, (r, N, V)) := by
  unfold nameE
  simp only [kindE, txE, List.tail_cons]
  rw [if_pos trivial, h]
  rfl
theorem name_new {sz : Nat} {x : List UInt8} {p : Nat} {r : List Wd} {N V : List ByteArray} (h : findO N ⟨x.toArray⟩ = none) (hl : N.length < 4096) : nameE sz ((1, x, p) :: r, N, V) = .ok (N.length, (r, N ++ [⟨x.toArray⟩], V)) := by
  unfold nameE
  simp only [kindE, txE, List.tail_cons]
  rw [if_pos trivial, h]
  dsimp only
  rw [if_neg (by omega)]
theorem name_full {sz : Nat} {x : List UInt8} {p : Nat} {r : List Wd} {N V : List ByteArray} (h : findO N ⟨x.toArray⟩ = none) (hl : 4096 ≤ N.length) : nameE sz ((1, x, p) :: r, N, V) = .error (6, p) := by
  unfold nameE
  simp only [kindE, txE, placeE]
  rw [if_pos trivial, h]
  dsimp only
  rw [if_pos hl]
set_option maxRecDepth 100000 in
set_option maxHeartbeats 16000000 in
theorem fwords1 : wordsL [111, 110, 101, 46, 32, 110, 95, 104, 46] = ([(1, [111, 110, 101], 0), (8, [46], 3), (1, [110, 95, 104], 5), (8, [46], 8)], 0, 0) := by
  refine wordsL_ok (by decide) ?_
  rw [lexG_word (l1 := [111, 110, 101, 46, 32, 110, 95, 104, 46]) (k := 1) (n := 3) (by decide) (by decide) (by decide)]
  rw [show ([111, 110, 101, 46, 32, 110, 95, 104, 46] : List UInt8).drop 3 = [46, 32, 110, 95, 104, 46] from rfl]
  rw [lexG_word (l1 := [46, 32, 110, 95, 104, 46]) (k := 8) (n := 1) (by decide) (by decide) (by decide)]
  rw [show ([46, 32, 110, 95, 104, 46] : List UInt8).drop 1 = [32, 110, 95, 104, 46] from rfl]
  rw [lexG_word (l1 := [110, 95, 104, 46]) (k := 1) (n := 3) (by decide) (by decide) (by decide)]
  rw [show ([110, 95, 104, 46] : List UInt8).drop 3 = [46] from rfl]
  rw [lexG_word (l1 := [46]) (k := 8) (n := 1) (by decide) (by decide) (by decide)]
  rw [show ([46] : List UInt8).drop 1 = [] from rfl]
  rw [lexG_end (by decide)]
  rfl
set_option maxRecDepth 100000 in
set_option maxHeartbeats 16000000 in
theorem fwords2 : wordsL [110, 95, 104, 46, 32, 109, 111, 114, 101, 46] = ([(1, [110, 95, 104], 0), (8, [46], 3), (1, [109, 111, 114, 101], 5), (8, [46], 9)], 0, 0) := by
  refine wordsL_ok (by decide) ?_
  rw [lexG_word (l1 := [110, 95, 104, 46, 32, 109, 111, 114, 101, 46]) (k := 1) (n := 3) (by decide) (by decide) (by decide)]
  rw [show ([110, 95, 104, 46, 32, 109, 111, 114, 101, 46] : List UInt8).drop 3 = [46, 32, 109, 111, 114, 101, 46] from rfl]
  rw [lexG_word (l1 := [46, 32, 109, 111, 114, 101, 46]) (k := 8) (n := 1) (by decide) (by decide) (by decide)]
  rw [show ([46, 32, 109, 111, 114, 101, 46] : List UInt8).drop 1 = [32, 109, 111, 114, 101, 46] from rfl]
  rw [lexG_word (l1 := [109, 111, 114, 101, 46]) (k := 1) (n := 4) (by decide) (by decide) (by decide)]
  rw [show ([109, 111, 114, 101, 46] : List UInt8).drop 4 = [46] from rfl]
  rw [lexG_word (l1 := [46]) (k := 8) (n := 1) (by decide) (by decide) (by decide)]
  rw [show ([46] : List UInt8).drop 1 = [] from rfl]
  rw [lexG_end (by decide)]
  rfl
abbrev oneW : ByteArray := ⟨([111, 110, 101] : List UInt8).toArray⟩
theorem nth7 : nthS 7 = ⟨([110, 95, 104] : List UInt8).toArray⟩ := by
  unfold nthS
  rw [nth_small (by omega)]
  rfl
theorem not_nth {x : List UInt8} (hx : x.head? ≠ some 110) (n : Nat) : (⟨x.toArray⟩ : ByteArray) ∉ tabL n := fun h => by
  obtain ⟨k, hk, e⟩ := List.mem_map.1 h
  have h1 := congrArg (fun b : ByteArray => b.data.toList.head?) e
  simp [nthS, nthL] at h1
  exact hx h1.symm
theorem full1 : ∃ rs, parseL (tabL 4095) [111, 110, 101, 46, 32, 110, 95, 104, 46] = (rs, tabL 4095 ++ [oneW], 0, 0) := by
  have h1 : findO (tabL 4095) ⟨([111, 110, 101] : List UInt8).toArray⟩ = none := findO_mem.2 (not_nth (by decide) _)
  have h2 : findO (tabL 4095 ++ [oneW]) ⟨([110, 95, 104] : List UInt8).toArray⟩ = some 7 := by
    rw [← nth7]
    refine findO_some (by rw [List.getElem?_append_left (by rw [tabL_len]; omega)]; exact tabL_get (by omega)) fun j x hj hx e => ?_
    rw [List.getElem?_append_left (by rw [tabL_len]; omega), tabL_get (by omega)] at hx
    cases hx
    have := nthS_inj e
    omega
  refine ⟨[((false, (false, 0), (UInt32.ofNat (tabL 4095).length, [])), []), ((false, (false, 0), (UInt32.ofNat 7, [])), [])], ?_⟩
  unfold parseL
  rw [fwords1]
  dsimp only
  rw [if_neg (by simp)]
  rw [show ([(1, [111, 110, 101], 0), (8, [46], 3), (1, [110, 95, 104], 5), (8, [46], 8)] : List Wd).length = 4 from rfl]
  rw [rules_go (by simp), fact_rule (name_new h1 (by rw [tabL_len]; omega))]
  simp only [bindE]
  rw [rules_go (by simp), fact_rule (name_old h2)]
  simp only [bindE]
  rw [rules_end rfl]
  rfl
theorem full2 : parseL (tabL 4095 ++ [oneW]) [110, 95, 104, 46, 32, 109, 111, 114, 101, 46] = ([], tabL 4095 ++ [oneW], 5, 6) := by
  have h1 : findO (tabL 4095 ++ [oneW]) ⟨([109, 111, 114, 101] : List UInt8).toArray⟩ = none := findO_mem.2 fun h => by
    rcases List.mem_append.1 h with h | h
    · exact not_nth (by decide) _ h
    · exact absurd (congrArg (fun b : ByteArray => b.size) (List.mem_singleton.1 h)) (by decide)
  have h2 : findO (tabL 4095 ++ [oneW]) ⟨([110, 95, 104] : List UInt8).toArray⟩ = some 7 := by
    rw [← nth7]
    refine findO_some (by rw [List.getElem?_append_left (by rw [tabL_len]; omega)]; exact tabL_get (by omega)) fun j x hj hx e => ?_
    rw [List.getElem?_append_left (by rw [tabL_len]; omega), tabL_get (by omega)] at hx
    cases hx
    have := nthS_inj e
    omega
  unfold parseL
  rw [fwords2]
  dsimp only
  rw [if_neg (by simp)]
  rw [show ([(1, [110, 95, 104], 0), (8, [46], 3), (1, [109, 111, 114, 101], 5), (8, [46], 9)] : List Wd).length = 4 from rfl]
  rw [rules_go (by simp), fact_rule (name_old h2)]
  simp only [bindE]
  rw [rules_go (by simp), fact_bad (name_full h1 (by rw [List.length_append, tabL_len]; exact Nat.le_refl 4096))]
  rfl
theorem tab_good : Good 4096 (tabL 4095) := by
  refine ⟨?_, fun s hs => ?_, by rw [tabL_len]; omega⟩
  · unfold tabL
    rw [List.nodup_iff_pairwise_ne, List.pairwise_map]
    refine List.Pairwise.imp (fun {a b} h e => h (nthS_inj e)) List.nodup_range
  · obtain ⟨k, hk, rfl⟩ := List.mem_map.1 hs
    exact may_nth k (by have := List.mem_range.1 hk; omega)
end Go.Proofs.YtoigpbajefkpoaaGreatDoor

set_option linter.unusedVariables false
set_option linter.unusedSimpArgs false
namespace Go.Proofs.YtoigpbajefkpoaaGreatDoor.parseMany
open Go Go.RowKit

set_option maxRecDepth 100000 in
set_option maxHeartbeats 16000000 in
theorem walk {P : World → Prop} (ok : ParsesOk P) (x0 x1 x2 x3 : Nat) (h0 : x0 < 256) (h1 : x1 < 256) (h2 : x2 < 256) (h3 : x3 < 256) (w : World) (hP : P w) :
    Calls Tryz.prog 6 #[.int .u8 (x0 : Int), .int .u8 (x1 : Int), .int .u8 (x2 : Int), .int .u8 (x3 : Int)] w fun e w' => e = .returned (.bool true) ∧ Below w.heap.size w w' := by
  have HPW := Lib.hid hP
  clear hP
  have hrefuse : ∀ W, Below w.heap.size w W → Calls Tryz.prog 9 #[] W fun e w' => e = .returned (.bool true) ∧ Below w.heap.size w w' := fun W hW => (pWorks_any ok W (ok.later _ _ HPW.out hW)).mono fun e w' h => ⟨h.1, hW.trans (h.2.mono hW.size)⟩
  have HRF := Lib.hid hrefuse
  clear hrefuse
  obtain ⟨a, ha⟩ : ∃ a, a = x0 % 10 := ⟨_, rfl⟩
  obtain ⟨c, hc⟩ : ∃ c, c = x1 % 12 := ⟨_, rfl⟩
  obtain ⟨v, hv⟩ : ∃ v, v = x2 % 20 := ⟨_, rfl⟩
  have ha10 : a < 10 := by omega
  have hc12 : c < 12 := by omega
  have hv20 : v < 20 := by omega
  have e0 : (x0 : Int).tmod 10 = (a : Int) := by rw [Int.tmod_eq_emod_of_nonneg (by omega)]; omega
  have e1 : (x1 : Int).tmod 12 = (c : Int) := by rw [Int.tmod_eq_emod_of_nonneg (by omega)]; omega
  have e2 : (x2 : Int).tmod 20 = (v : Int) := by rw [Int.tmod_eq_emod_of_nonneg (by omega)]; omega
  clear ha hc hv
  go_enter Tryz.func6, Tryz.ntmps6
  repeat (first | go_skip | go_guarded | go_step)
  go_loop [12, 13] (fun t p => ∃ (i : Nat) (T : ByteArray), i ≤ a ∧ t = sv T ∧ p = .int .i64 (i : Int) ∧ tb T = 112 :: bsX i) (fun _ p => a - (intOf p).toNat)
  case atStart => exact ⟨0, ⟨#[112]⟩, by omega, rfl, rfl, rfl⟩
  case round =>
    obtain ⟨i, T, hi, rfl, rfl, hT⟩ := hrel
    have hTs : T.size = 1 + 2 * i := by rw [← tb_len, hT, List.length_cons, bsX_len]; omega
    have HT := Lib.hid hT
    clear hT
    by_cases hlt : i < a
    · have hci : (i : Int) < (a : Int) := by omega
      by_cases hi0 : i = 0
      · have hie : ((i : Int) == 0) = true := by subst hi0; rfl
        have HI := Lib.hid hi0
        clear hi0
        have g1 : T.size + 1 ≤ maxLen := by unfold maxLen; omega
        have g2 : ¬ (maxLen < T.size + 1) := by unfold maxLen; omega
        go_upto_region 11 with (fail)
        obtain ⟨T1, hT1⟩ : ∃ T1 : ByteArray, T1 = T ++ ⟨#[40]⟩ := ⟨_, rfl⟩
        rw [← hT1]
        have hsT1 : T1.size = T.size + 1 := by rw [hT1, ByteArray.size_append]; rfl
        have HT1 := Lib.hid (show tb T1 = tb T ++ [40] by rw [hT1]; simp [tb])
        clear hT1 g1 g2
        have g1 : T1.size + 1 ≤ maxLen := by unfold maxLen; omega
        have g2 : ¬ (maxLen < T1.size + 1) := by unfold maxLen; omega
        go_upto_region 7 with (fail)
        obtain ⟨T2, hT1⟩ : ∃ T2 : ByteArray, T2 = T1 ++ ⟨#[98]⟩ := ⟨_, rfl⟩
        rw [← hT1]
        have hsT2 : T2.size = T1.size + 1 := by rw [hT1, ByteArray.size_append]; rfl
        have HT2 := Lib.hid (show tb T2 = tb T1 ++ [98] by rw [hT1]; simp [tb])
        clear hT1 g1 g2
        repeat (first | go_skip | go_guarded | go_step)
        go_round
        case rel => exact ⟨i + 1, T2, by omega, rfl, by go_num, by rw [HT2.out, HT1.out, HT.out, bsX, if_pos HI.out]; simp⟩
        case measure => simp [intOf] <;> omega
      · have hie : ((i : Int) == 0) = false := by rw [beq_eq_false_iff_ne]; omega
        have HI := Lib.hid hi0
        clear hi0
        have g1 : T.size + 1 ≤ maxLen := by unfold maxLen; omega
        have g2 : ¬ (maxLen < T.size + 1) := by unfold maxLen; omega
        go_upto_region 11 with (fail)
        obtain ⟨T1, hT1⟩ : ∃ T1 : ByteArray, T1 = T ++ ⟨#[44]⟩ := ⟨_, rfl⟩
        rw [← hT1]
        have hsT1 : T1.size = T.size + 1 := by rw [hT1, ByteArray.size_append]; rfl
        have HT1 := Lib.hid (show tb T1 = tb T ++ [44] by rw [hT1]; simp [tb])
        clear hT1 g1 g2
        have g1 : T1.size + 1 ≤ maxLen := by unfold maxLen; omega
        have g2 : ¬ (maxLen < T1.size + 1) := by unfold maxLen; omega
        go_upto_region 7 with (fail)
        obtain ⟨T2, hT1⟩ : ∃ T2 : ByteArray, T2 = T1 ++ ⟨#[98]⟩ := ⟨_, rfl⟩
        rw [← hT1]
        have hsT2 : T2.size = T1.size + 1 := by rw [hT1, ByteArray.size_append]; rfl
        have HT2 := Lib.hid (show tb T2 = tb T1 ++ [98] by rw [hT1]; simp [tb])
        clear hT1 g1 g2
        repeat (first | go_skip | go_guarded | go_step)
        go_round
        case rel => exact ⟨i + 1, T2, by omega, rfl, by go_num, by rw [HT2.out, HT1.out, HT.out, bsX, if_neg HI.out]; simp⟩
        case measure => simp [intOf] <;> omega
    · obtain rfl : i = a := by omega
      have hci : ¬ (i : Int) < (i : Int) := by omega
      have hcd : decide ((i : Int) < (i : Int)) = false := by simp
      by_cases hi0 : i = 0
      · have hgt : decide ((0 : Int) < (i : Int)) = false := by simp; omega
        have hgn : decide (0 < i) = false := by simp; omega
        have hgp : ¬ (0 < i) := by omega
        have hTh := Lib.hid (show tb T = headX i by rw [HT.out]; unfold headX; rw [if_pos hi0]; simp)
        have hT20 : T.size ≤ 20 := by omega
        have HI := Lib.hid hi0
        clear hi0
        obtain ⟨T0, HT0⟩ : ∃ T0, T0 = T := ⟨_, rfl⟩
        rw [← HT0] at hTh hT20 ⊢
        have HH := hTh
        clear hTh HT0
        clear HT hTs
        repeat (first | go_skip | go_guarded | go_step)
        go_loopw [12, 14] (fun t p wr => ∃ (j : Nat) (T : ByteArray), j ≤ c ∧ t = sv T ∧ p = .int .i64 (j : Int) ∧ tb T = headX i ++ condsX v j ∧ Below w.heap.size w wr) (fun _ p _ => c - (intOf p).toNat)
        case atStart => exact ⟨0, T0, by omega, rfl, rfl, by rw [HH.out, condsX]; simp, Below.refl _ _⟩
        case round =>
          rename World => wj
          obtain ⟨j, T, hj, rfl, rfl, hT, hbj⟩ := hrel
          have hTs : T.size ≤ 300 := by
            rw [← tb_len, hT, List.length_append]
            have h1 := headX_len i
            have h2 := condsX_len v (by omega) j
            omega
          have HT := Lib.hid hT
          have HBJ := Lib.hid hbj
          clear hT hbj
          by_cases hlt : j < c
          · have hci2 : (j : Int) < (c : Int) := by omega
            by_cases hj0 : j = 0
            · have hje : ((j : Int) == 0) = true := by subst hj0; rfl
              have HJ := Lib.hid hj0
              clear hj0
              have g1 : T.size + 2 ≤ maxLen := by unfold maxLen; omega
              have g2 : ¬ (maxLen < T.size + 2) := by unfold maxLen; omega
              go_upto_region 20 with (fail)
              obtain ⟨T1, hT1⟩ : ∃ T1 : ByteArray, T1 = T ++ ⟨#[58, 45]⟩ := ⟨_, rfl⟩
              rw [← hT1]
              have hsT1 : T1.size = T.size + 2 := by rw [hT1, ByteArray.size_append]; rfl
              have HT1 := Lib.hid (show tb T1 = tb T ++ [58, 45] by rw [hT1]; simp [tb])
              clear hT1 g1 g2
              have g1 : T1.size + 1 ≤ maxLen := by unfold maxLen; omega
              have g2 : ¬ (maxLen < T1.size + 1) := by unfold maxLen; omega
              go_upto_region 21 with (fail)
              obtain ⟨T2, hT1⟩ : ∃ T2 : ByteArray, T2 = T1 ++ ⟨#[112]⟩ := ⟨_, rfl⟩
              rw [← hT1]
              have hsT2 : T2.size = T1.size + 1 := by rw [hT1, ByteArray.size_append]; rfl
              have HT2 := Lib.hid (show tb T2 = tb T1 ++ [112] by rw [hT1]; simp [tb])
              clear hT1 g1 g2
              obtain ⟨q, hq⟩ : ∃ q, q = 3 * j := ⟨_, rfl⟩
              have hq3 : (3 : Int) * (j : Int) = (q : Int) := by omega
              have hq36 : q ≤ 36 := by omega
              have HJQ := Lib.hid hq.symm
              clear hq
              repeat (first | go_skip | go_guarded | go_step)
              go_loopw [12, 15] (fun t p wr => ∃ (k : Nat) (T : ByteArray), q ≤ k ∧ k ≤ q + min 3 (v - q) ∧ t = sv T ∧ p = .int .i64 (k : Int) ∧ tb T = tb T2 ++ varsX q (k - q) ∧ Below w.heap.size w wr) (fun _ p _ => q + 3 - (intOf p).toNat)
              case atStart => exact ⟨q, T2, Nat.le_refl _, by omega, rfl, (by first | rfl | rw [hq3]), by rw [Nat.sub_self, varsX]; simp, HBJ.out⟩
              case round =>
                rename World => wk
                obtain ⟨k, T3, hqk, hkn, rfl, rfl, hT3, hbk⟩ := hrel
                have hT3s : T3.size ≤ T2.size + 15 := by
                  rw [← tb_len T3, hT3, List.length_append, tb_len]
                  by_cases hvq : q < v
                  · rw [varsX_len _ _ (by omega)]; omega
                  · rw [show k - q = 0 by omega]; simp [varsX]
                have HT3 := Lib.hid hT3
                have HBK := Lib.hid hbk
                clear hT3 hbk
                by_cases hk : k < q + min 3 (v - q)
                · have hk1 : (k : Int) < (q : Int) + 3 := by omega
                  have hk2 : (k : Int) < (v : Int) := by omega
                  by_cases hkq : k = q
                  · have hke : ((k : Int) == (q : Int)) = true := by rw [hkq]; simp
                    have HKM := Lib.hid (show k - q = 0 by omega)
                    clear hkq
                    have g1 : T3.size + 1 ≤ maxLen := by unfold maxLen; omega
                    have g2 : ¬ (maxLen < T3.size + 1) := by unfold maxLen; omega
                    go_upto_region 27 with (fail)
                    obtain ⟨T4, hT1⟩ : ∃ T4 : ByteArray, T4 = T3 ++ ⟨#[40]⟩ := ⟨_, rfl⟩
                    rw [← hT1]
                    have hsT4 : T4.size = T3.size + 1 := by rw [hT1, ByteArray.size_append]; rfl
                    have HT4 := Lib.hid (show tb T4 = tb T3 ++ [40] by rw [hT1]; simp [tb])
                    clear hT1 g1 g2
                    repeat (first | go_skip | go_guarded | go_step)
                    have g1 : T4.size + 1 ≤ maxLen := by unfold maxLen; omega
                    have g2 : ¬ (maxLen < T4.size + 1) := by unfold maxLen; omega
                    repeat (first | go_skip | go_guarded | go_step)
                    obtain ⟨T5, hT5⟩ : ∃ T5 : ByteArray, T5 = T4 ++ ⟨#[86]⟩ := ⟨_, rfl⟩
                    try rw [← hT5]
                    have hsT5 : T5.size = T4.size + 1 := by rw [hT5, ByteArray.size_append]; rfl
                    have HT5 := Lib.hid (show tb T5 = tb T4 ++ [86] by rw [hT5]; simp [tb])
                    clear g1 g2
                    refine (nth_any k wk (by omega)).mono ?_
                    rintro e w5 ⟨rfl, hb5⟩
                    have HB5 := Lib.hid (HBK.out.trans (hb5.mono HBK.out.size))
                    clear hb5
                    obtain ⟨Z, hZ⟩ : ∃ Z : ByteArray, Z = nthS k := ⟨_, rfl⟩
                    rw [← hZ]
                    have hZs : Z.size ≤ 32 := by rw [hZ]; exact nth_size k (by omega)
                    have HZ := Lib.hid (show tb Z = nthL k by rw [hZ]; simp [tb, nthS])
                    clear hZ
                    dsimp only
                    try rw [← hT5]
                    clear hT5
                    have g1 : T5.size + Z.size ≤ maxLen := by unfold maxLen; omega
                    have g2 : ¬ (maxLen < T5.size + Z.size) := by unfold maxLen; omega
                    go_upto_region 23 with (fail)
                    obtain ⟨T6, hT6⟩ : ∃ T6 : ByteArray, T6 = T5 ++ Z := ⟨_, rfl⟩
                    rw [← hT6]
                    have HT6 := Lib.hid (show tb T6 = tb T5 ++ tb Z by rw [hT6]; simp [tb])
                    clear hT6 g1 g2
                    repeat (first | go_skip | go_guarded | go_step)
                    go_roundw
                    case rel => exact ⟨k + 1, T6, by omega, by omega, rfl, by go_num, by
                      have hkm := HKM.out
                      rw [HT6.out, HT5.out, HT4.out, HT3.out, HZ.out, show k + 1 - q = (k - q) + 1 by omega, varsX, if_pos HKM.out, show q + (k - q) = k by omega]
                      simp, HB5.out⟩
                    case measure => simp [intOf] <;> omega
                  · have hke : ((k : Int) == (q : Int)) = false := by rw [beq_eq_false_iff_ne]; omega
                    have HKM := Lib.hid (show k - q ≠ 0 by omega)
                    clear hkq
                    have g1 : T3.size + 1 ≤ maxLen := by unfold maxLen; omega
                    have g2 : ¬ (maxLen < T3.size + 1) := by unfold maxLen; omega
                    go_upto_region 27 with (fail)
                    obtain ⟨T4, hT1⟩ : ∃ T4 : ByteArray, T4 = T3 ++ ⟨#[44]⟩ := ⟨_, rfl⟩
                    rw [← hT1]
                    have hsT4 : T4.size = T3.size + 1 := by rw [hT1, ByteArray.size_append]; rfl
                    have HT4 := Lib.hid (show tb T4 = tb T3 ++ [44] by rw [hT1]; simp [tb])
                    clear hT1 g1 g2
                    repeat (first | go_skip | go_guarded | go_step)
                    have g1 : T4.size + 1 ≤ maxLen := by unfold maxLen; omega
                    have g2 : ¬ (maxLen < T4.size + 1) := by unfold maxLen; omega
                    repeat (first | go_skip | go_guarded | go_step)
                    obtain ⟨T5, hT5⟩ : ∃ T5 : ByteArray, T5 = T4 ++ ⟨#[86]⟩ := ⟨_, rfl⟩
                    try rw [← hT5]
                    have hsT5 : T5.size = T4.size + 1 := by rw [hT5, ByteArray.size_append]; rfl
                    have HT5 := Lib.hid (show tb T5 = tb T4 ++ [86] by rw [hT5]; simp [tb])
                    clear g1 g2
                    refine (nth_any k wk (by omega)).mono ?_
                    rintro e w5 ⟨rfl, hb5⟩
                    have HB5 := Lib.hid (HBK.out.trans (hb5.mono HBK.out.size))
                    clear hb5
                    obtain ⟨Z, hZ⟩ : ∃ Z : ByteArray, Z = nthS k := ⟨_, rfl⟩
                    rw [← hZ]
                    have hZs : Z.size ≤ 32 := by rw [hZ]; exact nth_size k (by omega)
                    have HZ := Lib.hid (show tb Z = nthL k by rw [hZ]; simp [tb, nthS])
                    clear hZ
                    dsimp only
                    try rw [← hT5]
                    clear hT5
                    have g1 : T5.size + Z.size ≤ maxLen := by unfold maxLen; omega
                    have g2 : ¬ (maxLen < T5.size + Z.size) := by unfold maxLen; omega
                    go_upto_region 23 with (fail)
                    obtain ⟨T6, hT6⟩ : ∃ T6 : ByteArray, T6 = T5 ++ Z := ⟨_, rfl⟩
                    rw [← hT6]
                    have HT6 := Lib.hid (show tb T6 = tb T5 ++ tb Z by rw [hT6]; simp [tb])
                    clear hT6 g1 g2
                    repeat (first | go_skip | go_guarded | go_step)
                    go_roundw
                    case rel => exact ⟨k + 1, T6, by omega, by omega, rfl, by go_num, by
                      have hkm := HKM.out
                      rw [HT6.out, HT5.out, HT4.out, HT3.out, HZ.out, show k + 1 - q = (k - q) + 1 by omega, varsX, if_neg HKM.out, show q + (k - q) = k by omega]
                      simp, HB5.out⟩
                    case measure => simp [intOf] <;> omega
                · have HKN := Lib.hid (show min 3 (v - q) = k - q by omega)
                  by_cases hk3 : k < q + 3
                  · have hk1 : (k : Int) < (q : Int) + 3 := by omega
                    have hk2 : ¬ (k : Int) < (v : Int) := by omega
                    by_cases hqv : q < v
                    · have hqi : (q : Int) < (v : Int) := by omega
                      have g1 : T3.size + 1 ≤ maxLen := by unfold maxLen; omega
                      have g2 : ¬ (maxLen < T3.size + 1) := by unfold maxLen; omega
                      go_upto_region 16 with (fail)
                      obtain ⟨T7, hT1⟩ : ∃ T7 : ByteArray, T7 = T3 ++ ⟨#[41]⟩ := ⟨_, rfl⟩
                      rw [← hT1]
                      have hsT7 : T7.size = T3.size + 1 := by rw [hT1, ByteArray.size_append]; rfl
                      have HT7 := Lib.hid (show tb T7 = tb T3 ++ [41] by rw [hT1]; simp [tb])
                      clear hT1 g1 g2
                      have HTN := Lib.hid (show tb T7 = headX i ++ condsX v (j + 1) by
                        rw [HT7.out, HT3.out, HT2.out, HT1.out, HT.out, condsX, condX, HJQ.out, if_pos HJ.out, HKN.out, if_pos hqv]
                        simp)
                      repeat (first | go_skip | go_guarded | go_step)
                      go_roundw
                      case rel => exact ⟨j + 1, T7, by omega, rfl, by go_num, HTN.out, HBK.out⟩
                      case measure => simp [intOf] <;> omega
                    · have hqi : ¬ (q : Int) < (v : Int) := by omega
                      have HTN := Lib.hid (show tb T3 = headX i ++ condsX v (j + 1) by
                        rw [HT3.out, HT2.out, HT1.out, HT.out, condsX, condX, HJQ.out, if_pos HJ.out, HKN.out, if_neg hqv]
                        simp)
                      repeat (first | go_skip | go_guarded | go_step)
                      go_roundw
                      case rel => exact ⟨j + 1, T3, by omega, rfl, by go_num, HTN.out, HBK.out⟩
                      case measure => simp [intOf] <;> omega
                  · have hk1 : ¬ (k : Int) < (q : Int) + 3 := by omega
                    by_cases hqv : q < v
                    · have hqi : (q : Int) < (v : Int) := by omega
                      have g1 : T3.size + 1 ≤ maxLen := by unfold maxLen; omega
                      have g2 : ¬ (maxLen < T3.size + 1) := by unfold maxLen; omega
                      go_upto_region 16 with (fail)
                      obtain ⟨T7, hT1⟩ : ∃ T7 : ByteArray, T7 = T3 ++ ⟨#[41]⟩ := ⟨_, rfl⟩
                      rw [← hT1]
                      have hsT7 : T7.size = T3.size + 1 := by rw [hT1, ByteArray.size_append]; rfl
                      have HT7 := Lib.hid (show tb T7 = tb T3 ++ [41] by rw [hT1]; simp [tb])
                      clear hT1 g1 g2
                      have HTN := Lib.hid (show tb T7 = headX i ++ condsX v (j + 1) by
                        rw [HT7.out, HT3.out, HT2.out, HT1.out, HT.out, condsX, condX, HJQ.out, if_pos HJ.out, HKN.out, if_pos hqv]
                        simp)
                      repeat (first | go_skip | go_guarded | go_step)
                      go_roundw
                      case rel => exact ⟨j + 1, T7, by omega, rfl, by go_num, HTN.out, HBK.out⟩
                      case measure => simp [intOf] <;> omega
                    · have hqi : ¬ (q : Int) < (v : Int) := by omega
                      have HTN := Lib.hid (show tb T3 = headX i ++ condsX v (j + 1) by
                        rw [HT3.out, HT2.out, HT1.out, HT.out, condsX, condX, HJQ.out, if_pos HJ.out, HKN.out, if_neg hqv]
                        simp)
                      repeat (first | go_skip | go_guarded | go_step)
                      go_roundw
                      case rel => exact ⟨j + 1, T3, by omega, rfl, by go_num, HTN.out, HBK.out⟩
                      case measure => simp [intOf] <;> omega
            · have hje : ((j : Int) == 0) = false := by rw [beq_eq_false_iff_ne]; omega
              have HJ := Lib.hid hj0
              clear hj0
              have g1 : T.size + 1 ≤ maxLen := by unfold maxLen; omega
              have g2 : ¬ (maxLen < T.size + 1) := by unfold maxLen; omega
              go_upto_region 20 with (fail)
              obtain ⟨T1, hT1⟩ : ∃ T1 : ByteArray, T1 = T ++ ⟨#[44]⟩ := ⟨_, rfl⟩
              rw [← hT1]
              have hsT1 : T1.size = T.size + 1 := by rw [hT1, ByteArray.size_append]; rfl
              have HT1 := Lib.hid (show tb T1 = tb T ++ [44] by rw [hT1]; simp [tb])
              clear hT1 g1 g2
              have g1 : T1.size + 1 ≤ maxLen := by unfold maxLen; omega
              have g2 : ¬ (maxLen < T1.size + 1) := by unfold maxLen; omega
              go_upto_region 21 with (fail)
              obtain ⟨T2, hT1⟩ : ∃ T2 : ByteArray, T2 = T1 ++ ⟨#[112]⟩ := ⟨_, rfl⟩
              rw [← hT1]
              have hsT2 : T2.size = T1.size + 1 := by rw [hT1, ByteArray.size_append]; rfl
              have HT2 := Lib.hid (show tb T2 = tb T1 ++ [112] by rw [hT1]; simp [tb])
              clear hT1 g1 g2
              obtain ⟨q, hq⟩ : ∃ q, q = 3 * j := ⟨_, rfl⟩
              have hq3 : (3 : Int) * (j : Int) = (q : Int) := by omega
              have hq36 : q ≤ 36 := by omega
              have HJQ := Lib.hid hq.symm
              clear hq
              repeat (first | go_skip | go_guarded | go_step)
              go_loopw [12, 15] (fun t p wr => ∃ (k : Nat) (T : ByteArray), q ≤ k ∧ k ≤ q + min 3 (v - q) ∧ t = sv T ∧ p = .int .i64 (k : Int) ∧ tb T = tb T2 ++ varsX q (k - q) ∧ Below w.heap.size w wr) (fun _ p _ => q + 3 - (intOf p).toNat)
              case atStart => exact ⟨q, T2, Nat.le_refl _, by omega, rfl, (by first | rfl | rw [hq3]), by rw [Nat.sub_self, varsX]; simp, HBJ.out⟩
              case round =>
                rename World => wk
                obtain ⟨k, T3, hqk, hkn, rfl, rfl, hT3, hbk⟩ := hrel
                have hT3s : T3.size ≤ T2.size + 15 := by
                  rw [← tb_len T3, hT3, List.length_append, tb_len]
                  by_cases hvq : q < v
                  · rw [varsX_len _ _ (by omega)]; omega
                  · rw [show k - q = 0 by omega]; simp [varsX]
                have HT3 := Lib.hid hT3
                have HBK := Lib.hid hbk
                clear hT3 hbk
                by_cases hk : k < q + min 3 (v - q)
                · have hk1 : (k : Int) < (q : Int) + 3 := by omega
                  have hk2 : (k : Int) < (v : Int) := by omega
                  by_cases hkq : k = q
                  · have hke : ((k : Int) == (q : Int)) = true := by rw [hkq]; simp
                    have HKM := Lib.hid (show k - q = 0 by omega)
                    clear hkq
                    have g1 : T3.size + 1 ≤ maxLen := by unfold maxLen; omega
                    have g2 : ¬ (maxLen < T3.size + 1) := by unfold maxLen; omega
                    go_upto_region 27 with (fail)
                    obtain ⟨T4, hT1⟩ : ∃ T4 : ByteArray, T4 = T3 ++ ⟨#[40]⟩ := ⟨_, rfl⟩
                    rw [← hT1]
                    have hsT4 : T4.size = T3.size + 1 := by rw [hT1, ByteArray.size_append]; rfl
                    have HT4 := Lib.hid (show tb T4 = tb T3 ++ [40] by rw [hT1]; simp [tb])
                    clear hT1 g1 g2
                    repeat (first | go_skip | go_guarded | go_step)
                    have g1 : T4.size + 1 ≤ maxLen := by unfold maxLen; omega
                    have g2 : ¬ (maxLen < T4.size + 1) := by unfold maxLen; omega
                    repeat (first | go_skip | go_guarded | go_step)
                    obtain ⟨T5, hT5⟩ : ∃ T5 : ByteArray, T5 = T4 ++ ⟨#[86]⟩ := ⟨_, rfl⟩
                    try rw [← hT5]
                    have hsT5 : T5.size = T4.size + 1 := by rw [hT5, ByteArray.size_append]; rfl
                    have HT5 := Lib.hid (show tb T5 = tb T4 ++ [86] by rw [hT5]; simp [tb])
                    clear g1 g2
                    refine (nth_any k wk (by omega)).mono ?_
                    rintro e w5 ⟨rfl, hb5⟩
                    have HB5 := Lib.hid (HBK.out.trans (hb5.mono HBK.out.size))
                    clear hb5
                    obtain ⟨Z, hZ⟩ : ∃ Z : ByteArray, Z = nthS k := ⟨_, rfl⟩
                    rw [← hZ]
                    have hZs : Z.size ≤ 32 := by rw [hZ]; exact nth_size k (by omega)
                    have HZ := Lib.hid (show tb Z = nthL k by rw [hZ]; simp [tb, nthS])
                    clear hZ
                    dsimp only
                    try rw [← hT5]
                    clear hT5
                    have g1 : T5.size + Z.size ≤ maxLen := by unfold maxLen; omega
                    have g2 : ¬ (maxLen < T5.size + Z.size) := by unfold maxLen; omega
                    go_upto_region 23 with (fail)
                    obtain ⟨T6, hT6⟩ : ∃ T6 : ByteArray, T6 = T5 ++ Z := ⟨_, rfl⟩
                    rw [← hT6]
                    have HT6 := Lib.hid (show tb T6 = tb T5 ++ tb Z by rw [hT6]; simp [tb])
                    clear hT6 g1 g2
                    repeat (first | go_skip | go_guarded | go_step)
                    go_roundw
                    case rel => exact ⟨k + 1, T6, by omega, by omega, rfl, by go_num, by
                      have hkm := HKM.out
                      rw [HT6.out, HT5.out, HT4.out, HT3.out, HZ.out, show k + 1 - q = (k - q) + 1 by omega, varsX, if_pos HKM.out, show q + (k - q) = k by omega]
                      simp, HB5.out⟩
                    case measure => simp [intOf] <;> omega
                  · have hke : ((k : Int) == (q : Int)) = false := by rw [beq_eq_false_iff_ne]; omega
                    have HKM := Lib.hid (show k - q ≠ 0 by omega)
                    clear hkq
                    have g1 : T3.size + 1 ≤ maxLen := by unfold maxLen; omega
                    have g2 : ¬ (maxLen < T3.size + 1) := by unfold maxLen; omega
                    go_upto_region 27 with (fail)
                    obtain ⟨T4, hT1⟩ : ∃ T4 : ByteArray, T4 = T3 ++ ⟨#[44]⟩ := ⟨_, rfl⟩
                    rw [← hT1]
                    have hsT4 : T4.size = T3.size + 1 := by rw [hT1, ByteArray.size_append]; rfl
                    have HT4 := Lib.hid (show tb T4 = tb T3 ++ [44] by rw [hT1]; simp [tb])
                    clear hT1 g1 g2
                    repeat (first | go_skip | go_guarded | go_step)
                    have g1 : T4.size + 1 ≤ maxLen := by unfold maxLen; omega
                    have g2 : ¬ (maxLen < T4.size + 1) := by unfold maxLen; omega
                    repeat (first | go_skip | go_guarded | go_step)
                    obtain ⟨T5, hT5⟩ : ∃ T5 : ByteArray, T5 = T4 ++ ⟨#[86]⟩ := ⟨_, rfl⟩
                    try rw [← hT5]
                    have hsT5 : T5.size = T4.size + 1 := by rw [hT5, ByteArray.size_append]; rfl
                    have HT5 := Lib.hid (show tb T5 = tb T4 ++ [86] by rw [hT5]; simp [tb])
                    clear g1 g2
                    refine (nth_any k wk (by omega)).mono ?_
                    rintro e w5 ⟨rfl, hb5⟩
                    have HB5 := Lib.hid (HBK.out.trans (hb5.mono HBK.out.size))
                    clear hb5
                    obtain ⟨Z, hZ⟩ : ∃ Z : ByteArray, Z = nthS k := ⟨_, rfl⟩
                    rw [← hZ]
                    have hZs : Z.size ≤ 32 := by rw [hZ]; exact nth_size k (by omega)
                    have HZ := Lib.hid (show tb Z = nthL k by rw [hZ]; simp [tb, nthS])
                    clear hZ
                    dsimp only
                    try rw [← hT5]
                    clear hT5
                    have g1 : T5.size + Z.size ≤ maxLen := by unfold maxLen; omega
                    have g2 : ¬ (maxLen < T5.size + Z.size) := by unfold maxLen; omega
                    go_upto_region 23 with (fail)
                    obtain ⟨T6, hT6⟩ : ∃ T6 : ByteArray, T6 = T5 ++ Z := ⟨_, rfl⟩
                    rw [← hT6]
                    have HT6 := Lib.hid (show tb T6 = tb T5 ++ tb Z by rw [hT6]; simp [tb])
                    clear hT6 g1 g2
                    repeat (first | go_skip | go_guarded | go_step)
                    go_roundw
                    case rel => exact ⟨k + 1, T6, by omega, by omega, rfl, by go_num, by
                      have hkm := HKM.out
                      rw [HT6.out, HT5.out, HT4.out, HT3.out, HZ.out, show k + 1 - q = (k - q) + 1 by omega, varsX, if_neg HKM.out, show q + (k - q) = k by omega]
                      simp, HB5.out⟩
                    case measure => simp [intOf] <;> omega
                · have HKN := Lib.hid (show min 3 (v - q) = k - q by omega)
                  by_cases hk3 : k < q + 3
                  · have hk1 : (k : Int) < (q : Int) + 3 := by omega
                    have hk2 : ¬ (k : Int) < (v : Int) := by omega
                    by_cases hqv : q < v
                    · have hqi : (q : Int) < (v : Int) := by omega
                      have g1 : T3.size + 1 ≤ maxLen := by unfold maxLen; omega
                      have g2 : ¬ (maxLen < T3.size + 1) := by unfold maxLen; omega
                      go_upto_region 16 with (fail)
                      obtain ⟨T7, hT1⟩ : ∃ T7 : ByteArray, T7 = T3 ++ ⟨#[41]⟩ := ⟨_, rfl⟩
                      rw [← hT1]
                      have hsT7 : T7.size = T3.size + 1 := by rw [hT1, ByteArray.size_append]; rfl
                      have HT7 := Lib.hid (show tb T7 = tb T3 ++ [41] by rw [hT1]; simp [tb])
                      clear hT1 g1 g2
                      have HTN := Lib.hid (show tb T7 = headX i ++ condsX v (j + 1) by
                        rw [HT7.out, HT3.out, HT2.out, HT1.out, HT.out, condsX, condX, HJQ.out, if_neg HJ.out, HKN.out, if_pos hqv]
                        simp)
                      repeat (first | go_skip | go_guarded | go_step)
                      go_roundw
                      case rel => exact ⟨j + 1, T7, by omega, rfl, by go_num, HTN.out, HBK.out⟩
                      case measure => simp [intOf] <;> omega
                    · have hqi : ¬ (q : Int) < (v : Int) := by omega
                      have HTN := Lib.hid (show tb T3 = headX i ++ condsX v (j + 1) by
                        rw [HT3.out, HT2.out, HT1.out, HT.out, condsX, condX, HJQ.out, if_neg HJ.out, HKN.out, if_neg hqv]
                        simp)
                      repeat (first | go_skip | go_guarded | go_step)
                      go_roundw
                      case rel => exact ⟨j + 1, T3, by omega, rfl, by go_num, HTN.out, HBK.out⟩
                      case measure => simp [intOf] <;> omega
                  · have hk1 : ¬ (k : Int) < (q : Int) + 3 := by omega
                    by_cases hqv : q < v
                    · have hqi : (q : Int) < (v : Int) := by omega
                      have g1 : T3.size + 1 ≤ maxLen := by unfold maxLen; omega
                      have g2 : ¬ (maxLen < T3.size + 1) := by unfold maxLen; omega
                      go_upto_region 16 with (fail)
                      obtain ⟨T7, hT1⟩ : ∃ T7 : ByteArray, T7 = T3 ++ ⟨#[41]⟩ := ⟨_, rfl⟩
                      rw [← hT1]
                      have hsT7 : T7.size = T3.size + 1 := by rw [hT1, ByteArray.size_append]; rfl
                      have HT7 := Lib.hid (show tb T7 = tb T3 ++ [41] by rw [hT1]; simp [tb])
                      clear hT1 g1 g2
                      have HTN := Lib.hid (show tb T7 = headX i ++ condsX v (j + 1) by
                        rw [HT7.out, HT3.out, HT2.out, HT1.out, HT.out, condsX, condX, HJQ.out, if_neg HJ.out, HKN.out, if_pos hqv]
                        simp)
                      repeat (first | go_skip | go_guarded | go_step)
                      go_roundw
                      case rel => exact ⟨j + 1, T7, by omega, rfl, by go_num, HTN.out, HBK.out⟩
                      case measure => simp [intOf] <;> omega
                    · have hqi : ¬ (q : Int) < (v : Int) := by omega
                      have HTN := Lib.hid (show tb T3 = headX i ++ condsX v (j + 1) by
                        rw [HT3.out, HT2.out, HT1.out, HT.out, condsX, condX, HJQ.out, if_neg HJ.out, HKN.out, if_neg hqv]
                        simp)
                      repeat (first | go_skip | go_guarded | go_step)
                      go_roundw
                      case rel => exact ⟨j + 1, T3, by omega, rfl, by go_num, HTN.out, HBK.out⟩
                      case measure => simp [intOf] <;> omega
          · obtain rfl : j = c := by omega
            have hci2 : ¬ (j : Int) < (j : Int) := by omega
            have hM := many_parse i j v ha10 hc12 hv20
            obtain ⟨rs0, ns0, y0, z0, hM0, hM1, hM2⟩ := hM
            have HM0 := Lib.hid hM0
            have HM1 := Lib.hid hM1
            have HM2 := Lib.hid hM2
            obtain ⟨mn, hmn⟩ : ∃ mn, mn = min v (3 * j) := ⟨_, rfl⟩
            have hmi : min (v : Int) (3 * (j : Int)) = (mn : Int) := by omega
            have HMN := Lib.hid hmn
            clear hM0 hM1 hM2 hmn
            by_cases b6 : 6 < i
            · have HMB := Lib.hid (show manyB i j v = true by unfold manyB; rw [decide_eq_true b6]; rfl)
              exact absurd b6 (by omega)
            · by_cases b8 : 8 < j
              · have HMB := Lib.hid (show manyB i j v = true by unfold manyB; rw [decide_eq_true b8, Bool.or_true]; rfl)
                have d6 : decide ((6 : Int) < (i : Int)) = false := by simp; omega
                have e6 : decide (6 < i) = false := by simp; omega
                have f6 : ¬ (6 < i) := by omega
                have d8 : decide ((8 : Int) < (j : Int)) = true := by simp; omega
                have e8 : decide (8 < j) = true := by simp; omega
                have f8 : (8 < j) := by omega
                repeat (first | go_skip | go_guarded | go_step)
                refine (tNew wj).mono ?_
                rintro e w1 ⟨g, F, rfl, ht, hF, hb⟩
                have HT1 := Lib.hid ht
                have HB1 := Lib.hid (HBJ.out.trans (hb.mono HBJ.out.size))
                have HFW := Lib.hid (show ∀ k, F k → w.heap.size ≤ k from fun k hk => Nat.le_trans HBJ.out.size (hF k hk))
                clear ht hF hb
                dsimp only
                have g1 : T.size + 1 ≤ maxLen := by unfold maxLen; omega
                have g2 : ¬ (maxLen < T.size + 1) := by unfold maxLen; omega
                repeat (first | go_skip | go_guarded | go_step)
                obtain ⟨X, hX⟩ : ∃ X : ByteArray, X = T ++ ⟨#[46]⟩ := ⟨_, rfl⟩
                try rw [← hX]
                have hXs : X.size = T.size + 1 := by rw [hX, ByteArray.size_append]; rfl
                have HXT := Lib.hid (show tb X = manyX i j v by
                  have h1 : tb X = tb T ++ [46] := by rw [hX]; simp [tb]
                  rw [h1, HT.out]
                  unfold manyX
                  rw [List.append_assoc])
                clear g1 g2
                refine (ok.parse g F [] X w1 (ok.later _ _ HPW.out HB1.out) HT1.out (Good.nil _) (by omega)).mono ?_
                rintro e w2 ⟨A2, n2, c2, Q2, rs, ns, y, z, F2, rfl, hnc, hn2, hrd, ht2, hT2, hF2, hpa⟩
                try rw [← hX]
                clear hX
                rw [HXT.out, ← HM0.out] at hpa
                simp only [Prod.mk.injEq] at hpa
                obtain ⟨p1, p2, _, p4⟩ := hpa
                have HB2 := Lib.hid (HB1.out.trans (hT2.below (fun k _ h => HFW.out k h) HB1.out.size))
                have HT2 := Lib.hid ht2
                have hrr := hrd w2 (Turn.refl _ _)
                clear ht2 hT2 hF2 hrd
                obtain ⟨q1, q2, q3⟩ := HM1.out HMB.out
                have hz : ((z : Int) == 6) = true := by rw [p4, q1]; rfl
                have hnz : ((n2 : Int) == 0) = true := by
                  have := hrr.lenL
                  rw [p1, q2] at this
                  rw [← this]; rfl
                have hnl : ((ns.length : Int) == 0) = true := by rw [p2, q3]; rfl
                clear p1 p2 p4 q1 q2 q3 hrr
                dsimp only
                repeat (first | go_skip | go_guarded | go_step)
                refine (tLen g F2 ns w2 HT2.out).mono ?_
                rintro e w2' ⟨rfl, rfl⟩
                dsimp only
                repeat (first | go_skip | go_guarded | go_step)
                refine (HRF.out w2 HB2.out).mono ?_
                rintro e w9 ⟨rfl, hb9⟩
                dsimp only
                repeat (first | go_skip | go_guarded | go_step)
                go_ret
                exact ⟨rfl, hb9⟩
              · by_cases b16 : 16 < mn
                · have HMB := Lib.hid (show manyB i j v = true by unfold manyB; rw [← HMN.out, decide_eq_true b16, Bool.or_true])
                  have d6 : decide ((6 : Int) < (i : Int)) = false := by simp; omega
                  have e6 : decide (6 < i) = false := by simp; omega
                  have f6 : ¬ (6 < i) := by omega
                  have d8 : decide ((8 : Int) < (j : Int)) = false := by simp; omega
                  have e8 : decide (8 < j) = false := by simp; omega
                  have f8 : ¬ (8 < j) := by omega
                  have d16 : decide ((16 : Int) < (mn : Int)) = true := by simp; omega
                  have e16 : decide (16 < mn) = true := by simp; omega
                  have f16 : (16 < mn) := by omega
                  repeat (first | go_skip | go_guarded | go_step)
                  refine (tNew wj).mono ?_
                  rintro e w1 ⟨g, F, rfl, ht, hF, hb⟩
                  have HT1 := Lib.hid ht
                  have HB1 := Lib.hid (HBJ.out.trans (hb.mono HBJ.out.size))
                  have HFW := Lib.hid (show ∀ k, F k → w.heap.size ≤ k from fun k hk => Nat.le_trans HBJ.out.size (hF k hk))
                  clear ht hF hb
                  dsimp only
                  have g1 : T.size + 1 ≤ maxLen := by unfold maxLen; omega
                  have g2 : ¬ (maxLen < T.size + 1) := by unfold maxLen; omega
                  repeat (first | go_skip | go_guarded | go_step)
                  obtain ⟨X, hX⟩ : ∃ X : ByteArray, X = T ++ ⟨#[46]⟩ := ⟨_, rfl⟩
                  try rw [← hX]
                  have hXs : X.size = T.size + 1 := by rw [hX, ByteArray.size_append]; rfl
                  have HXT := Lib.hid (show tb X = manyX i j v by
                    have h1 : tb X = tb T ++ [46] := by rw [hX]; simp [tb]
                    rw [h1, HT.out]
                    unfold manyX
                    rw [List.append_assoc])
                  clear g1 g2
                  refine (ok.parse g F [] X w1 (ok.later _ _ HPW.out HB1.out) HT1.out (Good.nil _) (by omega)).mono ?_
                  rintro e w2 ⟨A2, n2, c2, Q2, rs, ns, y, z, F2, rfl, hnc, hn2, hrd, ht2, hT2, hF2, hpa⟩
                  try rw [← hX]
                  clear hX
                  rw [HXT.out, ← HM0.out] at hpa
                  simp only [Prod.mk.injEq] at hpa
                  obtain ⟨p1, p2, _, p4⟩ := hpa
                  have HB2 := Lib.hid (HB1.out.trans (hT2.below (fun k _ h => HFW.out k h) HB1.out.size))
                  have HT2 := Lib.hid ht2
                  have hrr := hrd w2 (Turn.refl _ _)
                  clear ht2 hT2 hF2 hrd
                  obtain ⟨q1, q2, q3⟩ := HM1.out HMB.out
                  have hz : ((z : Int) == 6) = true := by rw [p4, q1]; rfl
                  have hnz : ((n2 : Int) == 0) = true := by
                    have := hrr.lenL
                    rw [p1, q2] at this
                    rw [← this]; rfl
                  have hnl : ((ns.length : Int) == 0) = true := by rw [p2, q3]; rfl
                  clear p1 p2 p4 q1 q2 q3 hrr
                  dsimp only
                  repeat (first | go_skip | go_guarded | go_step)
                  refine (tLen g F2 ns w2 HT2.out).mono ?_
                  rintro e w2' ⟨rfl, rfl⟩
                  dsimp only
                  repeat (first | go_skip | go_guarded | go_step)
                  refine (HRF.out w2 HB2.out).mono ?_
                  rintro e w9 ⟨rfl, hb9⟩
                  dsimp only
                  repeat (first | go_skip | go_guarded | go_step)
                  go_ret
                  exact ⟨rfl, hb9⟩
                · have HMB := Lib.hid (show manyB i j v = false by unfold manyB; rw [← HMN.out, decide_eq_false b16, decide_eq_false b8, decide_eq_false b6]; rfl)
                  have d6 : decide ((6 : Int) < (i : Int)) = false := by simp; omega
                  have e6 : decide (6 < i) = false := by simp; omega
                  have f6 : ¬ (6 < i) := by omega
                  have d8 : decide ((8 : Int) < (j : Int)) = false := by simp; omega
                  have e8 : decide (8 < j) = false := by simp; omega
                  have f8 : ¬ (8 < j) := by omega
                  have d16 : decide ((16 : Int) < (mn : Int)) = false := by simp; omega
                  have e16 : decide (16 < mn) = false := by simp; omega
                  have f16 : ¬ (16 < mn) := by omega
                  repeat (first | go_skip | go_guarded | go_step)
                  refine (tNew wj).mono ?_
                  rintro e w1 ⟨g, F, rfl, ht, hF, hb⟩
                  have HT1 := Lib.hid ht
                  have HB1 := Lib.hid (HBJ.out.trans (hb.mono HBJ.out.size))
                  have HFW := Lib.hid (show ∀ k, F k → w.heap.size ≤ k from fun k hk => Nat.le_trans HBJ.out.size (hF k hk))
                  clear ht hF hb
                  dsimp only
                  have g1 : T.size + 1 ≤ maxLen := by unfold maxLen; omega
                  have g2 : ¬ (maxLen < T.size + 1) := by unfold maxLen; omega
                  repeat (first | go_skip | go_guarded | go_step)
                  obtain ⟨X, hX⟩ : ∃ X : ByteArray, X = T ++ ⟨#[46]⟩ := ⟨_, rfl⟩
                  try rw [← hX]
                  have hXs : X.size = T.size + 1 := by rw [hX, ByteArray.size_append]; rfl
                  have HXT := Lib.hid (show tb X = manyX i j v by
                    have h1 : tb X = tb T ++ [46] := by rw [hX]; simp [tb]
                    rw [h1, HT.out]
                    unfold manyX
                    rw [List.append_assoc])
                  clear g1 g2
                  refine (ok.parse g F [] X w1 (ok.later _ _ HPW.out HB1.out) HT1.out (Good.nil _) (by omega)).mono ?_
                  rintro e w2 ⟨A2, n2, c2, Q2, rs, ns, y, z, F2, rfl, hnc, hn2, hrd, ht2, hT2, hF2, hpa⟩
                  try rw [← hX]
                  clear hX
                  rw [HXT.out, ← HM0.out] at hpa
                  simp only [Prod.mk.injEq] at hpa
                  obtain ⟨p1, p2, _, p4⟩ := hpa
                  have HB2 := Lib.hid (HB1.out.trans (hT2.below (fun k _ h => HFW.out k h) HB1.out.size))
                  have HT2 := Lib.hid ht2
                  have hrr := hrd w2 (Turn.refl _ _)
                  clear ht2 hT2 hF2 hrd
                  obtain ⟨q1, r0, q2, q3, q4⟩ := HM2.out HMB.out
                  have hz : ((z : Int) != 0) = false := by rw [p4, q1]; rfl
                  have hn1 : n2 = 1 := by
                    have := hrr.lenL
                    rw [p1, q2] at this
                    exact this.symm
                  have hnz : ((n2 : Int) != 1) = false := by rw [hn1]; rfl
                  have hnp : (0 : Int) < (n2 : Int) := by omega
                  obtain ⟨b, o, sd, tm, p, as_, M, Ai, ni, ci, Bi, mi, di, Ri, hA, hbb, hx, c0, c1, cc2, c3, c4, c5, hta, hka⟩ := hrr.at_ (i := 0) (by omega)
                  rw [p1, q2] at hx
                  simp only [List.getElem?_cons_zero, Option.some.injEq] at hx
                  have hmj : ((mi : Int) != (j : Int)) = false := by
                    have h1 := hka.lenL
                    rw [hx] at q3
                    dsimp only at q3
                    rw [← h1, q3]
                    simp
                  have hni : ((ni : Int) != (i : Int)) = false := by
                    have h1 := rdT_len hta
                    rw [hx] at q4
                    dsimp only at q4
                    rw [← h1, q4]
                    simp
                  subst hA
                  simp only [Nat.zero_mul, Nat.add_zero] at c0 c1 cc2 c3 c4 c5
                  obtain ⟨m16, hm16⟩ : ∃ m, m = x3 % 16 := ⟨_, rfl⟩
                  have e3 : (x3 : Int).tmod 16 = (m16 : Int) := by rw [Int.tmod_eq_emod_of_nonneg (by omega)]; omega
                  clear hm16 p1 p2 p4 q1 q2 q3 q4 hrr hx hta hka hn1 c0 c1 cc2 c3
                  dsimp only
                  by_cases hr : m16 = 0
                  · have hri : ((m16 : Int) != 0) = false := by rw [hr]; rfl
                    clear hr
                    repeat (first | go_skip | go_guarded | go_step)
                    refine (tNew w2).mono ?_
                    rintro e w3 ⟨gg, F3, rfl, ht3, hF3, hb3⟩
                    have HT3 := Lib.hid ht3
                    have HB3 := Lib.hid (HB2.out.trans (hb3.mono HB2.out.size))
                    have HF3 := Lib.hid (show ∀ k, F3 k → w.heap.size ≤ k from fun k hk => Nat.le_trans HB2.out.size (hF3 k hk))
                    clear ht3 hF3 hb3 c4 c5
                    dsimp only
                    repeat (first | go_skip | go_guarded | go_step)
                    go_loopw [22] (fun p wr => ∃ (k : Nat) (F' : Nat → Prop), k ≤ 4095 ∧ p = .int .i64 (k : Int) ∧ Tb wr gg F' (tabL k) ∧ (∀ n, F' n → w.heap.size ≤ n) ∧ Below w.heap.size w wr) (fun p _ => 4095 - (intOf p).toNat)
                    case atStart => exact ⟨0, F3, by omega, rfl, HT3.out, HF3.out, HB3.out⟩
                    case round =>
                      rename World => wk
                      obtain ⟨k, F', hk, rfl, ht, hF, hb⟩ := hrel
                      have HTK := Lib.hid ht
                      have HFK := Lib.hid hF
                      have HBK := Lib.hid hb
                      clear ht hF hb
                      by_cases hlt2 : k < 4095
                      · have hck : (k : Int) < 4095 := by omega
                        repeat (first | go_skip | go_guarded | go_step)
                        refine (nth_any k wk (by omega)).mono ?_
                        rintro e w5 ⟨rfl, hb5⟩
                        have HB5 := Lib.hid (HBK.out.trans (hb5.mono HBK.out.size))
                        have HT5 := Lib.hid (HTK.out.later hb5)
                        clear hb5
                        dsimp only
                        repeat (first | go_skip | go_guarded | go_step)
                        refine (tPut' may_ok8 gg F' (tabL k) (nthS k) w.heap.size w5 HT5.out HFK.out HB5.out.size (by rw [tabL_len]; omega) (by have := nth_size k (by omega); omega) _ _ _ (put_next k (by omega))).mono ?_
                        rintro e w6 ⟨rfl, F6, ht6, hF6, hb6⟩
                        have HT6 := Lib.hid ht6
                        have HF6 := Lib.hid hF6
                        have HB6 := Lib.hid hb6
                        clear ht6 hF6 hb6
                        dsimp only
                        repeat (first | go_skip | go_guarded | go_step)
                        go_roundw
                        case rel => exact ⟨k + 1, F6, by omega, by go_num, HT6.out, HF6.out, HB5.out.trans HB6.out⟩
                        case measure => simp [intOf] <;> omega
                      · have hck : ¬ (k : Int) < 4095 := by omega
                        have hk95 : k = 4095 := by omega
                        have HTZ := Lib.hid (show Tb wk gg F' (tabL 4095) by rw [← hk95]; exact HTK.out)
                        clear hk95
                        obtain ⟨Z, hZ⟩ : ∃ Z, Z = nthS 7 := ⟨_, rfl⟩
                        have hZt : tb Z = [110, 95, 104] := by rw [hZ, nth7]
                        have hZs : Z.size = 3 := by rw [← tb_len, hZt]; rfl
                        have HN7 := Lib.hid (show ∀ W : World, Calls Tryz.prog 22 #[.int .i64 7] W fun e w' => e = .returned (sv Z) ∧ Below W.heap.size W w' from fun W => by rw [hZ]; exact nth_any 7 W (by omega))
                        have HZT := Lib.hid hZt
                        clear hZ hZt
                        repeat (first | go_skip | go_guarded | go_step)
                        refine (HN7.out wk).mono ?_
                        rintro e w5 ⟨rfl, hb5⟩
                        have HB5 := Lib.hid (HBK.out.trans (hb5.mono HBK.out.size))
                        have HT5 := Lib.hid (HTZ.out.later hb5)
                        clear hb5
                        dsimp only
                        have g1 : 5 + Z.size ≤ maxLen := by unfold maxLen; omega
                        have g2 : ¬ (maxLen < 5 + Z.size) := by unfold maxLen; omega
                        have g3 : 5 + Z.size + 1 ≤ maxLen := by unfold maxLen; omega
                        have g4 : ¬ (maxLen < 5 + Z.size + 1) := by unfold maxLen; omega
                        have g5 : (⟨#[111, 110, 101, 46, 32]⟩ : ByteArray).size = 5 := rfl
                        have g6 : ((⟨#[111, 110, 101, 46, 32]⟩ : ByteArray) ++ Z).size = 5 + Z.size := by rw [ByteArray.size_append]; rfl
                        repeat (first | go_skip | go_guarded | go_step)
                        obtain ⟨Y, hY⟩ : ∃ Y : ByteArray, Y = (⟨#[111, 110, 101, 46, 32]⟩ ++ Z) ++ ⟨#[46]⟩ := ⟨_, rfl⟩
                        try rw [← hY]
                        have hYs : Y.size = 9 := by rw [hY, ByteArray.size_append, g6, hZs]; rfl
                        have HYT := Lib.hid (show tb Y = [111, 110, 101, 46, 32, 110, 95, 104, 46] by
                          have h1 : tb Y = [111, 110, 101, 46, 32] ++ tb Z ++ [46] := by rw [hY]; simp [tb]
                          rw [h1, HZT.out]; rfl)
                        clear g1 g2 g3 g4 g5 g6
                        refine (ok.parse gg F' (tabL 4095) Y w5 (ok.later _ _ HPW.out HB5.out) HT5.out tab_good (by omega)).mono ?_
                        rintro e w6 ⟨A6, n6, c6, Q6, rs6, ns6, y6, z6, F6, rfl, hnc6, hn6, hrd6, ht6, hT6, hF6, hpa6⟩
                        try rw [← hY]
                        clear hY
                        have hfine := (parseL_fine tab_good hpa6).1
                        obtain ⟨rsz, hf1⟩ := full1
                        rw [HYT.out, hf1] at hpa6
                        simp only [Prod.mk.injEq] at hpa6
                        obtain ⟨_, p2', _, p4'⟩ := hpa6
                        have hz6 : ((z6 : Int) == 0) = true := by rw [p4']; rfl
                        rw [p2'] at ht6 hfine
                        have HT6 := Lib.hid ht6
                        have HG6 := Lib.hid hfine
                        have HB6 := Lib.hid (HB5.out.trans (hT6.below (fun k _ h => HFK.out k h) HB5.out.size))
                        have HF6 := Lib.hid (show ∀ k, F6 k → w.heap.size ≤ k from fun k h => by
                          rcases hF6 k h with h | h
                          · exact HFK.out k h
                          · exact Nat.le_trans HB5.out.size h)
                        clear hrd6 ht6 hT6 hF6 hfine p2' p4' hf1
                        dsimp only
                        repeat (first | go_skip | go_guarded | go_step)
                        refine (HN7.out w6).mono ?_
                        rintro e w7 ⟨rfl, hb7⟩
                        have HB7 := Lib.hid (HB6.out.trans (hb7.mono HB6.out.size))
                        have HT7 := Lib.hid (HT6.out.later hb7)
                        clear hb7
                        dsimp only
                        have g1 : Z.size + 7 ≤ maxLen := by unfold maxLen; omega
                        have g2 : ¬ (maxLen < Z.size + 7) := by unfold maxLen; omega
                        repeat (first | go_skip | go_guarded | go_step)
                        obtain ⟨Y2, hY2⟩ : ∃ Y : ByteArray, Y = Z ++ ⟨#[46, 32, 109, 111, 114, 101, 46]⟩ := ⟨_, rfl⟩
                        try rw [← hY2]
                        have hYs2 : Y2.size = 10 := by rw [hY2, ByteArray.size_append, hZs]; rfl
                        have HYT2 := Lib.hid (show tb Y2 = [110, 95, 104, 46, 32, 109, 111, 114, 101, 46] by
                          have h1 : tb Y2 = tb Z ++ [46, 32, 109, 111, 114, 101, 46] := by rw [hY2]; simp [tb]
                          rw [h1, HZT.out]; rfl)
                        clear g1 g2
                        refine (ok.parse gg F6 (tabL 4095 ++ [oneW]) Y2 w7 (ok.later _ _ HPW.out HB7.out) HT7.out HG6.out (by omega)).mono ?_
                        rintro e w8 ⟨A8, n8, c8, Q8, rs8, ns8, y8, z8, F8, rfl, hnc8, hn8, hrd8, ht8, hT8, hF8, hpa8⟩
                        try rw [← hY2]
                        clear hY2
                        rw [HYT2.out, full2] at hpa8
                        simp only [Prod.mk.injEq] at hpa8
                        obtain ⟨_, p2', p3', p4'⟩ := hpa8
                        have hz8 : ((z8 : Int) == 6) = true := by rw [p4']; rfl
                        have hy8 : ((y8 : Int) == (Z.size : Int) + 2) = true := by rw [p3', hZs]; rfl
                        have hnl8 : ((ns8.length : Int) == 4096) = true := by rw [p2', List.length_append, tabL_len]; rfl
                        have HT8 := Lib.hid ht8
                        have HB8 := Lib.hid (HB7.out.trans (hT8.below (fun k _ h => HF6.out k h) HB7.out.size))
                        have hZ3 : (Z.size : Int) ≤ 3 := by omega
                        have HZS := Lib.hid hZs
                        clear hrd8 ht8 hT8 hF8 p2' p3' p4' hZs
                        dsimp only
                        repeat (first | go_skip | go_guarded | go_step)
                        refine (HN7.out w8).mono ?_
                        rintro e w9 ⟨rfl, hb9⟩
                        have HB9 := Lib.hid (HB8.out.trans (hb9.mono HB8.out.size))
                        have HT9 := Lib.hid (HT8.out.later hb9)
                        clear hb9
                        dsimp only
                        repeat (first | go_skip | go_guarded | go_step)
                        refine (tLen gg F8 ns8 w9 HT9.out).mono ?_
                        rintro e w9' ⟨rfl, rfl⟩
                        dsimp only
                        repeat (first | go_skip | go_guarded | go_step)
                        refine (HRF.out w9 HB9.out).mono ?_
                        rintro e w10 ⟨rfl, hb10⟩
                        dsimp only
                        repeat (first | go_skip | go_guarded | go_step)
                        go_ret
                        exact ⟨rfl, hb10⟩
                  · have hri : ((m16 : Int) != 0) = true := by rw [bne_iff_ne]; omega
                    clear hr
                    repeat (first | go_skip | go_guarded | go_step)
                    refine (HRF.out w2 HB2.out).mono ?_
                    rintro e w9 ⟨rfl, hb9⟩
                    dsimp only
                    repeat (first | go_skip | go_guarded | go_step)
                    go_ret
                    exact ⟨rfl, hb9⟩
      · have hgt : decide ((0 : Int) < (i : Int)) = true := by simp; omega
        have hgn : decide (0 < i) = true := by simp; omega
        have hgp : 0 < i := by omega
        have HI := Lib.hid hi0
        clear hi0
        have g1 : T.size + 1 ≤ maxLen := by unfold maxLen; omega
        have g2 : ¬ (maxLen < T.size + 1) := by unfold maxLen; omega
        go_upto_region 14 with (fail)
        obtain ⟨T1, hT1⟩ : ∃ T1 : ByteArray, T1 = T ++ ⟨#[41]⟩ := ⟨_, rfl⟩
        rw [← hT1]
        have hsT1 : T1.size = T.size + 1 := by rw [hT1, ByteArray.size_append]; rfl
        have HT1 := Lib.hid (show tb T1 = tb T ++ [41] by rw [hT1]; simp [tb])
        clear hT1 g1 g2
        have hTh := Lib.hid (show tb T1 = headX i by rw [HT1.out, HT.out]; unfold headX; rw [if_neg HI.out]; simp)
        have hT20 : T1.size ≤ 21 := by omega
        obtain ⟨T0, HT0⟩ : ∃ T0, T0 = T1 := ⟨_, rfl⟩
        rw [← HT0] at hTh hT20 ⊢
        have HH := hTh
        clear hTh HT0
        clear HT hTs HT1 hsT1
        repeat (first | go_skip | go_guarded | go_step)
        go_loopw [12, 14] (fun t p wr => ∃ (j : Nat) (T : ByteArray), j ≤ c ∧ t = sv T ∧ p = .int .i64 (j : Int) ∧ tb T = headX i ++ condsX v j ∧ Below w.heap.size w wr) (fun _ p _ => c - (intOf p).toNat)
        case atStart => exact ⟨0, T0, by omega, rfl, rfl, by rw [HH.out, condsX]; simp, Below.refl _ _⟩
        case round =>
          rename World => wj
          obtain ⟨j, T, hj, rfl, rfl, hT, hbj⟩ := hrel
          have hTs : T.size ≤ 300 := by
            rw [← tb_len, hT, List.length_append]
            have h1 := headX_len i
            have h2 := condsX_len v (by omega) j
            omega
          have HT := Lib.hid hT
          have HBJ := Lib.hid hbj
          clear hT hbj
          by_cases hlt : j < c
          · have hci2 : (j : Int) < (c : Int) := by omega
            by_cases hj0 : j = 0
            · have hje : ((j : Int) == 0) = true := by subst hj0; rfl
              have HJ := Lib.hid hj0
              clear hj0
              have g1 : T.size + 2 ≤ maxLen := by unfold maxLen; omega
              have g2 : ¬ (maxLen < T.size + 2) := by unfold maxLen; omega
              go_upto_region 20 with (fail)
              obtain ⟨T1, hT1⟩ : ∃ T1 : ByteArray, T1 = T ++ ⟨#[58, 45]⟩ := ⟨_, rfl⟩
              rw [← hT1]
              have hsT1 : T1.size = T.size + 2 := by rw [hT1, ByteArray.size_append]; rfl
              have HT1 := Lib.hid (show tb T1 = tb T ++ [58, 45] by rw [hT1]; simp [tb])
              clear hT1 g1 g2
              have g1 : T1.size + 1 ≤ maxLen := by unfold maxLen; omega
              have g2 : ¬ (maxLen < T1.size + 1) := by unfold maxLen; omega
              go_upto_region 21 with (fail)
              obtain ⟨T2, hT1⟩ : ∃ T2 : ByteArray, T2 = T1 ++ ⟨#[112]⟩ := ⟨_, rfl⟩
              rw [← hT1]
              have hsT2 : T2.size = T1.size + 1 := by rw [hT1, ByteArray.size_append]; rfl
              have HT2 := Lib.hid (show tb T2 = tb T1 ++ [112] by rw [hT1]; simp [tb])
              clear hT1 g1 g2
              obtain ⟨q, hq⟩ : ∃ q, q = 3 * j := ⟨_, rfl⟩
              have hq3 : (3 : Int) * (j : Int) = (q : Int) := by omega
              have hq36 : q ≤ 36 := by omega
              have HJQ := Lib.hid hq.symm
              clear hq
              repeat (first | go_skip | go_guarded | go_step)
              go_loopw [12, 15] (fun t p wr => ∃ (k : Nat) (T : ByteArray), q ≤ k ∧ k ≤ q + min 3 (v - q) ∧ t = sv T ∧ p = .int .i64 (k : Int) ∧ tb T = tb T2 ++ varsX q (k - q) ∧ Below w.heap.size w wr) (fun _ p _ => q + 3 - (intOf p).toNat)
              case atStart => exact ⟨q, T2, Nat.le_refl _, by omega, rfl, (by first | rfl | rw [hq3]), by rw [Nat.sub_self, varsX]; simp, HBJ.out⟩
              case round =>
                rename World => wk
                obtain ⟨k, T3, hqk, hkn, rfl, rfl, hT3, hbk⟩ := hrel
                have hT3s : T3.size ≤ T2.size + 15 := by
                  rw [← tb_len T3, hT3, List.length_append, tb_len]
                  by_cases hvq : q < v
                  · rw [varsX_len _ _ (by omega)]; omega
                  · rw [show k - q = 0 by omega]; simp [varsX]
                have HT3 := Lib.hid hT3
                have HBK := Lib.hid hbk
                clear hT3 hbk
                by_cases hk : k < q + min 3 (v - q)
                · have hk1 : (k : Int) < (q : Int) + 3 := by omega
                  have hk2 : (k : Int) < (v : Int) := by omega
                  by_cases hkq : k = q
                  · have hke : ((k : Int) == (q : Int)) = true := by rw [hkq]; simp
                    have HKM := Lib.hid (show k - q = 0 by omega)
                    clear hkq
                    have g1 : T3.size + 1 ≤ maxLen := by unfold maxLen; omega
                    have g2 : ¬ (maxLen < T3.size + 1) := by unfold maxLen; omega
                    go_upto_region 27 with (fail)
                    obtain ⟨T4, hT1⟩ : ∃ T4 : ByteArray, T4 = T3 ++ ⟨#[40]⟩ := ⟨_, rfl⟩
                    rw [← hT1]
                    have hsT4 : T4.size = T3.size + 1 := by rw [hT1, ByteArray.size_append]; rfl
                    have HT4 := Lib.hid (show tb T4 = tb T3 ++ [40] by rw [hT1]; simp [tb])
                    clear hT1 g1 g2
                    repeat (first | go_skip | go_guarded | go_step)
                    have g1 : T4.size + 1 ≤ maxLen := by unfold maxLen; omega
                    have g2 : ¬ (maxLen < T4.size + 1) := by unfold maxLen; omega
                    repeat (first | go_skip | go_guarded | go_step)
                    obtain ⟨T5, hT5⟩ : ∃ T5 : ByteArray, T5 = T4 ++ ⟨#[86]⟩ := ⟨_, rfl⟩
                    try rw [← hT5]
                    have hsT5 : T5.size = T4.size + 1 := by rw [hT5, ByteArray.size_append]; rfl
                    have HT5 := Lib.hid (show tb T5 = tb T4 ++ [86] by rw [hT5]; simp [tb])
                    clear g1 g2
                    refine (nth_any k wk (by omega)).mono ?_
                    rintro e w5 ⟨rfl, hb5⟩
                    have HB5 := Lib.hid (HBK.out.trans (hb5.mono HBK.out.size))
                    clear hb5
                    obtain ⟨Z, hZ⟩ : ∃ Z : ByteArray, Z = nthS k := ⟨_, rfl⟩
                    rw [← hZ]
                    have hZs : Z.size ≤ 32 := by rw [hZ]; exact nth_size k (by omega)
                    have HZ := Lib.hid (show tb Z = nthL k by rw [hZ]; simp [tb, nthS])
                    clear hZ
                    dsimp only
                    try rw [← hT5]
                    clear hT5
                    have g1 : T5.size + Z.size ≤ maxLen := by unfold maxLen; omega
                    have g2 : ¬ (maxLen < T5.size + Z.size) := by unfold maxLen; omega
                    go_upto_region 23 with (fail)
                    obtain ⟨T6, hT6⟩ : ∃ T6 : ByteArray, T6 = T5 ++ Z := ⟨_, rfl⟩
                    rw [← hT6]
                    have HT6 := Lib.hid (show tb T6 = tb T5 ++ tb Z by rw [hT6]; simp [tb])
                    clear hT6 g1 g2
                    repeat (first | go_skip | go_guarded | go_step)
                    go_roundw
                    case rel => exact ⟨k + 1, T6, by omega, by omega, rfl, by go_num, by
                      have hkm := HKM.out
                      rw [HT6.out, HT5.out, HT4.out, HT3.out, HZ.out, show k + 1 - q = (k - q) + 1 by omega, varsX, if_pos HKM.out, show q + (k - q) = k by omega]
                      simp, HB5.out⟩
                    case measure => simp [intOf] <;> omega
                  · have hke : ((k : Int) == (q : Int)) = false := by rw [beq_eq_false_iff_ne]; omega
                    have HKM := Lib.hid (show k - q ≠ 0 by omega)
                    clear hkq
                    have g1 : T3.size + 1 ≤ maxLen := by unfold maxLen; omega
                    have g2 : ¬ (maxLen < T3.size + 1) := by unfold maxLen; omega
                    go_upto_region 27 with (fail)
                    obtain ⟨T4, hT1⟩ : ∃ T4 : ByteArray, T4 = T3 ++ ⟨#[44]⟩ := ⟨_, rfl⟩
                    rw [← hT1]
                    have hsT4 : T4.size = T3.size + 1 := by rw [hT1, ByteArray.size_append]; rfl
                    have HT4 := Lib.hid (show tb T4 = tb T3 ++ [44] by rw [hT1]; simp [tb])
                    clear hT1 g1 g2
                    repeat (first | go_skip | go_guarded | go_step)
                    have g1 : T4.size + 1 ≤ maxLen := by unfold maxLen; omega
                    have g2 : ¬ (maxLen < T4.size + 1) := by unfold maxLen; omega
                    repeat (first | go_skip | go_guarded | go_step)
                    obtain ⟨T5, hT5⟩ : ∃ T5 : ByteArray, T5 = T4 ++ ⟨#[86]⟩ := ⟨_, rfl⟩
                    try rw [← hT5]
                    have hsT5 : T5.size = T4.size + 1 := by rw [hT5, ByteArray.size_append]; rfl
                    have HT5 := Lib.hid (show tb T5 = tb T4 ++ [86] by rw [hT5]; simp [tb])
                    clear g1 g2
                    refine (nth_any k wk (by omega)).mono ?_
                    rintro e w5 ⟨rfl, hb5⟩
                    have HB5 := Lib.hid (HBK.out.trans (hb5.mono HBK.out.size))
                    clear hb5
                    obtain ⟨Z, hZ⟩ : ∃ Z : ByteArray, Z = nthS k := ⟨_, rfl⟩
                    rw [← hZ]
                    have hZs : Z.size ≤ 32 := by rw [hZ]; exact nth_size k (by omega)
                    have HZ := Lib.hid (show tb Z = nthL k by rw [hZ]; simp [tb, nthS])
                    clear hZ
                    dsimp only
                    try rw [← hT5]
                    clear hT5
                    have g1 : T5.size + Z.size ≤ maxLen := by unfold maxLen; omega
                    have g2 : ¬ (maxLen < T5.size + Z.size) := by unfold maxLen; omega
                    go_upto_region 23 with (fail)
                    obtain ⟨T6, hT6⟩ : ∃ T6 : ByteArray, T6 = T5 ++ Z := ⟨_, rfl⟩
                    rw [← hT6]
                    have HT6 := Lib.hid (show tb T6 = tb T5 ++ tb Z by rw [hT6]; simp [tb])
                    clear hT6 g1 g2
                    repeat (first | go_skip | go_guarded | go_step)
                    go_roundw
                    case rel => exact ⟨k + 1, T6, by omega, by omega, rfl, by go_num, by
                      have hkm := HKM.out
                      rw [HT6.out, HT5.out, HT4.out, HT3.out, HZ.out, show k + 1 - q = (k - q) + 1 by omega, varsX, if_neg HKM.out, show q + (k - q) = k by omega]
                      simp, HB5.out⟩
                    case measure => simp [intOf] <;> omega
                · have HKN := Lib.hid (show min 3 (v - q) = k - q by omega)
                  by_cases hk3 : k < q + 3
                  · have hk1 : (k : Int) < (q : Int) + 3 := by omega
                    have hk2 : ¬ (k : Int) < (v : Int) := by omega
                    by_cases hqv : q < v
                    · have hqi : (q : Int) < (v : Int) := by omega
                      have g1 : T3.size + 1 ≤ maxLen := by unfold maxLen; omega
                      have g2 : ¬ (maxLen < T3.size + 1) := by unfold maxLen; omega
                      go_upto_region 16 with (fail)
                      obtain ⟨T7, hT1⟩ : ∃ T7 : ByteArray, T7 = T3 ++ ⟨#[41]⟩ := ⟨_, rfl⟩
                      rw [← hT1]
                      have hsT7 : T7.size = T3.size + 1 := by rw [hT1, ByteArray.size_append]; rfl
                      have HT7 := Lib.hid (show tb T7 = tb T3 ++ [41] by rw [hT1]; simp [tb])
                      clear hT1 g1 g2
                      have HTN := Lib.hid (show tb T7 = headX i ++ condsX v (j + 1) by
                        rw [HT7.out, HT3.out, HT2.out, HT1.out, HT.out, condsX, condX, HJQ.out, if_pos HJ.out, HKN.out, if_pos hqv]
                        simp)
                      repeat (first | go_skip | go_guarded | go_step)
                      go_roundw
                      case rel => exact ⟨j + 1, T7, by omega, rfl, by go_num, HTN.out, HBK.out⟩
                      case measure => simp [intOf] <;> omega
                    · have hqi : ¬ (q : Int) < (v : Int) := by omega
                      have HTN := Lib.hid (show tb T3 = headX i ++ condsX v (j + 1) by
                        rw [HT3.out, HT2.out, HT1.out, HT.out, condsX, condX, HJQ.out, if_pos HJ.out, HKN.out, if_neg hqv]
                        simp)
                      repeat (first | go_skip | go_guarded | go_step)
                      go_roundw
                      case rel => exact ⟨j + 1, T3, by omega, rfl, by go_num, HTN.out, HBK.out⟩
                      case measure => simp [intOf] <;> omega
                  · have hk1 : ¬ (k : Int) < (q : Int) + 3 := by omega
                    by_cases hqv : q < v
                    · have hqi : (q : Int) < (v : Int) := by omega
                      have g1 : T3.size + 1 ≤ maxLen := by unfold maxLen; omega
                      have g2 : ¬ (maxLen < T3.size + 1) := by unfold maxLen; omega
                      go_upto_region 16 with (fail)
                      obtain ⟨T7, hT1⟩ : ∃ T7 : ByteArray, T7 = T3 ++ ⟨#[41]⟩ := ⟨_, rfl⟩
                      rw [← hT1]
                      have hsT7 : T7.size = T3.size + 1 := by rw [hT1, ByteArray.size_append]; rfl
                      have HT7 := Lib.hid (show tb T7 = tb T3 ++ [41] by rw [hT1]; simp [tb])
                      clear hT1 g1 g2
                      have HTN := Lib.hid (show tb T7 = headX i ++ condsX v (j + 1) by
                        rw [HT7.out, HT3.out, HT2.out, HT1.out, HT.out, condsX, condX, HJQ.out, if_pos HJ.out, HKN.out, if_pos hqv]
                        simp)
                      repeat (first | go_skip | go_guarded | go_step)
                      go_roundw
                      case rel => exact ⟨j + 1, T7, by omega, rfl, by go_num, HTN.out, HBK.out⟩
                      case measure => simp [intOf] <;> omega
                    · have hqi : ¬ (q : Int) < (v : Int) := by omega
                      have HTN := Lib.hid (show tb T3 = headX i ++ condsX v (j + 1) by
                        rw [HT3.out, HT2.out, HT1.out, HT.out, condsX, condX, HJQ.out, if_pos HJ.out, HKN.out, if_neg hqv]
                        simp)
                      repeat (first | go_skip | go_guarded | go_step)
                      go_roundw
                      case rel => exact ⟨j + 1, T3, by omega, rfl, by go_num, HTN.out, HBK.out⟩
                      case measure => simp [intOf] <;> omega
            · have hje : ((j : Int) == 0) = false := by rw [beq_eq_false_iff_ne]; omega
              have HJ := Lib.hid hj0
              clear hj0
              have g1 : T.size + 1 ≤ maxLen := by unfold maxLen; omega
              have g2 : ¬ (maxLen < T.size + 1) := by unfold maxLen; omega
              go_upto_region 20 with (fail)
              obtain ⟨T1, hT1⟩ : ∃ T1 : ByteArray, T1 = T ++ ⟨#[44]⟩ := ⟨_, rfl⟩
              rw [← hT1]
              have hsT1 : T1.size = T.size + 1 := by rw [hT1, ByteArray.size_append]; rfl
              have HT1 := Lib.hid (show tb T1 = tb T ++ [44] by rw [hT1]; simp [tb])
              clear hT1 g1 g2
              have g1 : T1.size + 1 ≤ maxLen := by unfold maxLen; omega
              have g2 : ¬ (maxLen < T1.size + 1) := by unfold maxLen; omega
              go_upto_region 21 with (fail)
              obtain ⟨T2, hT1⟩ : ∃ T2 : ByteArray, T2 = T1 ++ ⟨#[112]⟩ := ⟨_, rfl⟩
              rw [← hT1]
              have hsT2 : T2.size = T1.size + 1 := by rw [hT1, ByteArray.size_append]; rfl
              have HT2 := Lib.hid (show tb T2 = tb T1 ++ [112] by rw [hT1]; simp [tb])
              clear hT1 g1 g2
              obtain ⟨q, hq⟩ : ∃ q, q = 3 * j := ⟨_, rfl⟩
              have hq3 : (3 : Int) * (j : Int) = (q : Int) := by omega
              have hq36 : q ≤ 36 := by omega
              have HJQ := Lib.hid hq.symm
              clear hq
              repeat (first | go_skip | go_guarded | go_step)
              go_loopw [12, 15] (fun t p wr => ∃ (k : Nat) (T : ByteArray), q ≤ k ∧ k ≤ q + min 3 (v - q) ∧ t = sv T ∧ p = .int .i64 (k : Int) ∧ tb T = tb T2 ++ varsX q (k - q) ∧ Below w.heap.size w wr) (fun _ p _ => q + 3 - (intOf p).toNat)
              case atStart => exact ⟨q, T2, Nat.le_refl _, by omega, rfl, (by first | rfl | rw [hq3]), by rw [Nat.sub_self, varsX]; simp, HBJ.out⟩
              case round =>
                rename World => wk
                obtain ⟨k, T3, hqk, hkn, rfl, rfl, hT3, hbk⟩ := hrel
                have hT3s : T3.size ≤ T2.size + 15 := by
                  rw [← tb_len T3, hT3, List.length_append, tb_len]
                  by_cases hvq : q < v
                  · rw [varsX_len _ _ (by omega)]; omega
                  · rw [show k - q = 0 by omega]; simp [varsX]
                have HT3 := Lib.hid hT3
                have HBK := Lib.hid hbk
                clear hT3 hbk
                by_cases hk : k < q + min 3 (v - q)
                · have hk1 : (k : Int) < (q : Int) + 3 := by omega
                  have hk2 : (k : Int) < (v : Int) := by omega
                  by_cases hkq : k = q
                  · have hke : ((k : Int) == (q : Int)) = true := by rw [hkq]; simp
                    have HKM := Lib.hid (show k - q = 0 by omega)
                    clear hkq
                    have g1 : T3.size + 1 ≤ maxLen := by unfold maxLen; omega
                    have g2 : ¬ (maxLen < T3.size + 1) := by unfold maxLen; omega
                    go_upto_region 27 with (fail)
                    obtain ⟨T4, hT1⟩ : ∃ T4 : ByteArray, T4 = T3 ++ ⟨#[40]⟩ := ⟨_, rfl⟩
                    rw [← hT1]
                    have hsT4 : T4.size = T3.size + 1 := by rw [hT1, ByteArray.size_append]; rfl
                    have HT4 := Lib.hid (show tb T4 = tb T3 ++ [40] by rw [hT1]; simp [tb])
                    clear hT1 g1 g2
                    repeat (first | go_skip | go_guarded | go_step)
                    have g1 : T4.size + 1 ≤ maxLen := by unfold maxLen; omega
                    have g2 : ¬ (maxLen < T4.size + 1) := by unfold maxLen; omega
                    repeat (first | go_skip | go_guarded | go_step)
                    obtain ⟨T5, hT5⟩ : ∃ T5 : ByteArray, T5 = T4 ++ ⟨#[86]⟩ := ⟨_, rfl⟩
                    try rw [← hT5]
                    have hsT5 : T5.size = T4.size + 1 := by rw [hT5, ByteArray.size_append]; rfl
                    have HT5 := Lib.hid (show tb T5 = tb T4 ++ [86] by rw [hT5]; simp [tb])
                    clear g1 g2
                    refine (nth_any k wk (by omega)).mono ?_
                    rintro e w5 ⟨rfl, hb5⟩
                    have HB5 := Lib.hid (HBK.out.trans (hb5.mono HBK.out.size))
                    clear hb5
                    obtain ⟨Z, hZ⟩ : ∃ Z : ByteArray, Z = nthS k := ⟨_, rfl⟩
                    rw [← hZ]
                    have hZs : Z.size ≤ 32 := by rw [hZ]; exact nth_size k (by omega)
                    have HZ := Lib.hid (show tb Z = nthL k by rw [hZ]; simp [tb, nthS])
                    clear hZ
                    dsimp only
                    try rw [← hT5]
                    clear hT5
                    have g1 : T5.size + Z.size ≤ maxLen := by unfold maxLen; omega
                    have g2 : ¬ (maxLen < T5.size + Z.size) := by unfold maxLen; omega
                    go_upto_region 23 with (fail)
                    obtain ⟨T6, hT6⟩ : ∃ T6 : ByteArray, T6 = T5 ++ Z := ⟨_, rfl⟩
                    rw [← hT6]
                    have HT6 := Lib.hid (show tb T6 = tb T5 ++ tb Z by rw [hT6]; simp [tb])
                    clear hT6 g1 g2
                    repeat (first | go_skip | go_guarded | go_step)
                    go_roundw
                    case rel => exact ⟨k + 1, T6, by omega, by omega, rfl, by go_num, by
                      have hkm := HKM.out
                      rw [HT6.out, HT5.out, HT4.out, HT3.out, HZ.out, show k + 1 - q = (k - q) + 1 by omega, varsX, if_pos HKM.out, show q + (k - q) = k by omega]
                      simp, HB5.out⟩
                    case measure => simp [intOf] <;> omega
                  · have hke : ((k : Int) == (q : Int)) = false := by rw [beq_eq_false_iff_ne]; omega
                    have HKM := Lib.hid (show k - q ≠ 0 by omega)
                    clear hkq
                    have g1 : T3.size + 1 ≤ maxLen := by unfold maxLen; omega
                    have g2 : ¬ (maxLen < T3.size + 1) := by unfold maxLen; omega
                    go_upto_region 27 with (fail)
                    obtain ⟨T4, hT1⟩ : ∃ T4 : ByteArray, T4 = T3 ++ ⟨#[44]⟩ := ⟨_, rfl⟩
                    rw [← hT1]
                    have hsT4 : T4.size = T3.size + 1 := by rw [hT1, ByteArray.size_append]; rfl
                    have HT4 := Lib.hid (show tb T4 = tb T3 ++ [44] by rw [hT1]; simp [tb])
                    clear hT1 g1 g2
                    repeat (first | go_skip | go_guarded | go_step)
                    have g1 : T4.size + 1 ≤ maxLen := by unfold maxLen; omega
                    have g2 : ¬ (maxLen < T4.size + 1) := by unfold maxLen; omega
                    repeat (first | go_skip | go_guarded | go_step)
                    obtain ⟨T5, hT5⟩ : ∃ T5 : ByteArray, T5 = T4 ++ ⟨#[86]⟩ := ⟨_, rfl⟩
                    try rw [← hT5]
                    have hsT5 : T5.size = T4.size + 1 := by rw [hT5, ByteArray.size_append]; rfl
                    have HT5 := Lib.hid (show tb T5 = tb T4 ++ [86] by rw [hT5]; simp [tb])
                    clear g1 g2
                    refine (nth_any k wk (by omega)).mono ?_
                    rintro e w5 ⟨rfl, hb5⟩
                    have HB5 := Lib.hid (HBK.out.trans (hb5.mono HBK.out.size))
                    clear hb5
                    obtain ⟨Z, hZ⟩ : ∃ Z : ByteArray, Z = nthS k := ⟨_, rfl⟩
                    rw [← hZ]
                    have hZs : Z.size ≤ 32 := by rw [hZ]; exact nth_size k (by omega)
                    have HZ := Lib.hid (show tb Z = nthL k by rw [hZ]; simp [tb, nthS])
                    clear hZ
                    dsimp only
                    try rw [← hT5]
                    clear hT5
                    have g1 : T5.size + Z.size ≤ maxLen := by unfold maxLen; omega
                    have g2 : ¬ (maxLen < T5.size + Z.size) := by unfold maxLen; omega
                    go_upto_region 23 with (fail)
                    obtain ⟨T6, hT6⟩ : ∃ T6 : ByteArray, T6 = T5 ++ Z := ⟨_, rfl⟩
                    rw [← hT6]
                    have HT6 := Lib.hid (show tb T6 = tb T5 ++ tb Z by rw [hT6]; simp [tb])
                    clear hT6 g1 g2
                    repeat (first | go_skip | go_guarded | go_step)
                    go_roundw
                    case rel => exact ⟨k + 1, T6, by omega, by omega, rfl, by go_num, by
                      have hkm := HKM.out
                      rw [HT6.out, HT5.out, HT4.out, HT3.out, HZ.out, show k + 1 - q = (k - q) + 1 by omega, varsX, if_neg HKM.out, show q + (k - q) = k by omega]
                      simp, HB5.out⟩
                    case measure => simp [intOf] <;> omega
                · have HKN := Lib.hid (show min 3 (v - q) = k - q by omega)
                  by_cases hk3 : k < q + 3
                  · have hk1 : (k : Int) < (q : Int) + 3 := by omega
                    have hk2 : ¬ (k : Int) < (v : Int) := by omega
                    by_cases hqv : q < v
                    · have hqi : (q : Int) < (v : Int) := by omega
                      have g1 : T3.size + 1 ≤ maxLen := by unfold maxLen; omega
                      have g2 : ¬ (maxLen < T3.size + 1) := by unfold maxLen; omega
                      go_upto_region 16 with (fail)
                      obtain ⟨T7, hT1⟩ : ∃ T7 : ByteArray, T7 = T3 ++ ⟨#[41]⟩ := ⟨_, rfl⟩
                      rw [← hT1]
                      have hsT7 : T7.size = T3.size + 1 := by rw [hT1, ByteArray.size_append]; rfl
                      have HT7 := Lib.hid (show tb T7 = tb T3 ++ [41] by rw [hT1]; simp [tb])
                      clear hT1 g1 g2
                      have HTN := Lib.hid (show tb T7 = headX i ++ condsX v (j + 1) by
                        rw [HT7.out, HT3.out, HT2.out, HT1.out, HT.out, condsX, condX, HJQ.out, if_neg HJ.out, HKN.out, if_pos hqv]
                        simp)
                      repeat (first | go_skip | go_guarded | go_step)
                      go_roundw
                      case rel => exact ⟨j + 1, T7, by omega, rfl, by go_num, HTN.out, HBK.out⟩
                      case measure => simp [intOf] <;> omega
                    · have hqi : ¬ (q : Int) < (v : Int) := by omega
                      have HTN := Lib.hid (show tb T3 = headX i ++ condsX v (j + 1) by
                        rw [HT3.out, HT2.out, HT1.out, HT.out, condsX, condX, HJQ.out, if_neg HJ.out, HKN.out, if_neg hqv]
                        simp)
                      repeat (first | go_skip | go_guarded | go_step)
                      go_roundw
                      case rel => exact ⟨j + 1, T3, by omega, rfl, by go_num, HTN.out, HBK.out⟩
                      case measure => simp [intOf] <;> omega
                  · have hk1 : ¬ (k : Int) < (q : Int) + 3 := by omega
                    by_cases hqv : q < v
                    · have hqi : (q : Int) < (v : Int) := by omega
                      have g1 : T3.size + 1 ≤ maxLen := by unfold maxLen; omega
                      have g2 : ¬ (maxLen < T3.size + 1) := by unfold maxLen; omega
                      go_upto_region 16 with (fail)
                      obtain ⟨T7, hT1⟩ : ∃ T7 : ByteArray, T7 = T3 ++ ⟨#[41]⟩ := ⟨_, rfl⟩
                      rw [← hT1]
                      have hsT7 : T7.size = T3.size + 1 := by rw [hT1, ByteArray.size_append]; rfl
                      have HT7 := Lib.hid (show tb T7 = tb T3 ++ [41] by rw [hT1]; simp [tb])
                      clear hT1 g1 g2
                      have HTN := Lib.hid (show tb T7 = headX i ++ condsX v (j + 1) by
                        rw [HT7.out, HT3.out, HT2.out, HT1.out, HT.out, condsX, condX, HJQ.out, if_neg HJ.out, HKN.out, if_pos hqv]
                        simp)
                      repeat (first | go_skip | go_guarded | go_step)
                      go_roundw
                      case rel => exact ⟨j + 1, T7, by omega, rfl, by go_num, HTN.out, HBK.out⟩
                      case measure => simp [intOf] <;> omega
                    · have hqi : ¬ (q : Int) < (v : Int) := by omega
                      have HTN := Lib.hid (show tb T3 = headX i ++ condsX v (j + 1) by
                        rw [HT3.out, HT2.out, HT1.out, HT.out, condsX, condX, HJQ.out, if_neg HJ.out, HKN.out, if_neg hqv]
                        simp)
                      repeat (first | go_skip | go_guarded | go_step)
                      go_roundw
                      case rel => exact ⟨j + 1, T3, by omega, rfl, by go_num, HTN.out, HBK.out⟩
                      case measure => simp [intOf] <;> omega
          · obtain rfl : j = c := by omega
            have hci2 : ¬ (j : Int) < (j : Int) := by omega
            have hM := many_parse i j v ha10 hc12 hv20
            obtain ⟨rs0, ns0, y0, z0, hM0, hM1, hM2⟩ := hM
            have HM0 := Lib.hid hM0
            have HM1 := Lib.hid hM1
            have HM2 := Lib.hid hM2
            obtain ⟨mn, hmn⟩ : ∃ mn, mn = min v (3 * j) := ⟨_, rfl⟩
            have hmi : min (v : Int) (3 * (j : Int)) = (mn : Int) := by omega
            have HMN := Lib.hid hmn
            clear hM0 hM1 hM2 hmn
            by_cases b6 : 6 < i
            · have HMB := Lib.hid (show manyB i j v = true by unfold manyB; rw [decide_eq_true b6]; rfl)
              have d6 : decide ((6 : Int) < (i : Int)) = true := by simp; omega
              have e6 : decide (6 < i) = true := by simp; omega
              have f6 : (6 < i) := by omega
              repeat (first | go_skip | go_guarded | go_step)
              refine (tNew wj).mono ?_
              rintro e w1 ⟨g, F, rfl, ht, hF, hb⟩
              have HT1 := Lib.hid ht
              have HB1 := Lib.hid (HBJ.out.trans (hb.mono HBJ.out.size))
              have HFW := Lib.hid (show ∀ k, F k → w.heap.size ≤ k from fun k hk => Nat.le_trans HBJ.out.size (hF k hk))
              clear ht hF hb
              dsimp only
              have g1 : T.size + 1 ≤ maxLen := by unfold maxLen; omega
              have g2 : ¬ (maxLen < T.size + 1) := by unfold maxLen; omega
              repeat (first | go_skip | go_guarded | go_step)
              obtain ⟨X, hX⟩ : ∃ X : ByteArray, X = T ++ ⟨#[46]⟩ := ⟨_, rfl⟩
              try rw [← hX]
              have hXs : X.size = T.size + 1 := by rw [hX, ByteArray.size_append]; rfl
              have HXT := Lib.hid (show tb X = manyX i j v by
                have h1 : tb X = tb T ++ [46] := by rw [hX]; simp [tb]
                rw [h1, HT.out]
                unfold manyX
                rw [List.append_assoc])
              clear g1 g2
              refine (ok.parse g F [] X w1 (ok.later _ _ HPW.out HB1.out) HT1.out (Good.nil _) (by omega)).mono ?_
              rintro e w2 ⟨A2, n2, c2, Q2, rs, ns, y, z, F2, rfl, hnc, hn2, hrd, ht2, hT2, hF2, hpa⟩
              try rw [← hX]
              clear hX
              rw [HXT.out, ← HM0.out] at hpa
              simp only [Prod.mk.injEq] at hpa
              obtain ⟨p1, p2, _, p4⟩ := hpa
              have HB2 := Lib.hid (HB1.out.trans (hT2.below (fun k _ h => HFW.out k h) HB1.out.size))
              have HT2 := Lib.hid ht2
              have hrr := hrd w2 (Turn.refl _ _)
              clear ht2 hT2 hF2 hrd
              obtain ⟨q1, q2, q3⟩ := HM1.out HMB.out
              have hz : ((z : Int) == 6) = true := by rw [p4, q1]; rfl
              have hnz : ((n2 : Int) == 0) = true := by
                have := hrr.lenL
                rw [p1, q2] at this
                rw [← this]; rfl
              have hnl : ((ns.length : Int) == 0) = true := by rw [p2, q3]; rfl
              clear p1 p2 p4 q1 q2 q3 hrr
              dsimp only
              repeat (first | go_skip | go_guarded | go_step)
              refine (tLen g F2 ns w2 HT2.out).mono ?_
              rintro e w2' ⟨rfl, rfl⟩
              dsimp only
              repeat (first | go_skip | go_guarded | go_step)
              refine (HRF.out w2 HB2.out).mono ?_
              rintro e w9 ⟨rfl, hb9⟩
              dsimp only
              repeat (first | go_skip | go_guarded | go_step)
              go_ret
              exact ⟨rfl, hb9⟩
            · by_cases b8 : 8 < j
              · have HMB := Lib.hid (show manyB i j v = true by unfold manyB; rw [decide_eq_true b8, Bool.or_true]; rfl)
                have d6 : decide ((6 : Int) < (i : Int)) = false := by simp; omega
                have e6 : decide (6 < i) = false := by simp; omega
                have f6 : ¬ (6 < i) := by omega
                have d8 : decide ((8 : Int) < (j : Int)) = true := by simp; omega
                have e8 : decide (8 < j) = true := by simp; omega
                have f8 : (8 < j) := by omega
                repeat (first | go_skip | go_guarded | go_step)
                refine (tNew wj).mono ?_
                rintro e w1 ⟨g, F, rfl, ht, hF, hb⟩
                have HT1 := Lib.hid ht
                have HB1 := Lib.hid (HBJ.out.trans (hb.mono HBJ.out.size))
                have HFW := Lib.hid (show ∀ k, F k → w.heap.size ≤ k from fun k hk => Nat.le_trans HBJ.out.size (hF k hk))
                clear ht hF hb
                dsimp only
                have g1 : T.size + 1 ≤ maxLen := by unfold maxLen; omega
                have g2 : ¬ (maxLen < T.size + 1) := by unfold maxLen; omega
                repeat (first | go_skip | go_guarded | go_step)
                obtain ⟨X, hX⟩ : ∃ X : ByteArray, X = T ++ ⟨#[46]⟩ := ⟨_, rfl⟩
                try rw [← hX]
                have hXs : X.size = T.size + 1 := by rw [hX, ByteArray.size_append]; rfl
                have HXT := Lib.hid (show tb X = manyX i j v by
                  have h1 : tb X = tb T ++ [46] := by rw [hX]; simp [tb]
                  rw [h1, HT.out]
                  unfold manyX
                  rw [List.append_assoc])
                clear g1 g2
                refine (ok.parse g F [] X w1 (ok.later _ _ HPW.out HB1.out) HT1.out (Good.nil _) (by omega)).mono ?_
                rintro e w2 ⟨A2, n2, c2, Q2, rs, ns, y, z, F2, rfl, hnc, hn2, hrd, ht2, hT2, hF2, hpa⟩
                try rw [← hX]
                clear hX
                rw [HXT.out, ← HM0.out] at hpa
                simp only [Prod.mk.injEq] at hpa
                obtain ⟨p1, p2, _, p4⟩ := hpa
                have HB2 := Lib.hid (HB1.out.trans (hT2.below (fun k _ h => HFW.out k h) HB1.out.size))
                have HT2 := Lib.hid ht2
                have hrr := hrd w2 (Turn.refl _ _)
                clear ht2 hT2 hF2 hrd
                obtain ⟨q1, q2, q3⟩ := HM1.out HMB.out
                have hz : ((z : Int) == 6) = true := by rw [p4, q1]; rfl
                have hnz : ((n2 : Int) == 0) = true := by
                  have := hrr.lenL
                  rw [p1, q2] at this
                  rw [← this]; rfl
                have hnl : ((ns.length : Int) == 0) = true := by rw [p2, q3]; rfl
                clear p1 p2 p4 q1 q2 q3 hrr
                dsimp only
                repeat (first | go_skip | go_guarded | go_step)
                refine (tLen g F2 ns w2 HT2.out).mono ?_
                rintro e w2' ⟨rfl, rfl⟩
                dsimp only
                repeat (first | go_skip | go_guarded | go_step)
                refine (HRF.out w2 HB2.out).mono ?_
                rintro e w9 ⟨rfl, hb9⟩
                dsimp only
                repeat (first | go_skip | go_guarded | go_step)
                go_ret
                exact ⟨rfl, hb9⟩
              · by_cases b16 : 16 < mn
                · have HMB := Lib.hid (show manyB i j v = true by unfold manyB; rw [← HMN.out, decide_eq_true b16, Bool.or_true])
                  have d6 : decide ((6 : Int) < (i : Int)) = false := by simp; omega
                  have e6 : decide (6 < i) = false := by simp; omega
                  have f6 : ¬ (6 < i) := by omega
                  have d8 : decide ((8 : Int) < (j : Int)) = false := by simp; omega
                  have e8 : decide (8 < j) = false := by simp; omega
                  have f8 : ¬ (8 < j) := by omega
                  have d16 : decide ((16 : Int) < (mn : Int)) = true := by simp; omega
                  have e16 : decide (16 < mn) = true := by simp; omega
                  have f16 : (16 < mn) := by omega
                  repeat (first | go_skip | go_guarded | go_step)
                  refine (tNew wj).mono ?_
                  rintro e w1 ⟨g, F, rfl, ht, hF, hb⟩
                  have HT1 := Lib.hid ht
                  have HB1 := Lib.hid (HBJ.out.trans (hb.mono HBJ.out.size))
                  have HFW := Lib.hid (show ∀ k, F k → w.heap.size ≤ k from fun k hk => Nat.le_trans HBJ.out.size (hF k hk))
                  clear ht hF hb
                  dsimp only
                  have g1 : T.size + 1 ≤ maxLen := by unfold maxLen; omega
                  have g2 : ¬ (maxLen < T.size + 1) := by unfold maxLen; omega
                  repeat (first | go_skip | go_guarded | go_step)
                  obtain ⟨X, hX⟩ : ∃ X : ByteArray, X = T ++ ⟨#[46]⟩ := ⟨_, rfl⟩
                  try rw [← hX]
                  have hXs : X.size = T.size + 1 := by rw [hX, ByteArray.size_append]; rfl
                  have HXT := Lib.hid (show tb X = manyX i j v by
                    have h1 : tb X = tb T ++ [46] := by rw [hX]; simp [tb]
                    rw [h1, HT.out]
                    unfold manyX
                    rw [List.append_assoc])
                  clear g1 g2
                  refine (ok.parse g F [] X w1 (ok.later _ _ HPW.out HB1.out) HT1.out (Good.nil _) (by omega)).mono ?_
                  rintro e w2 ⟨A2, n2, c2, Q2, rs, ns, y, z, F2, rfl, hnc, hn2, hrd, ht2, hT2, hF2, hpa⟩
                  try rw [← hX]
                  clear hX
                  rw [HXT.out, ← HM0.out] at hpa
                  simp only [Prod.mk.injEq] at hpa
                  obtain ⟨p1, p2, _, p4⟩ := hpa
                  have HB2 := Lib.hid (HB1.out.trans (hT2.below (fun k _ h => HFW.out k h) HB1.out.size))
                  have HT2 := Lib.hid ht2
                  have hrr := hrd w2 (Turn.refl _ _)
                  clear ht2 hT2 hF2 hrd
                  obtain ⟨q1, q2, q3⟩ := HM1.out HMB.out
                  have hz : ((z : Int) == 6) = true := by rw [p4, q1]; rfl
                  have hnz : ((n2 : Int) == 0) = true := by
                    have := hrr.lenL
                    rw [p1, q2] at this
                    rw [← this]; rfl
                  have hnl : ((ns.length : Int) == 0) = true := by rw [p2, q3]; rfl
                  clear p1 p2 p4 q1 q2 q3 hrr
                  dsimp only
                  repeat (first | go_skip | go_guarded | go_step)
                  refine (tLen g F2 ns w2 HT2.out).mono ?_
                  rintro e w2' ⟨rfl, rfl⟩
                  dsimp only
                  repeat (first | go_skip | go_guarded | go_step)
                  refine (HRF.out w2 HB2.out).mono ?_
                  rintro e w9 ⟨rfl, hb9⟩
                  dsimp only
                  repeat (first | go_skip | go_guarded | go_step)
                  go_ret
                  exact ⟨rfl, hb9⟩
                · have HMB := Lib.hid (show manyB i j v = false by unfold manyB; rw [← HMN.out, decide_eq_false b16, decide_eq_false b8, decide_eq_false b6]; rfl)
                  have d6 : decide ((6 : Int) < (i : Int)) = false := by simp; omega
                  have e6 : decide (6 < i) = false := by simp; omega
                  have f6 : ¬ (6 < i) := by omega
                  have d8 : decide ((8 : Int) < (j : Int)) = false := by simp; omega
                  have e8 : decide (8 < j) = false := by simp; omega
                  have f8 : ¬ (8 < j) := by omega
                  have d16 : decide ((16 : Int) < (mn : Int)) = false := by simp; omega
                  have e16 : decide (16 < mn) = false := by simp; omega
                  have f16 : ¬ (16 < mn) := by omega
                  repeat (first | go_skip | go_guarded | go_step)
                  refine (tNew wj).mono ?_
                  rintro e w1 ⟨g, F, rfl, ht, hF, hb⟩
                  have HT1 := Lib.hid ht
                  have HB1 := Lib.hid (HBJ.out.trans (hb.mono HBJ.out.size))
                  have HFW := Lib.hid (show ∀ k, F k → w.heap.size ≤ k from fun k hk => Nat.le_trans HBJ.out.size (hF k hk))
                  clear ht hF hb
                  dsimp only
                  have g1 : T.size + 1 ≤ maxLen := by unfold maxLen; omega
                  have g2 : ¬ (maxLen < T.size + 1) := by unfold maxLen; omega
                  repeat (first | go_skip | go_guarded | go_step)
                  obtain ⟨X, hX⟩ : ∃ X : ByteArray, X = T ++ ⟨#[46]⟩ := ⟨_, rfl⟩
                  try rw [← hX]
                  have hXs : X.size = T.size + 1 := by rw [hX, ByteArray.size_append]; rfl
                  have HXT := Lib.hid (show tb X = manyX i j v by
                    have h1 : tb X = tb T ++ [46] := by rw [hX]; simp [tb]
                    rw [h1, HT.out]
                    unfold manyX
                    rw [List.append_assoc])
                  clear g1 g2
                  refine (ok.parse g F [] X w1 (ok.later _ _ HPW.out HB1.out) HT1.out (Good.nil _) (by omega)).mono ?_
                  rintro e w2 ⟨A2, n2, c2, Q2, rs, ns, y, z, F2, rfl, hnc, hn2, hrd, ht2, hT2, hF2, hpa⟩
                  try rw [← hX]
                  clear hX
                  rw [HXT.out, ← HM0.out] at hpa
                  simp only [Prod.mk.injEq] at hpa
                  obtain ⟨p1, p2, _, p4⟩ := hpa
                  have HB2 := Lib.hid (HB1.out.trans (hT2.below (fun k _ h => HFW.out k h) HB1.out.size))
                  have HT2 := Lib.hid ht2
                  have hrr := hrd w2 (Turn.refl _ _)
                  clear ht2 hT2 hF2 hrd
                  obtain ⟨q1, r0, q2, q3, q4⟩ := HM2.out HMB.out
                  have hz : ((z : Int) != 0) = false := by rw [p4, q1]; rfl
                  have hn1 : n2 = 1 := by
                    have := hrr.lenL
                    rw [p1, q2] at this
                    exact this.symm
                  have hnz : ((n2 : Int) != 1) = false := by rw [hn1]; rfl
                  have hnp : (0 : Int) < (n2 : Int) := by omega
                  obtain ⟨b, o, sd, tm, p, as_, M, Ai, ni, ci, Bi, mi, di, Ri, hA, hbb, hx, c0, c1, cc2, c3, c4, c5, hta, hka⟩ := hrr.at_ (i := 0) (by omega)
                  rw [p1, q2] at hx
                  simp only [List.getElem?_cons_zero, Option.some.injEq] at hx
                  have hmj : ((mi : Int) != (j : Int)) = false := by
                    have h1 := hka.lenL
                    rw [hx] at q3
                    dsimp only at q3
                    rw [← h1, q3]
                    simp
                  have hni : ((ni : Int) != (i : Int)) = false := by
                    have h1 := rdT_len hta
                    rw [hx] at q4
                    dsimp only at q4
                    rw [← h1, q4]
                    simp
                  subst hA
                  simp only [Nat.zero_mul, Nat.add_zero] at c0 c1 cc2 c3 c4 c5
                  obtain ⟨m16, hm16⟩ : ∃ m, m = x3 % 16 := ⟨_, rfl⟩
                  have e3 : (x3 : Int).tmod 16 = (m16 : Int) := by rw [Int.tmod_eq_emod_of_nonneg (by omega)]; omega
                  clear hm16 p1 p2 p4 q1 q2 q3 q4 hrr hx hta hka hn1 c0 c1 cc2 c3
                  dsimp only
                  by_cases hr : m16 = 0
                  · have hri : ((m16 : Int) != 0) = false := by rw [hr]; rfl
                    clear hr
                    repeat (first | go_skip | go_guarded | go_step)
                    refine (tNew w2).mono ?_
                    rintro e w3 ⟨gg, F3, rfl, ht3, hF3, hb3⟩
                    have HT3 := Lib.hid ht3
                    have HB3 := Lib.hid (HB2.out.trans (hb3.mono HB2.out.size))
                    have HF3 := Lib.hid (show ∀ k, F3 k → w.heap.size ≤ k from fun k hk => Nat.le_trans HB2.out.size (hF3 k hk))
                    clear ht3 hF3 hb3 c4 c5
                    dsimp only
                    repeat (first | go_skip | go_guarded | go_step)
                    go_loopw [22] (fun p wr => ∃ (k : Nat) (F' : Nat → Prop), k ≤ 4095 ∧ p = .int .i64 (k : Int) ∧ Tb wr gg F' (tabL k) ∧ (∀ n, F' n → w.heap.size ≤ n) ∧ Below w.heap.size w wr) (fun p _ => 4095 - (intOf p).toNat)
                    case atStart => exact ⟨0, F3, by omega, rfl, HT3.out, HF3.out, HB3.out⟩
                    case round =>
                      rename World => wk
                      obtain ⟨k, F', hk, rfl, ht, hF, hb⟩ := hrel
                      have HTK := Lib.hid ht
                      have HFK := Lib.hid hF
                      have HBK := Lib.hid hb
                      clear ht hF hb
                      by_cases hlt2 : k < 4095
                      · have hck : (k : Int) < 4095 := by omega
                        repeat (first | go_skip | go_guarded | go_step)
                        refine (nth_any k wk (by omega)).mono ?_
                        rintro e w5 ⟨rfl, hb5⟩
                        have HB5 := Lib.hid (HBK.out.trans (hb5.mono HBK.out.size))
                        have HT5 := Lib.hid (HTK.out.later hb5)
                        clear hb5
                        dsimp only
                        repeat (first | go_skip | go_guarded | go_step)
                        refine (tPut' may_ok8 gg F' (tabL k) (nthS k) w.heap.size w5 HT5.out HFK.out HB5.out.size (by rw [tabL_len]; omega) (by have := nth_size k (by omega); omega) _ _ _ (put_next k (by omega))).mono ?_
                        rintro e w6 ⟨rfl, F6, ht6, hF6, hb6⟩
                        have HT6 := Lib.hid ht6
                        have HF6 := Lib.hid hF6
                        have HB6 := Lib.hid hb6
                        clear ht6 hF6 hb6
                        dsimp only
                        repeat (first | go_skip | go_guarded | go_step)
                        go_roundw
                        case rel => exact ⟨k + 1, F6, by omega, by go_num, HT6.out, HF6.out, HB5.out.trans HB6.out⟩
                        case measure => simp [intOf] <;> omega
                      · have hck : ¬ (k : Int) < 4095 := by omega
                        have hk95 : k = 4095 := by omega
                        have HTZ := Lib.hid (show Tb wk gg F' (tabL 4095) by rw [← hk95]; exact HTK.out)
                        clear hk95
                        obtain ⟨Z, hZ⟩ : ∃ Z, Z = nthS 7 := ⟨_, rfl⟩
                        have hZt : tb Z = [110, 95, 104] := by rw [hZ, nth7]
                        have hZs : Z.size = 3 := by rw [← tb_len, hZt]; rfl
                        have HN7 := Lib.hid (show ∀ W : World, Calls Tryz.prog 22 #[.int .i64 7] W fun e w' => e = .returned (sv Z) ∧ Below W.heap.size W w' from fun W => by rw [hZ]; exact nth_any 7 W (by omega))
                        have HZT := Lib.hid hZt
                        clear hZ hZt
                        repeat (first | go_skip | go_guarded | go_step)
                        refine (HN7.out wk).mono ?_
                        rintro e w5 ⟨rfl, hb5⟩
                        have HB5 := Lib.hid (HBK.out.trans (hb5.mono HBK.out.size))
                        have HT5 := Lib.hid (HTZ.out.later hb5)
                        clear hb5
                        dsimp only
                        have g1 : 5 + Z.size ≤ maxLen := by unfold maxLen; omega
                        have g2 : ¬ (maxLen < 5 + Z.size) := by unfold maxLen; omega
                        have g3 : 5 + Z.size + 1 ≤ maxLen := by unfold maxLen; omega
                        have g4 : ¬ (maxLen < 5 + Z.size + 1) := by unfold maxLen; omega
                        have g5 : (⟨#[111, 110, 101, 46, 32]⟩ : ByteArray).size = 5 := rfl
                        have g6 : ((⟨#[111, 110, 101, 46, 32]⟩ : ByteArray) ++ Z).size = 5 + Z.size := by rw [ByteArray.size_append]; rfl
                        repeat (first | go_skip | go_guarded | go_step)
                        obtain ⟨Y, hY⟩ : ∃ Y : ByteArray, Y = (⟨#[111, 110, 101, 46, 32]⟩ ++ Z) ++ ⟨#[46]⟩ := ⟨_, rfl⟩
                        try rw [← hY]
                        have hYs : Y.size = 9 := by rw [hY, ByteArray.size_append, g6, hZs]; rfl
                        have HYT := Lib.hid (show tb Y = [111, 110, 101, 46, 32, 110, 95, 104, 46] by
                          have h1 : tb Y = [111, 110, 101, 46, 32] ++ tb Z ++ [46] := by rw [hY]; simp [tb]
                          rw [h1, HZT.out]; rfl)
                        clear g1 g2 g3 g4 g5 g6
                        refine (ok.parse gg F' (tabL 4095) Y w5 (ok.later _ _ HPW.out HB5.out) HT5.out tab_good (by omega)).mono ?_
                        rintro e w6 ⟨A6, n6, c6, Q6, rs6, ns6, y6, z6, F6, rfl, hnc6, hn6, hrd6, ht6, hT6, hF6, hpa6⟩
                        try rw [← hY]
                        clear hY
                        have hfine := (parseL_fine tab_good hpa6).1
                        obtain ⟨rsz, hf1⟩ := full1
                        rw [HYT.out, hf1] at hpa6
                        simp only [Prod.mk.injEq] at hpa6
                        obtain ⟨_, p2', _, p4'⟩ := hpa6
                        have hz6 : ((z6 : Int) == 0) = true := by rw [p4']; rfl
                        rw [p2'] at ht6 hfine
                        have HT6 := Lib.hid ht6
                        have HG6 := Lib.hid hfine
                        have HB6 := Lib.hid (HB5.out.trans (hT6.below (fun k _ h => HFK.out k h) HB5.out.size))
                        have HF6 := Lib.hid (show ∀ k, F6 k → w.heap.size ≤ k from fun k h => by
                          rcases hF6 k h with h | h
                          · exact HFK.out k h
                          · exact Nat.le_trans HB5.out.size h)
                        clear hrd6 ht6 hT6 hF6 hfine p2' p4' hf1
                        dsimp only
                        repeat (first | go_skip | go_guarded | go_step)
                        refine (HN7.out w6).mono ?_
                        rintro e w7 ⟨rfl, hb7⟩
                        have HB7 := Lib.hid (HB6.out.trans (hb7.mono HB6.out.size))
                        have HT7 := Lib.hid (HT6.out.later hb7)
                        clear hb7
                        dsimp only
                        have g1 : Z.size + 7 ≤ maxLen := by unfold maxLen; omega
                        have g2 : ¬ (maxLen < Z.size + 7) := by unfold maxLen; omega
                        repeat (first | go_skip | go_guarded | go_step)
                        obtain ⟨Y2, hY2⟩ : ∃ Y : ByteArray, Y = Z ++ ⟨#[46, 32, 109, 111, 114, 101, 46]⟩ := ⟨_, rfl⟩
                        try rw [← hY2]
                        have hYs2 : Y2.size = 10 := by rw [hY2, ByteArray.size_append, hZs]; rfl
                        have HYT2 := Lib.hid (show tb Y2 = [110, 95, 104, 46, 32, 109, 111, 114, 101, 46] by
                          have h1 : tb Y2 = tb Z ++ [46, 32, 109, 111, 114, 101, 46] := by rw [hY2]; simp [tb]
                          rw [h1, HZT.out]; rfl)
                        clear g1 g2
                        refine (ok.parse gg F6 (tabL 4095 ++ [oneW]) Y2 w7 (ok.later _ _ HPW.out HB7.out) HT7.out HG6.out (by omega)).mono ?_
                        rintro e w8 ⟨A8, n8, c8, Q8, rs8, ns8, y8, z8, F8, rfl, hnc8, hn8, hrd8, ht8, hT8, hF8, hpa8⟩
                        try rw [← hY2]
                        clear hY2
                        rw [HYT2.out, full2] at hpa8
                        simp only [Prod.mk.injEq] at hpa8
                        obtain ⟨_, p2', p3', p4'⟩ := hpa8
                        have hz8 : ((z8 : Int) == 6) = true := by rw [p4']; rfl
                        have hy8 : ((y8 : Int) == (Z.size : Int) + 2) = true := by rw [p3', hZs]; rfl
                        have hnl8 : ((ns8.length : Int) == 4096) = true := by rw [p2', List.length_append, tabL_len]; rfl
                        have HT8 := Lib.hid ht8
                        have HB8 := Lib.hid (HB7.out.trans (hT8.below (fun k _ h => HF6.out k h) HB7.out.size))
                        have hZ3 : (Z.size : Int) ≤ 3 := by omega
                        have HZS := Lib.hid hZs
                        clear hrd8 ht8 hT8 hF8 p2' p3' p4' hZs
                        dsimp only
                        repeat (first | go_skip | go_guarded | go_step)
                        refine (HN7.out w8).mono ?_
                        rintro e w9 ⟨rfl, hb9⟩
                        have HB9 := Lib.hid (HB8.out.trans (hb9.mono HB8.out.size))
                        have HT9 := Lib.hid (HT8.out.later hb9)
                        clear hb9
                        dsimp only
                        repeat (first | go_skip | go_guarded | go_step)
                        refine (tLen gg F8 ns8 w9 HT9.out).mono ?_
                        rintro e w9' ⟨rfl, rfl⟩
                        dsimp only
                        repeat (first | go_skip | go_guarded | go_step)
                        refine (HRF.out w9 HB9.out).mono ?_
                        rintro e w10 ⟨rfl, hb10⟩
                        dsimp only
                        repeat (first | go_skip | go_guarded | go_step)
                        go_ret
                        exact ⟨rfl, hb10⟩
                  · have hri : ((m16 : Int) != 0) = true := by rw [bne_iff_ne]; omega
                    clear hr
                    repeat (first | go_skip | go_guarded | go_step)
                    refine (HRF.out w2 HB2.out).mono ?_
                    rintro e w9 ⟨rfl, hb9⟩
                    dsimp only
                    repeat (first | go_skip | go_guarded | go_step)
                    go_ret
                    exact ⟨rfl, hb9⟩
end Go.Proofs.YtoigpbajefkpoaaGreatDoor.parseMany

