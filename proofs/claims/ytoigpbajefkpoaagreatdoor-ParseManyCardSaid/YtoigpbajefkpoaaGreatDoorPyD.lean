/- Texts, packed: SyP SyV SyT SyU -/
import Derived.Test.YtoigpbajefkpoaaGreatDoorPyB
import Derived.Maps.OwnSet
import Derived.Maps.OwnOps
import Derived.StringKeys
import Derived.Test.YtoigpbajefkpoaaGreatDoorPyA
import Derived.Lib.Strings
import Derived.Lib.Walk
import Derived.Lib.BufferWrite
import Derived.Lib.UnsafeStr
import Derived.Laws.MakeOwn
import Derived.Test.YtoigpbajefkpoaaGreatDoorPyC
import Derived.WalkSpells
set_option linter.unusedVariables false
set_option linter.unusedSimpArgs false
namespace Go.Proofs.YtoigpbajefkpoaaGreatDoor
open Go Go.RowKit Go.Maps

def keyL (s : ByteArray) : Lit := .string s.data.toList
theorem keyL_inj {a b : ByteArray} (h : keyL a = keyL b) : a = b := by
 cases a
 cases b
 simp only [keyL, Lit.string.injEq] at h
 congr 1
 exact Array.toList_inj.1 h
theorem key_law : Keyed Tryz.prog 9 := string_keyed Tryz.underlying9
theorem key_of {s : ByteArray} (hs : s.size ≤ maxLen) : keyOf Tryz.prog 9 (sv s) = some (keyL s) := Go.WideMaps.keyOf_string_mk Tryz.underlying9 hs
theorem zero_u32 (w : World) : (zeroValue 44).run Tryz.prog w = .ok (.int .u32 0) w := by kernel_rfl

/-- Block b is a map that tells of each name of l its place, and of no other one. -/
def MapIs (w : World) (b : Nat) (l : List ByteArray) : Prop :=
 ∃ D : DataW Unit, w.ownsMap Tryz.prog 9 (plainElem Tryz.prog 44) b l.length D ∧ ∀ s, has D (keyL s) = (findO l s).isSome ∧ ∀ k, findO l s = some k → ∀ z, D.atKey (keyL s) z = .lit (.int .u32 (k : Int))
theorem MapIs.lt {w : World} {b : Nat} {l : List ByteArray} (h : MapIs w b l) : b < w.heap.size := by
 obtain ⟨D, h1, _⟩ := h
 exact h1.lt
theorem MapIs.turn {G : Nat → Prop} {w w' : World} {b : Nat} {l : List ByteArray} (h : MapIs w b l) (ht : Turn G w w') (hn : ¬ G b) : MapIs w' b l := by
 obtain ⟨D, ⟨es, clock, hb, h1⟩, h2⟩ := h
 exact ⟨D, ⟨es, clock, (ht.block b (Array.getElem?_eq_some_iff.1 hb).1 hn).trans hb, h1⟩, h2⟩
theorem MapIs.made (w : World) : MapIs (w.alloc (.map #[] 0)) w.heap.size [] :=
 ⟨.map [], World.ownsMap_made w _ _ _, fun s => ⟨rfl, fun k hk => by simp [findO] at hk⟩⟩
theorem findO_append (l : List ByteArray) (s x : ByteArray) (hx : findO l x = none) : findO (l ++ [x]) s = if s = x then some l.length else findO l s := by
 unfold findO at hx ⊢
 rw [List.findIdx?_append]
 by_cases h : s = x
 ·
  subst h
  rw [hx]
  simp
 ·
  rw [if_neg h]
  have : List.findIdx? (fun y => decide (y = s)) [x] = none := by simp [Ne.symm h]
  rw [this]
  simp

/-- 'n, is := m[name]': a name that is there. -/
theorem look_is {ops : Array Oper} {rest : List Oper} {o : Oper} {a : Act} {Q : Exit → Act → World → Prop} (w : World) (hg : o.guard = none) (m x : Operand) (hop : o.op = Op.lookup 86 m x true)
  (b : Nat) (l : List ByteArray) (s : ByteArray) (k : Nat) (hm : a.eval m = .map (some b)) (hx : a.eval x = sv s) (hs : s.size ≤ maxLen) (h : MapIs w b l) (hf : findO l s = some k)
  (hK : wpList Tryz.prog ops Q rest (a.put o.dst (.tuple #[.int .u32 (k : Int), .bool true])) w) : wpList Tryz.prog ops Q (o :: rest) a w := by
 obtain ⟨D, h1, h2⟩ := h
 refine wpList_lookup_own_ok_int w hg m x _ hop 9 44 .u32 key_law Tryz.underlying86 Tryz.underlying44 (zero_u32 w) b _ D hm h1 (sv s) (keyL s) hx (key_of hs) ?_
 intro c hc _
 rw [(h2 s).2 k hf] at hc
 rw [(h2 s).1, hf]
 simp only [DataW.lit.injEq, Lit.int.injEq, true_and] at hc
 subst hc
 exact hK
/-- .. one that is not. -/
theorem look_not {ops : Array Oper} {rest : List Oper} {o : Oper} {a : Act} {Q : Exit → Act → World → Prop} (w : World) (hg : o.guard = none) (m x : Operand) (hop : o.op = Op.lookup 86 m x true)
  (b : Nat) (l : List ByteArray) (s : ByteArray) (hm : a.eval m = .map (some b)) (hx : a.eval x = sv s) (hs : s.size ≤ maxLen) (h : MapIs w b l) (hf : findO l s = none)
  (hK : wpList Tryz.prog ops Q rest (a.put o.dst (.tuple #[.int .u32 0, .bool false])) w) : wpList Tryz.prog ops Q (o :: rest) a w := by
 obtain ⟨D, h1, h2⟩ := h
 refine wpList_lookup_own_ok_int w hg m x _ hop 9 44 .u32 key_law Tryz.underlying86 Tryz.underlying44 (zero_u32 w) b _ D hm h1 (sv s) (keyL s) hx (key_of hs) ?_
 intro c hc _
 have hh := (h2 s).1
 rw [hf] at hh
 rw [atKey_of_not_has (by simpa using hh)] at hc
 rw [hh]
 simp only [DataW.lit.injEq, Lit.int.injEq, true_and] at hc
 subst hc
 exact hK
/-- 'm[name] = its number', of a new name. -/
theorem put_new {ops : Array Oper} {rest : List Oper} {o : Oper} {a : Act} {Q : Exit → Act → World → Prop} (w : World) (hg : o.guard = none) (m x v : Operand) (hop : o.op = Op.mapUpdate 86 m x v)
  (b : Nat) (l : List ByteArray) (s : ByteArray) (hm : a.eval m = .map (some b)) (hx : a.eval x = sv s) (hv : a.eval v = .int .u32 (l.length : Int)) (hs : s.size ≤ maxLen) (h : MapIs w b l) (hf : findO l s = none) (hl : l.length ≤ 1000000)
  (hK : ∀ w', MapIs w' b (l ++ [s]) → w.grownBy w' (some b) → wpList Tryz.prog ops Q rest (a.put o.dst undef) w') : wpList Tryz.prog ops Q (o :: rest) a w := by
 obtain ⟨D, h1, h2⟩ := h
 have hwf : (Lit.int .u32 (l.length : Int)).wf = true := by
  have e1 : IntKind.u32.min = 0 := rfl
  have e2 : IntKind.u32.max = 4294967295 := rfl
  simp only [Lit.wf, Bool.and_eq_true, decide_eq_true_eq]
  omega
 refine wpList_mapUpdate_own w hg m x v _ hop 9 44 key_law Tryz.underlying86 (plainElem Tryz.prog 44) b _ D hm h1 (by simp only [maxLen]; omega) (sv s) _ (keyL s) hx hv (key_of hs) (.lit (.int .u32 (l.length : Int))) [] (plainElem_int Tryz.underlying44 hwf) ?_
 intro w' h3 h4
 refine hK w' ⟨_, by simpa using h3, fun t => ?_⟩ h4
 rw [findO_append l t s hf]
 by_cases ht : t = s
 ·
  subst ht
  rw [if_pos rfl]
  refine ⟨has_put_same (World.ownsMap.isMap h1) (by trivial) _, fun k hk z => ?_⟩
  simp only [Option.some.injEq] at hk
  subst hk
  exact atKey_put_same (World.ownsMap.isMap h1) (by trivial) _ z
 ·
  have hne : keyL t ≠ keyL s := fun e => ht (keyL_inj e)
  rw [if_neg ht]
  refine ⟨by rw [has_put_other hne]; exact (h2 t).1, fun k hk z => ?_⟩
  rw [atKey_put_other hne]
  exact (h2 t).2 k hk z
end Go.Proofs.YtoigpbajefkpoaaGreatDoor

set_option linter.unusedVariables false
set_option linter.unusedSimpArgs false
namespace Go.Proofs.YtoigpbajefkpoaaGreatDoor
open Go Go.RowKit

theorem byteInfo : (Tryz.prog.info? 5).map (fun i => (i.zero, i.size, i.bytes)) = some (some (.int .u8 0), 1, 1) := by kernel_rfl

set_option maxHeartbeats 1000000 in
set_option maxRecDepth 100000 in
theorem lclone_any (s : ByteArray) (w : World) (hs : s.size ≤ 1099511627776) :
  Calls Tryz.prog 76 #[sv s] w fun e w' => e = .returned (sv s) ∧ Below w.heap.size w w' := by
 by_cases h0 : s.size = 0
 ·
  obtain rfl : s = ⟨#[]⟩ := ByteArray.ext (Array.eq_empty_of_size_eq_zero h0)
  go_enter Tryz.func76, Tryz.ntmps76
  go_wp2
  go_ret
  exact ⟨rfl, Below.refl _ _⟩
 ·
  obtain ⟨i0, hi, hz0, hz1, hz2⟩ := info_parts byteInfo
  have hi1 : (Tryz.prog.info? 5).map (·.size) = some 1 := by rw [hi]; simp [hz1]
  have hco : Tryz.prog.cellsOf 5 = 1 := by simp [Program.cellsOf, hi, hz1]
  obtain ⟨M, hM⟩ : ∃ M, M = madeCells (Value.int .u8 0).cells (((s.size : Nat) : Int).toNat * i0.size) := ⟨_, rfl⟩
  have hMs : M.size = s.size := by rw [hM, size_madeCells, hz1]; simp
  have hmk : ∀ W : World, (Instr.makeSlice 91 (.int .i64 (s.size : Int)) (.int .i64 (s.size : Int))).run Tryz.prog W = .ok (.slice (some ⟨W.heap.size, 0, none⟩) s.size s.size) (W.alloc (.cells M 5)) := fun W => by
   have h := run_make (P := Tryz.prog) W 91 5 i0 (.int .u8 0) Tryz.underlying91 hi hz0 .i64 .i64 (s.size : Int) (s.size : Int) (by omega) (by omega) (by rw [hz2]; omega) (by omega)
   rw [← hM] at h
   simpa using h
  clear hM
  have hcp := Lib.run_copy_row_string (P := Tryz.prog) (w.alloc (.cells M 5)) 91 9 3 5 w.heap.size 0 s.size s.size s M 5 Tryz.underlying91 hi1 (heap_alloc_new w _) (Nat.le_refl _) (by omega)
  obtain ⟨Y, hY⟩ : ∃ Y, Y = (M.toList.take 0 ++ Lib.byteCells s.data.toList ++ M.toList.drop (0 + s.size)).toArray := ⟨_, rfl⟩
  rw [← hY] at hcp
  have hYl : Y.toList = Lib.byteCells s.data.toList := by
   rw [hY, List.toList_toArray, List.take_zero, List.nil_append, List.drop_of_length_le (by rw [Array.length_toList]; omega), List.append_nil]
  have hYs : Y.size = s.size := by rw [← Array.length_toList, hYl, Lib.byteCells_length, ← Lib.size_eq]
  have hgY : ((w.alloc (.cells M 5)).setRow w.heap.size Y).heap[w.heap.size]? = some (.cells Y 5 (0, 0)) := setRow_heap _ _ M _ 5 (0, 0) (heap_alloc_new w _)
  have hne : s.data.toList ≠ [] := fun e => h0 (by rw [Lib.size_eq, e]; rfl)
  have hUS := Lib.run_unsafeString_row (P := Tryz.prog) ((w.alloc (.cells M 5)).setRow w.heap.size Y) 156 3 9 5 Tryz.underlying156 hco w.heap.size Y.size (by unfold World.shape?; rw [hgY]) s.data.toList hne (by rw [← Lib.size_eq]; omega) (by rw [← Lib.size_eq]; omega)
   (fun j x hx => Lib.cells_of_row hgY Y.size j _ (by rw [List.take_of_length_le (by rw [Array.length_toList]; exact Nat.le_refl _), hYl]; simp [Lib.byteCells, hx]))
  rw [← Lib.size_eq] at hUS
  clear hY
  go_enter Tryz.func76, Tryz.ntmps76
  go_wp2
  go_ret
  have hb1 : Below w.heap.size w (w.alloc (.cells M 5)) := (Below.refl _ w).alloc (Nat.le_refl _) _
  have hb2 : Below w.heap.size (w.alloc (.cells M 5)) ((w.alloc (.cells M 5)).setRow w.heap.size Y) := ⟨rfl, rfl, rfl, by simp, fun k hk => setRow_other _ _ _ _ (by omega)⟩
  exact ⟨rfl, Lib.below_freeze (hb1.trans hb2) (p := ⟨w.heap.size, 0, none⟩) (Nat.le_refl _) _⟩

set_option maxHeartbeats 1000000 in
set_option maxRecDepth 100000 in
theorem sclone_any (s : ByteArray) (w : World) (hs : s.size ≤ 1099511627776) :
  Calls Tryz.prog 49 #[sv s] w fun e w' => e = .returned (sv s) ∧ Below w.heap.size w w' := by
 go_enter Tryz.func49, Tryz.ntmps49
 repeat go_step
 refine (lclone_any s w hs).mono ?_
 rintro e w1 ⟨rfl, hb⟩
 dsimp only
 repeat go_step
 go_ret
 exact ⟨rfl, hb⟩
end Go.Proofs.YtoigpbajefkpoaaGreatDoor

set_option linter.unusedVariables false
set_option linter.unusedSimpArgs false
namespace Go.Proofs.YtoigpbajefkpoaaGreatDoor
open Go Go.RowKit

/-- The map, if there is one, tells of each name its number; where there is none there is no name. -/
def MapO (w : World) (M : Option Nat) (l : List ByteArray) : Prop := (M = none ∧ l = []) ∨ ∃ m, M = some m ∧ MapIs w m l
/-- The program's table at block g: names l in a row of its own in block X, their numbers in the map at block M. -/
def ST (w : World) (g : Nat) (X M : Option Nat) (l : List ByteArray) : Prop :=
  ∃ A c, Bk w g 88 [.slice A l.length c, .map M] ∧ OwS w 0 A c l.length l ∧ MapO w M l ∧ X = (Value.slice A l.length c).ownBlock ∧ X ≠ some g ∧ ∀ m, M = some m → X ≠ some m ∧ m ≠ g
def Fp2 (g : Nat) (X M : Option Nat) (k : Nat) : Prop := k = g ∨ X = some k ∨ M = some k
theorem MapO.turn {G : Nat → Prop} {w w' : World} {M : Option Nat} {l : List ByteArray} (h : MapO w M l) (ht : Turn G w w') (hn : ∀ m, M = some m → ¬ G m) : MapO w' M l := by
  rcases h with h | ⟨m, h1, h2⟩
  · exact .inl h
  · exact .inr ⟨m, h1, h2.turn ht (hn m h1)⟩
theorem ST.turn {G : Nat → Prop} {w w' : World} {g : Nat} {X M : Option Nat} {l : List ByteArray} (h : ST w g X M l) (ht : Turn G w w') (hn : ∀ k, Fp2 g X M k → ¬ G k) : ST w' g X M l := by
  obtain ⟨A, c, h1, h2, h3, h4, h5⟩ := h
  exact ⟨A, c, ht.bk h1 (hn g (.inl rfl)), ht.own h2 (fun k hk => hn k (.inr (.inl (h4.trans hk)))), h3.turn ht (fun m hm => hn m (.inr (.inr hm))), h4, h5⟩
theorem ST.lt {w : World} {g : Nat} {X M : Option Nat} {l : List ByteArray} (h : ST w g X M l) : ∀ k, Fp2 g X M k → k < w.heap.size := by
  obtain ⟨A, c, h1, h2, h3, h4, h5⟩ := h
  rintro k (rfl | hk | hk)
  · exact h1.lt
  · exact (World.ownsRow.lt h2 k (h4.symm.trans hk)).2
  · rcases h3 with ⟨h, _⟩ | ⟨m, h, h6⟩
    · rw [h] at hk
      cases hk
    · rw [h] at hk
      cases hk
      exact h6.lt
theorem anyd_load1 (ty : TypeId) {ops : Array Oper} {E : Prop} {o : Oper} {a : Act} {K : Act → World → Prop} {Q : Exit → Act → World → Prop} {w : World} (hwant : Region.wanted o (yielded ops a.tmps) = true) (x : Operand)
    (hty : ty = 22) (ho : o.op = .load ty x) (b i : Nat) (v : Value) (hx : a.eval x = .pointer (some ⟨b, i, none⟩)) (hc : w.cell? ⟨b, i, none⟩ = some v)
    (h : K (a.put o.dst v) w) : if Region.wanted o (yielded ops a.tmps) = true then Oper.wp Tryz.prog o a w K Q else E := by
  subst hty
  rw [if_pos hwant]
  unfold Oper.wp execOp
  simp only [ho, hx]
  go_simp
  exact h
/-- 'n, is := m[name]' of no map. -/
theorem look_none {ops : Array Oper} {rest : List Oper} {o : Oper} {a : Act} {Q : Exit → Act → World → Prop} (w : World) (hg : o.guard = none) (m x : Operand) (hop : o.op = Op.lookup 86 m x true)
    (s : ByteArray) (hm : a.eval m = .map none) (hx : a.eval x = sv s) (hs : s.size ≤ maxLen)
    (hK : wpList Tryz.prog ops Q rest (a.put o.dst (.tuple #[.int .u32 0, .bool false])) w) : wpList Tryz.prog ops Q (o :: rest) a w := by
  refine wpList_plain hg fun K hK' => ?_
  have hr := Go.Maps.look_nil (P := Tryz.prog) (w := w) true key_law Tryz.underlying86 (zero_u32 w) (key_of hs)
  unfold Oper.wp
  simp [execOp, hop, hm, hx, hr, Result.andThen]
  exact hK' _ _ hK

theorem mk_map (w : World) : (Instr.makeMap 86 none).run Tryz.prog w = .ok (.map (some w.heap.size)) (w.alloc (.map #[] 0)) := by kernel_rfl

set_option maxRecDepth 100000 in
set_option maxHeartbeats 1000000 in
theorem find_any (g : Nat) (X M : Option Nat) (l : List ByteArray) (s : ByteArray) (w : World) (h : ST w g X M l) (hs : s.size ≤ maxLen) :
    Calls Tryz.prog 26 #[.pointer (some ⟨g, 0, none⟩), sv s] w fun e w' => e = .returned (.tuple #[.int .u32 (((findO l s).getD 0 : Nat) : Int), .bool (findO l s).isSome]) ∧ w = w' := by
  obtain ⟨A, c, hb, ho, hM, hX, hg, hXM⟩ := id h
  have cm := hb.cell 1
  rw [show [Value.slice A l.length c, .map M][1]? = some (Value.map M) from rfl] at cm
  clear hb ho hX hg hXM h
  rcases hM with ⟨rfl, rfl⟩ | ⟨m, rfl, hm⟩
  · go_enter Tryz.func26, Tryz.ntmps26
    repeat (first | (at_lookup; refine look_none w rfl _ _ rfl s rfl rfl hs ?_) | go_step)
    go_ret2
    exact ⟨rfl, rfl⟩
  · have HM := Lib.hid hm
    clear hm
    cases hf : findO l s with
    | some k =>
      have HF := Lib.hid hf
      clear hf
      go_enter Tryz.func26, Tryz.ntmps26
      repeat (first | (at_lookup; refine look_is w rfl _ _ rfl m l s k rfl rfl hs HM.out HF.out ?_) | go_step)
      go_ret2
      exact ⟨rfl, rfl⟩
    | none =>
      have HF := Lib.hid hf
      clear hf
      go_enter Tryz.func26, Tryz.ntmps26
      repeat (first | (at_lookup; refine look_not w rfl _ _ rfl m l s rfl rfl hs HM.out HF.out ?_) | go_step)
      go_ret2
      exact ⟨rfl, rfl⟩

set_option maxRecDepth 100000 in
set_option maxHeartbeats 1000000 in
theorem add_some : ∀ (g : Nat) (X M : Option Nat) (l : List ByteArray) (s : ByteArray) (w : World) (h : ST w g X M l) (hM0 : ∃ m, M = some m) (hl : l.length < 4096) (hs : s.size ≤ 1099511627776) (hf : findO l s = none),
    Calls Tryz.prog 44 #[.pointer (some ⟨g, 0, none⟩), sv s] w fun e w' => e = .returned (.int .u32 (l.length : Int)) ∧
      ∃ X' M', ST w' g X' M' (l ++ [s]) ∧ Turn (Fp2 g X M) w w' ∧ (∀ k, X' = some k → X = some k ∨ w.heap.size ≤ k) ∧ ∀ k, M' = some k → M = some k ∨ w.heap.size ≤ k := by
  intro g X M l s w h hM0 hl hs hf
  obtain ⟨A, c, hb, ho, hM, hX, hg, hXM⟩ := id h
  have hlt := h.lt
  have hgl := hb.lt
  have HLT := Lib.hid hlt
  have HX := Lib.hid hX
  have HG := Lib.hid hg
  have HF := Lib.hid hf
  have hlw : IntKind.u32.wrap (l.length : Int) = (l.length : Int) := by rw [IntKind.wrap_u32]; omega
  clear hlt hX hg hf h
  obtain ⟨m, rfl⟩ := hM0
  obtain ⟨m', hm', hmi⟩ : ∃ m', some m = some m' ∧ MapIs w m' l := by
    rcases hM with ⟨h, _⟩ | h
    · cases h
    · exact h
  cases hm'
  obtain ⟨hXm, hmg⟩ := hXM m rfl
  have cm := hb.cell 1
  rw [show [Value.slice A l.length c, .map (some m)][1]? = some (Value.map (some m)) from rfl] at cm
  have HB := Lib.hid hb
  have HO := Lib.hid ho
  have HMI := Lib.hid hmi
  have HXm := Lib.hid hXm
  have HMg := Lib.hid hmg
  have HT0 := Lib.hid (Turn.refl (Fp2 g X (some m)) w)
  have hq := run_eql_map_nil (P := Tryz.prog) w 86 9 44 (some m) Tryz.underlying86
  simp only [Option.isNone] at hq
  have HML := Lib.hid (show (some m = some m ∨ w.heap.size ≤ m) from .inl rfl)
  have HXM := Lib.hid (show ∀ k, X = some k → k ≠ m from fun k hk e => hXm (by rw [hk, e]))
  have HXl := Lib.hid (show ∀ k, X = some k → k < w.heap.size from fun k hk => HLT.out k (.inr (.inl hk)))
  have hsz := Nat.le_refl w.heap.size
  clear hb ho hM hXM hmi hXm hmg
  obtain ⟨W, hW⟩ : ∃ W, W = w := ⟨_, rfl⟩
  subst hW
  go_enter Tryz.func44, Tryz.ntmps44
  repeat go_step
  have cg : ∀ V : World, Below W.heap.size W V → V.cell? ⟨g, 0, none⟩ = some (.slice A l.length c) := fun V hV => by
    have h := (HB.out.later hV).cell 0
    rw [h]
    rfl
  have CG := Lib.hid cg
  clear cg
  refine wp_region_any (by kernel_rfl) ?_
  try (change wpAny _ _ _ _ _ _ _ (World.drew _))
  refine wpAny_meet (b := ?ad1) (fun V => Below W.heap.size W V) ?cd1 ?rd1
  case rd1 =>
    intro hEnd
    have hf0 : Below W.heap.size W W.drew := belowDrews (Below.refl _ W) 1
    refine wpAny_take (i := 0) (oi := ?p2) (v := ?v2) ?a2 (by kernel_rfl) ?b2 ?c2 ?q2 ?y2 ?z2
    case a2 => (simp only [List.getElem?_toArray, List.getElem?_cons_succ, List.getElem?_cons_zero]; exact rfl)
    case b2 => kernel_rfl
    case c2 => kernel_rfl
    case q2 => exact fun _ _ _ h => h
    case y2 =>
      refine Or.inl ⟨by rfl, ?_⟩
      intro w
      go_simp
      (try with_reducible rfl)
    try simp only [Act.put, List.setIfInBounds_toArray, List.set_cons_zero, List.set_cons_succ]
    refine wpAny_take (i := 1) (oi := ?p3) (v := ?v3) ?a3 (by kernel_rfl) ?b3 ?c3 ?q3 ?y3 ?z3
    case a3 => (simp only [List.getElem?_toArray, List.getElem?_cons_succ, List.getElem?_cons_zero]; exact rfl)
    case b3 => kernel_rfl
    case c3 => kernel_rfl
    case q3 => exact fun _ _ _ h => h
    case y3 =>
      refine Or.inl ⟨by rfl, ?_⟩
      intro w
      go_simp
      (try with_reducible rfl)
    try simp only [Act.put, List.setIfInBounds_toArray, List.set_cons_zero, List.set_cons_succ]
    refine wpAny_take (i := 2) (oi := ?p4) (v := ?v4) ?a4 (by kernel_rfl) ?b4 ?c4 ?q4 ?y4 ?z4
    case a4 => (simp only [List.getElem?_toArray, List.getElem?_cons_succ, List.getElem?_cons_zero]; exact rfl)
    case b4 => kernel_rfl
    case c4 => kernel_rfl
    case q4 => exact fun _ _ _ h => h
    case y4 =>
      refine Or.inl ⟨by rfl, ?_⟩
      intro w
      go_simp
      (try with_reducible rfl)
    try simp only [Act.put, List.setIfInBounds_toArray, List.set_cons_zero, List.set_cons_succ]
    refine wpAny_take (i := 6) (oi := ?p5) (v := ?v5) ?a5 (by kernel_rfl) ?b5 ?c5 ?q5 ?y5 ?z5
    case a5 => (simp only [List.getElem?_toArray, List.getElem?_cons_succ, List.getElem?_cons_zero]; exact rfl)
    case b5 => kernel_rfl
    case c5 => kernel_rfl
    case q5 => exact fun _ _ _ h => h
    case y5 =>
      refine Or.inl ⟨by rfl, ?_⟩
      intro w
      go_simp
      (try with_reducible rfl)
    try simp only [Act.put, List.setIfInBounds_toArray, List.set_cons_zero, List.set_cons_succ]
    refine wpAny_ready (rs := [3, 7]) (by kernel_rfl) (by simp) ?_
    refine AllReady.cons (o := ?od6) ?hod6 (fun K hK => ?kd6) ?md6
    case hod6 => (simp only [List.getElem?_toArray, List.getElem?_cons_succ, List.getElem?_cons_zero]; exact rfl)
    case kd6 =>
      refine anyd_load1 _ (by rfl) (.tmp 17) rfl rfl g 0 _ (by rfl) (CG.out _ (by exact hf0)) ?_
      refine hK _ _ ?_
      clear hK K
      try simp only [Act.put, List.setIfInBounds_toArray, List.set_cons_zero, List.set_cons_succ]
      refine wpAny_take (i := 4) (oi := ?p7) (v := ?v7) ?a7 (by kernel_rfl) ?b7 ?c7 ?q7 ?y7 ?z7
      case a7 => (simp only [List.getElem?_toArray, List.getElem?_cons_succ, List.getElem?_cons_zero]; exact rfl)
      case b7 => kernel_rfl
      case c7 => kernel_rfl
      case q7 => exact fun _ _ _ h => h
      case y7 =>
        refine Or.inl ⟨by rfl, ?_⟩
        intro w
        go_simp
        (try with_reducible rfl)
      try simp only [Act.put, List.setIfInBounds_toArray, List.set_cons_zero, List.set_cons_succ]
      refine wpAny_take (i := 5) (oi := ?p8) (v := ?v8) ?a8 (by kernel_rfl) ?b8 ?c8 ?q8 ?y8 ?z8
      case a8 => (simp only [List.getElem?_toArray, List.getElem?_cons_succ, List.getElem?_cons_zero]; exact rfl)
      case b8 => kernel_rfl
      case c8 => kernel_rfl
      case q8 => exact fun _ _ _ h => h
      case y8 =>
        refine Or.inl ⟨by rfl, ?_⟩
        intro w
        go_simp
        (try with_reducible rfl)
      try simp only [Act.put, List.setIfInBounds_toArray, List.set_cons_zero, List.set_cons_succ]
      refine wpAny_ready (rs := [7]) (by kernel_rfl) (by simp) ?_
      refine AllReady.cons (o := ?od9) ?hod9 (fun K hK => ?kd9) ?md9
      case hod9 => (simp only [List.getElem?_toArray, List.getElem?_cons_succ, List.getElem?_cons_zero]; exact rfl)
      case kd9 =>
        go_simp
        refine (sclone_any s _ hs).mono ?_
        rintro e Vd9 ⟨rfl, hvd9⟩
        have hfd9 : Below W.heap.size W Vd9 := Below.trans (by exact hf0) (hvd9.mono (hf0).size)
        (try dsimp only)
        refine hK _ _ ?_
        clear hK K
        try simp only [Act.put, List.setIfInBounds_toArray, List.set_cons_zero, List.set_cons_succ]
        refine wpAny_take (i := 8) (oi := ?p10) (v := ?v10) ?a10 (by kernel_rfl) ?b10 ?c10 ?q10 ?y10 ?z10
        case a10 => (simp only [List.getElem?_toArray, List.getElem?_cons_succ, List.getElem?_cons_zero]; exact rfl)
        case b10 => kernel_rfl
        case c10 => kernel_rfl
        case q10 => exact fun _ _ _ h => h
        case y10 =>
          refine Or.inl ⟨by rfl, ?_⟩
          intro w
          go_simp
          (try with_reducible rfl)
        try simp only [Act.put, List.setIfInBounds_toArray, List.set_cons_zero, List.set_cons_succ]
        refine wpAny_take (i := 9) (oi := ?p11) (v := ?v11) ?a11 (by kernel_rfl) ?b11 ?c11 ?q11 ?y11 ?z11
        case a11 => (simp only [List.getElem?_toArray, List.getElem?_cons_succ, List.getElem?_cons_zero]; exact rfl)
        case b11 => kernel_rfl
        case c11 => kernel_rfl
        case q11 => exact fun _ _ _ h => h
        case y11 =>
          refine Or.inl ⟨by rfl, ?_⟩
          intro w
          go_simp
          (try with_reducible rfl)
        try simp only [Act.put, List.setIfInBounds_toArray, List.set_cons_zero, List.set_cons_succ]
        exact wpAny_done (by kernel_rfl) (hEnd _ hfd9) _
      exact AllReady.nil
    refine AllReady.cons (o := ?od12) ?hod12 (fun K hK => ?kd12) ?md12
    case hod12 => (simp only [List.getElem?_toArray, List.getElem?_cons_succ, List.getElem?_cons_zero]; exact rfl)
    case kd12 =>
      go_simp
      refine (sclone_any s _ hs).mono ?_
      rintro e Vd12 ⟨rfl, hvd12⟩
      have hfd12 : Below W.heap.size W Vd12 := Below.trans (by exact hf0) (hvd12.mono (hf0).size)
      (try dsimp only)
      refine hK _ _ ?_
      clear hK K
      try simp only [Act.put, List.setIfInBounds_toArray, List.set_cons_zero, List.set_cons_succ]
      refine wpAny_ready (rs := [3]) (by kernel_rfl) (by simp) ?_
      refine AllReady.cons (o := ?od13) ?hod13 (fun K hK => ?kd13) ?md13
      case hod13 => (simp only [List.getElem?_toArray, List.getElem?_cons_succ, List.getElem?_cons_zero]; exact rfl)
      case kd13 =>
        refine anyd_load1 _ (by rfl) (.tmp 17) rfl rfl g 0 _ (by rfl) (CG.out _ (by exact hfd12)) ?_
        refine hK _ _ ?_
        clear hK K
        try simp only [Act.put, List.setIfInBounds_toArray, List.set_cons_zero, List.set_cons_succ]
        refine wpAny_take (i := 4) (oi := ?p14) (v := ?v14) ?a14 (by kernel_rfl) ?b14 ?c14 ?q14 ?y14 ?z14
        case a14 => (simp only [List.getElem?_toArray, List.getElem?_cons_succ, List.getElem?_cons_zero]; exact rfl)
        case b14 => kernel_rfl
        case c14 => kernel_rfl
        case q14 => exact fun _ _ _ h => h
        case y14 =>
          refine Or.inl ⟨by rfl, ?_⟩
          intro w
          go_simp
          (try with_reducible rfl)
        try simp only [Act.put, List.setIfInBounds_toArray, List.set_cons_zero, List.set_cons_succ]
        refine wpAny_take (i := 5) (oi := ?p15) (v := ?v15) ?a15 (by kernel_rfl) ?b15 ?c15 ?q15 ?y15 ?z15
        case a15 => (simp only [List.getElem?_toArray, List.getElem?_cons_succ, List.getElem?_cons_zero]; exact rfl)
        case b15 => kernel_rfl
        case c15 => kernel_rfl
        case q15 => exact fun _ _ _ h => h
        case y15 =>
          refine Or.inl ⟨by rfl, ?_⟩
          intro w
          go_simp
          (try with_reducible rfl)
        try simp only [Act.put, List.setIfInBounds_toArray, List.set_cons_zero, List.set_cons_succ]
        refine wpAny_take (i := 8) (oi := ?p16) (v := ?v16) ?a16 (by kernel_rfl) ?b16 ?c16 ?q16 ?y16 ?z16
        case a16 => (simp only [List.getElem?_toArray, List.getElem?_cons_succ, List.getElem?_cons_zero]; exact rfl)
        case b16 => kernel_rfl
        case c16 => kernel_rfl
        case q16 => exact fun _ _ _ h => h
        case y16 =>
          refine Or.inl ⟨by rfl, ?_⟩
          intro w
          go_simp
          (try with_reducible rfl)
        try simp only [Act.put, List.setIfInBounds_toArray, List.set_cons_zero, List.set_cons_succ]
        refine wpAny_take (i := 9) (oi := ?p17) (v := ?v17) ?a17 (by kernel_rfl) ?b17 ?c17 ?q17 ?y17 ?z17
        case a17 => (simp only [List.getElem?_toArray, List.getElem?_cons_succ, List.getElem?_cons_zero]; exact rfl)
        case b17 => kernel_rfl
        case c17 => kernel_rfl
        case q17 => exact fun _ _ _ h => h
        case y17 =>
          refine Or.inl ⟨by rfl, ?_⟩
          intro w
          go_simp
          (try with_reducible rfl)
        try simp only [Act.put, List.setIfInBounds_toArray, List.set_cons_zero, List.set_cons_succ]
        exact wpAny_done (by kernel_rfl) (hEnd _ hfd12) _
      exact AllReady.nil
    exact AllReady.nil
  case cd1 =>
    intro V hV
    have hbV := HB.out.later hV
    have hoV := ownBelow HO.out hV (Nat.le_refl _)
    have hmV := HMI.out.turn (Turn.ofBelow (G := fun _ => False) hV) (fun h => h)
    have hsV := hV.size
    have HMV := Lib.hid hmV
    have HOV := Lib.hid hoV
    have HBV := Lib.hid hbV
    have HV := Lib.hid hV
    have cgV := hbV.cell 0
    rw [show [Value.slice A l.length c, .map (some m)][0]? = some (Value.slice A l.length c) from rfl] at cgV
    clear hV hbV hoV hmV
    repeat (first
      | (at_builtin; refine appS _ rfl (.tmp 27) (.tmp 29) rfl 0 A c l.length l rfl (World.ownsRow.alloc HOV.out _) (V.heap.size + 1) (some ⟨V.heap.size, 0, none⟩) 1 1 [s] rfl (rdS1 V s) (by omega) (Nat.zero_le _) ?_
         intro A1 c1 w1 ho1 hg1 hk1
         have hT1 : Turn (fun k => X = some k) V w1 := ((Turn.refl _ V).alloc _).trans (Turn.ofGrown hg1 (fun k hk => by rw [HX.out]; exact hk))
         have hb1 : Bk w1 g 88 [.slice A l.length c, .map (some m)] := hT1.bk HBV.out HG.out
         have hm1 : MapIs w1 m l := HMV.out.turn hT1 HXm.out
         have cg1 := hb1.cell 0
         rw [show [Value.slice A l.length c, .map (some m)][0]? = some (Value.slice A l.length c) from rfl] at cg1
         have fg1 := hb1.frozen 0
         have hb2 := hb1.set_ 0 (.slice A1 (l.length + 1) c1)
         have cm2 := hb2.cell 1
         rw [show ([Value.slice A l.length c, .map (some m)].set 0 (.slice A1 (l.length + 1) c1))[1]? = some (.map (some m)) from rfl] at cm2
         have hT2 : Turn (fun k => k = g) w1 (w1.setCell ⟨g, 0, none⟩ (.slice A1 (l.length + 1) c1)) := Turn.setCell (Turn.refl (fun k => k = g) w1) (p := ⟨g, 0, none⟩) (fun _ => rfl) _
         have hm2 := hm1.turn hT2 HMg.out)
      | (at_mapUpdate; refine put_new _ rfl _ _ _ rfl m l s rfl rfl rfl (by simp only [maxLen]; omega) hm2 HF.out (by first | omega | simp) ?_; intro w3 hm3 hg3)
      | go_step)
    go_ret
    have hX1 : ∀ k, (Value.slice A1 (l.length + 1) c1).ownBlock = some k → X = some k ∨ W.heap.size ≤ k := fun k hk => by
      rcases hk1 with e | e
      · rw [hk] at e
        exact .inl (HX.out.trans e.symm)
      · rw [hk] at e
        simp only [Option.some.injEq] at e
        refine .inr ?_
        rw [e]
        simp
        omega
    have hMl := HMI.out.lt
    have hXg : ∀ k, (Value.slice A1 (l.length + 1) c1).ownBlock = some k → k ≠ g ∧ k ≠ m := fun k hk => by
      rcases hX1 k hk with h | h
      · exact ⟨fun e => HG.out (by rw [h, e]), HXM.out k h⟩
      · have := HB.out.lt
        exact ⟨by omega, by omega⟩
    have hT3 : Turn (fun k => k = m) _ w3 := Turn.ofGrown hg3 (fun k hk => by cases hk; rfl)
    have hTV : Turn (fun _ => False) W V := Turn.ofBelow HV.out
    have hTW : Turn (fun k => k = g ∨ X = some k ∨ k = m) W w3 := (((hTV.mono fun k _ h => h.elim).then_ hT1 fun k _ hk => .inr (.inl hk)).then_ hT2 fun k _ hk => .inl hk).then_ hT3 fun k _ hk => .inr (.inr hk)
    refine ⟨rfl, (Value.slice A1 (l.length + 1) c1).ownBlock, some m, ?_, ?_, ?_, ?_⟩
    · refine ⟨A1, c1, by simpa using hT3.bk hb2 (Ne.symm HMg.out), ?_, .inr ⟨m, rfl, hm3⟩, by simp, fun e => (hXg g e).1 rfl, fun k hk => by cases hk; exact ⟨fun e => (hXg m e).2 rfl, HMg.out⟩⟩
      have := hT3.own (hT2.own ho1 (fun k hk e => (hXg k hk).1 e)) (fun k hk e => (hXg k hk).2 e)
      simpa [OwS] using this
    · refine HT0.out.then_ hTW fun k hk hg => ?_
      rcases hg with h | h | rfl
      · exact .inl h
      · exact .inr (.inl h)
      · rcases HML.out with h | h
        · exact .inr (.inr h)
        · omega
    · intro k hk
      rcases hX1 k hk with h | h
      · exact .inl h
      · exact .inr (by omega)
    · intro k hk
      cases hk
      exact HML.out

set_option maxRecDepth 100000 in
set_option maxHeartbeats 1000000 in
theorem add_none : ∀ (g : Nat) (X M : Option Nat) (l : List ByteArray) (s : ByteArray) (w : World) (h : ST w g X M l) (hM0 : M = none) (hl : l.length < 4096) (hs : s.size ≤ 1099511627776) (hf : findO l s = none),
    Calls Tryz.prog 44 #[.pointer (some ⟨g, 0, none⟩), sv s] w fun e w' => e = .returned (.int .u32 (l.length : Int)) ∧
      ∃ X' M', ST w' g X' M' (l ++ [s]) ∧ Turn (Fp2 g X M) w w' ∧ (∀ k, X' = some k → X = some k ∨ w.heap.size ≤ k) ∧ ∀ k, M' = some k → M = some k ∨ w.heap.size ≤ k := by
  intro g X M l s w h hM0 hl hs hf
  obtain ⟨A, c, hb, ho, hM, hX, hg, hXM⟩ := id h
  have hlt := h.lt
  have hgl := hb.lt
  have HLT := Lib.hid hlt
  have HX := Lib.hid hX
  have HG := Lib.hid hg
  have HF := Lib.hid hf
  have hlw : IntKind.u32.wrap (l.length : Int) = (l.length : Int) := by rw [IntKind.wrap_u32]; omega
  clear hlt hX hg hf h
  subst hM0
  obtain rfl : l = [] := by
    rcases hM with ⟨_, h⟩ | ⟨m, h, _⟩
    · exact h
    · cases h
  have hb1 := hb.alloc (.map #[] 0)
  have cm := hb.cell 1
  rw [show [Value.slice A ([] : List ByteArray).length c, .map none][1]? = some (Value.map none) from rfl] at cm
  have cm1 := hb1.cell 1
  rw [show [Value.slice A ([] : List ByteArray).length c, .map none][1]? = some (Value.map none) from rfl] at cm1
  have fm1 := hb1.frozen 1
  have hmk := mk_map w
  have hq := run_eql_map_nil (P := Tryz.prog) w 86 9 44 none Tryz.underlying86
  simp only [Option.isNone] at hq
  have hbW := (hb.set_ 1 (.map (some w.heap.size))).alloc (.map #[] 0)
  have hT2 : Turn (fun k => k = g) w ((w.setCell ⟨g, 1, none⟩ (.map (some w.heap.size))).alloc (.map #[] 0)) :=
    (Turn.setCell (G := fun k => k = g) (p := ⟨g, 1, none⟩) (Turn.refl _ w) (fun _ => rfl) _).alloc _
  have hoW := hT2.own ho (fun k hk e => HG.out (by rw [HX.out, hk, e]))
  have hmW : MapIs ((w.setCell ⟨g, 1, none⟩ (.map (some w.heap.size))).alloc (.map #[] 0)) w.heap.size [] := by
    have h := MapIs.made (w.setCell ⟨g, 1, none⟩ (.map (some w.heap.size)))
    simpa using h
  have HXl := Lib.hid (show ∀ k, X = some k → k < w.heap.size from fun k hk => HLT.out k (.inr (.inl hk)))
  obtain ⟨m, hm⟩ : ∃ m, m = w.heap.size := ⟨_, rfl⟩
  rw [← hm] at hbW hT2 hoW hmW
  have hXm : X ≠ some m := fun e => absurd (HXl.out m e) (by omega)
  have hmg : m ≠ g := by omega
  have HXm := Lib.hid hXm
  have HMg := Lib.hid hmg
  have HXM := Lib.hid (show ∀ k, X = some k → k ≠ m from fun k hk e => hXm (by rw [hk, e]))
  have HML := Lib.hid (show ((none : Option Nat) = some m ∨ w.heap.size ≤ m) from .inr (by omega))
  clear hb hb1 ho hM hXM hXm hmg
  go_enter Tryz.func44, Tryz.ntmps44
  repeat go_step
  rw [← hm]
  have hsz := hT2.size
  obtain ⟨W, hW⟩ : ∃ W, W = (w.setCell ⟨g, 1, none⟩ (.map (some m))).alloc (.map #[] 0) := ⟨_, rfl⟩
  rw [← hW] at hbW hT2 hoW hmW hsz ⊢
  have HB := Lib.hid (show Bk W g 88 [.slice A 0 c, .map (some m)] from hbW)
  have HO := Lib.hid (show OwS W 0 A c 0 [] from hoW)
  have HMI := Lib.hid hmW
  have HT0 := Lib.hid (hT2.mono (G' := Fp2 g X none) fun k _ hk => .inl hk)
  clear hbW hT2 hoW hmW cm1 fm1 hmk hW cm hm
  repeat go_step
  have cg : ∀ V : World, Below W.heap.size W V → V.cell? ⟨g, 0, none⟩ = some (.slice A 0 c) := fun V hV => by
    have h := (HB.out.later hV).cell 0
    rw [h]
    rfl
  have CG := Lib.hid cg
  clear cg
  refine wp_region_any (by kernel_rfl) ?_
  try (change wpAny _ _ _ _ _ _ _ (World.drew _))
  refine wpAny_meet (b := ?ad18) (fun V => Below W.heap.size W V) ?cd18 ?rd18
  case rd18 =>
    intro hEnd
    have hf0 : Below W.heap.size W W.drew := belowDrews (Below.refl _ W) 1
    refine wpAny_take (i := 0) (oi := ?p19) (v := ?v19) ?a19 (by kernel_rfl) ?b19 ?c19 ?q19 ?y19 ?z19
    case a19 => (simp only [List.getElem?_toArray, List.getElem?_cons_succ, List.getElem?_cons_zero]; exact rfl)
    case b19 => kernel_rfl
    case c19 => kernel_rfl
    case q19 => exact fun _ _ _ h => h
    case y19 =>
      refine Or.inl ⟨by rfl, ?_⟩
      intro w
      go_simp
      (try with_reducible rfl)
    try simp only [Act.put, List.setIfInBounds_toArray, List.set_cons_zero, List.set_cons_succ]
    refine wpAny_take (i := 1) (oi := ?p20) (v := ?v20) ?a20 (by kernel_rfl) ?b20 ?c20 ?q20 ?y20 ?z20
    case a20 => (simp only [List.getElem?_toArray, List.getElem?_cons_succ, List.getElem?_cons_zero]; exact rfl)
    case b20 => kernel_rfl
    case c20 => kernel_rfl
    case q20 => exact fun _ _ _ h => h
    case y20 =>
      refine Or.inl ⟨by rfl, ?_⟩
      intro w
      go_simp
      (try with_reducible rfl)
    try simp only [Act.put, List.setIfInBounds_toArray, List.set_cons_zero, List.set_cons_succ]
    refine wpAny_take (i := 2) (oi := ?p21) (v := ?v21) ?a21 (by kernel_rfl) ?b21 ?c21 ?q21 ?y21 ?z21
    case a21 => (simp only [List.getElem?_toArray, List.getElem?_cons_succ, List.getElem?_cons_zero]; exact rfl)
    case b21 => kernel_rfl
    case c21 => kernel_rfl
    case q21 => exact fun _ _ _ h => h
    case y21 =>
      refine Or.inl ⟨by rfl, ?_⟩
      intro w
      go_simp
      (try with_reducible rfl)
    try simp only [Act.put, List.setIfInBounds_toArray, List.set_cons_zero, List.set_cons_succ]
    refine wpAny_take (i := 6) (oi := ?p22) (v := ?v22) ?a22 (by kernel_rfl) ?b22 ?c22 ?q22 ?y22 ?z22
    case a22 => (simp only [List.getElem?_toArray, List.getElem?_cons_succ, List.getElem?_cons_zero]; exact rfl)
    case b22 => kernel_rfl
    case c22 => kernel_rfl
    case q22 => exact fun _ _ _ h => h
    case y22 =>
      refine Or.inl ⟨by rfl, ?_⟩
      intro w
      go_simp
      (try with_reducible rfl)
    try simp only [Act.put, List.setIfInBounds_toArray, List.set_cons_zero, List.set_cons_succ]
    refine wpAny_ready (rs := [3, 7]) (by kernel_rfl) (by simp) ?_
    refine AllReady.cons (o := ?od23) ?hod23 (fun K hK => ?kd23) ?md23
    case hod23 => (simp only [List.getElem?_toArray, List.getElem?_cons_succ, List.getElem?_cons_zero]; exact rfl)
    case kd23 =>
      refine anyd_load1 _ (by rfl) (.tmp 17) rfl rfl g 0 _ (by rfl) (CG.out _ (by exact hf0)) ?_
      refine hK _ _ ?_
      clear hK K
      try simp only [Act.put, List.setIfInBounds_toArray, List.set_cons_zero, List.set_cons_succ]
      refine wpAny_take (i := 4) (oi := ?p24) (v := ?v24) ?a24 (by kernel_rfl) ?b24 ?c24 ?q24 ?y24 ?z24
      case a24 => (simp only [List.getElem?_toArray, List.getElem?_cons_succ, List.getElem?_cons_zero]; exact rfl)
      case b24 => kernel_rfl
      case c24 => kernel_rfl
      case q24 => exact fun _ _ _ h => h
      case y24 =>
        refine Or.inl ⟨by rfl, ?_⟩
        intro w
        go_simp
        (try with_reducible rfl)
      try simp only [Act.put, List.setIfInBounds_toArray, List.set_cons_zero, List.set_cons_succ]
      refine wpAny_take (i := 5) (oi := ?p25) (v := ?v25) ?a25 (by kernel_rfl) ?b25 ?c25 ?q25 ?y25 ?z25
      case a25 => (simp only [List.getElem?_toArray, List.getElem?_cons_succ, List.getElem?_cons_zero]; exact rfl)
      case b25 => kernel_rfl
      case c25 => kernel_rfl
      case q25 => exact fun _ _ _ h => h
      case y25 =>
        refine Or.inl ⟨by rfl, ?_⟩
        intro w
        go_simp
        (try with_reducible rfl)
      try simp only [Act.put, List.setIfInBounds_toArray, List.set_cons_zero, List.set_cons_succ]
      refine wpAny_ready (rs := [7]) (by kernel_rfl) (by simp) ?_
      refine AllReady.cons (o := ?od26) ?hod26 (fun K hK => ?kd26) ?md26
      case hod26 => (simp only [List.getElem?_toArray, List.getElem?_cons_succ, List.getElem?_cons_zero]; exact rfl)
      case kd26 =>
        go_simp
        refine (sclone_any s _ hs).mono ?_
        rintro e Vd26 ⟨rfl, hvd26⟩
        have hfd26 : Below W.heap.size W Vd26 := Below.trans (by exact hf0) (hvd26.mono (hf0).size)
        (try dsimp only)
        refine hK _ _ ?_
        clear hK K
        try simp only [Act.put, List.setIfInBounds_toArray, List.set_cons_zero, List.set_cons_succ]
        refine wpAny_take (i := 8) (oi := ?p27) (v := ?v27) ?a27 (by kernel_rfl) ?b27 ?c27 ?q27 ?y27 ?z27
        case a27 => (simp only [List.getElem?_toArray, List.getElem?_cons_succ, List.getElem?_cons_zero]; exact rfl)
        case b27 => kernel_rfl
        case c27 => kernel_rfl
        case q27 => exact fun _ _ _ h => h
        case y27 =>
          refine Or.inl ⟨by rfl, ?_⟩
          intro w
          go_simp
          (try with_reducible rfl)
        try simp only [Act.put, List.setIfInBounds_toArray, List.set_cons_zero, List.set_cons_succ]
        refine wpAny_take (i := 9) (oi := ?p28) (v := ?v28) ?a28 (by kernel_rfl) ?b28 ?c28 ?q28 ?y28 ?z28
        case a28 => (simp only [List.getElem?_toArray, List.getElem?_cons_succ, List.getElem?_cons_zero]; exact rfl)
        case b28 => kernel_rfl
        case c28 => kernel_rfl
        case q28 => exact fun _ _ _ h => h
        case y28 =>
          refine Or.inl ⟨by rfl, ?_⟩
          intro w
          go_simp
          (try with_reducible rfl)
        try simp only [Act.put, List.setIfInBounds_toArray, List.set_cons_zero, List.set_cons_succ]
        exact wpAny_done (by kernel_rfl) (hEnd _ hfd26) _
      exact AllReady.nil
    refine AllReady.cons (o := ?od29) ?hod29 (fun K hK => ?kd29) ?md29
    case hod29 => (simp only [List.getElem?_toArray, List.getElem?_cons_succ, List.getElem?_cons_zero]; exact rfl)
    case kd29 =>
      go_simp
      refine (sclone_any s _ hs).mono ?_
      rintro e Vd29 ⟨rfl, hvd29⟩
      have hfd29 : Below W.heap.size W Vd29 := Below.trans (by exact hf0) (hvd29.mono (hf0).size)
      (try dsimp only)
      refine hK _ _ ?_
      clear hK K
      try simp only [Act.put, List.setIfInBounds_toArray, List.set_cons_zero, List.set_cons_succ]
      refine wpAny_ready (rs := [3]) (by kernel_rfl) (by simp) ?_
      refine AllReady.cons (o := ?od30) ?hod30 (fun K hK => ?kd30) ?md30
      case hod30 => (simp only [List.getElem?_toArray, List.getElem?_cons_succ, List.getElem?_cons_zero]; exact rfl)
      case kd30 =>
        refine anyd_load1 _ (by rfl) (.tmp 17) rfl rfl g 0 _ (by rfl) (CG.out _ (by exact hfd29)) ?_
        refine hK _ _ ?_
        clear hK K
        try simp only [Act.put, List.setIfInBounds_toArray, List.set_cons_zero, List.set_cons_succ]
        refine wpAny_take (i := 4) (oi := ?p31) (v := ?v31) ?a31 (by kernel_rfl) ?b31 ?c31 ?q31 ?y31 ?z31
        case a31 => (simp only [List.getElem?_toArray, List.getElem?_cons_succ, List.getElem?_cons_zero]; exact rfl)
        case b31 => kernel_rfl
        case c31 => kernel_rfl
        case q31 => exact fun _ _ _ h => h
        case y31 =>
          refine Or.inl ⟨by rfl, ?_⟩
          intro w
          go_simp
          (try with_reducible rfl)
        try simp only [Act.put, List.setIfInBounds_toArray, List.set_cons_zero, List.set_cons_succ]
        refine wpAny_take (i := 5) (oi := ?p32) (v := ?v32) ?a32 (by kernel_rfl) ?b32 ?c32 ?q32 ?y32 ?z32
        case a32 => (simp only [List.getElem?_toArray, List.getElem?_cons_succ, List.getElem?_cons_zero]; exact rfl)
        case b32 => kernel_rfl
        case c32 => kernel_rfl
        case q32 => exact fun _ _ _ h => h
        case y32 =>
          refine Or.inl ⟨by rfl, ?_⟩
          intro w
          go_simp
          (try with_reducible rfl)
        try simp only [Act.put, List.setIfInBounds_toArray, List.set_cons_zero, List.set_cons_succ]
        refine wpAny_take (i := 8) (oi := ?p33) (v := ?v33) ?a33 (by kernel_rfl) ?b33 ?c33 ?q33 ?y33 ?z33
        case a33 => (simp only [List.getElem?_toArray, List.getElem?_cons_succ, List.getElem?_cons_zero]; exact rfl)
        case b33 => kernel_rfl
        case c33 => kernel_rfl
        case q33 => exact fun _ _ _ h => h
        case y33 =>
          refine Or.inl ⟨by rfl, ?_⟩
          intro w
          go_simp
          (try with_reducible rfl)
        try simp only [Act.put, List.setIfInBounds_toArray, List.set_cons_zero, List.set_cons_succ]
        refine wpAny_take (i := 9) (oi := ?p34) (v := ?v34) ?a34 (by kernel_rfl) ?b34 ?c34 ?q34 ?y34 ?z34
        case a34 => (simp only [List.getElem?_toArray, List.getElem?_cons_succ, List.getElem?_cons_zero]; exact rfl)
        case b34 => kernel_rfl
        case c34 => kernel_rfl
        case q34 => exact fun _ _ _ h => h
        case y34 =>
          refine Or.inl ⟨by rfl, ?_⟩
          intro w
          go_simp
          (try with_reducible rfl)
        try simp only [Act.put, List.setIfInBounds_toArray, List.set_cons_zero, List.set_cons_succ]
        exact wpAny_done (by kernel_rfl) (hEnd _ hfd29) _
      exact AllReady.nil
    exact AllReady.nil
  case cd18 =>
    intro V hV
    have hbV := HB.out.later hV
    have hoV := ownBelow HO.out hV (Nat.le_refl _)
    have hmV := HMI.out.turn (Turn.ofBelow (G := fun _ => False) hV) (fun h => h)
    have hsV := hV.size
    have HMV := Lib.hid hmV
    have HOV := Lib.hid hoV
    have HBV := Lib.hid hbV
    have HV := Lib.hid hV
    have cgV := hbV.cell 0
    rw [show [Value.slice A 0 c, .map (some m)][0]? = some (Value.slice A 0 c) from rfl] at cgV
    clear hV hbV hoV hmV
    repeat (first
      | (at_builtin; refine appS _ rfl (.tmp 27) (.tmp 29) rfl 0 A c 0 ([] : List ByteArray) rfl (World.ownsRow.alloc HOV.out _) (V.heap.size + 1) (some ⟨V.heap.size, 0, none⟩) 1 1 [s] rfl (rdS1 V s) (by omega) (Nat.zero_le _) ?_
         intro A1 c1 w1 ho1 hg1 hk1
         have hT1 : Turn (fun k => X = some k) V w1 := ((Turn.refl _ V).alloc _).trans (Turn.ofGrown hg1 (fun k hk => by rw [HX.out]; exact hk))
         have hb1 : Bk w1 g 88 [.slice A 0 c, .map (some m)] := hT1.bk HBV.out HG.out
         have hm1 : MapIs w1 m ([] : List ByteArray) := HMV.out.turn hT1 HXm.out
         have cg1 := hb1.cell 0
         rw [show [Value.slice A 0 c, .map (some m)][0]? = some (Value.slice A 0 c) from rfl] at cg1
         have fg1 := hb1.frozen 0
         have hb2 := hb1.set_ 0 (.slice A1 (0 + 1) c1)
         have cm2 := hb2.cell 1
         rw [show ([Value.slice A 0 c, .map (some m)].set 0 (.slice A1 (0 + 1) c1))[1]? = some (.map (some m)) from rfl] at cm2
         have hT2 : Turn (fun k => k = g) w1 (w1.setCell ⟨g, 0, none⟩ (.slice A1 (0 + 1) c1)) := Turn.setCell (Turn.refl (fun k => k = g) w1) (p := ⟨g, 0, none⟩) (fun _ => rfl) _
         have hm2 := hm1.turn hT2 HMg.out)
      | (at_mapUpdate; refine put_new _ rfl _ _ _ rfl m ([] : List ByteArray) s rfl rfl rfl (by simp only [maxLen]; omega) hm2 HF.out (by first | omega | simp) ?_; intro w3 hm3 hg3)
      | go_step)
    go_ret
    have hX1 : ∀ k, (Value.slice A1 (0 + 1) c1).ownBlock = some k → X = some k ∨ W.heap.size ≤ k := fun k hk => by
      rcases hk1 with e | e
      · rw [hk] at e
        exact .inl (HX.out.trans e.symm)
      · rw [hk] at e
        simp only [Option.some.injEq] at e
        refine .inr ?_
        rw [e]
        simp
        omega
    have hMl := HMI.out.lt
    have hXg : ∀ k, (Value.slice A1 (0 + 1) c1).ownBlock = some k → k ≠ g ∧ k ≠ m := fun k hk => by
      rcases hX1 k hk with h | h
      · exact ⟨fun e => HG.out (by rw [h, e]), HXM.out k h⟩
      · have := HB.out.lt
        exact ⟨by omega, by omega⟩
    have hT3 : Turn (fun k => k = m) _ w3 := Turn.ofGrown hg3 (fun k hk => by cases hk; rfl)
    have hTV : Turn (fun _ => False) W V := Turn.ofBelow HV.out
    have hTW : Turn (fun k => k = g ∨ X = some k ∨ k = m) W w3 := (((hTV.mono fun k _ h => h.elim).then_ hT1 fun k _ hk => .inr (.inl hk)).then_ hT2 fun k _ hk => .inl hk).then_ hT3 fun k _ hk => .inr (.inr hk)
    refine ⟨rfl, (Value.slice A1 (0 + 1) c1).ownBlock, some m, ?_, ?_, ?_, ?_⟩
    · refine ⟨A1, c1, by simpa using hT3.bk hb2 (Ne.symm HMg.out), ?_, .inr ⟨m, rfl, hm3⟩, by simp, fun e => (hXg g e).1 rfl, fun k hk => by cases hk; exact ⟨fun e => (hXg m e).2 rfl, HMg.out⟩⟩
      have := hT3.own (hT2.own ho1 (fun k hk e => (hXg k hk).1 e)) (fun k hk e => (hXg k hk).2 e)
      simpa [OwS] using this
    · refine HT0.out.then_ hTW fun k hk hg => ?_
      rcases hg with h | h | rfl
      · exact .inl h
      · exact .inr (.inl h)
      · rcases HML.out with h | h
        · exact .inr (.inr h)
        · omega
    · intro k hk
      rcases hX1 k hk with h | h
      · exact .inl h
      · exact .inr (by omega)
    · intro k hk
      cases hk
      exact HML.out

theorem add_any (g : Nat) (X M : Option Nat) (l : List ByteArray) (s : ByteArray) (w : World) (h : ST w g X M l) (hl : l.length < 4096) (hs : s.size ≤ 1099511627776) (hf : findO l s = none) :
    Calls Tryz.prog 44 #[.pointer (some ⟨g, 0, none⟩), sv s] w fun e w' => e = .returned (.int .u32 (l.length : Int)) ∧
      ∃ X' M', ST w' g X' M' (l ++ [s]) ∧ Turn (Fp2 g X M) w w' ∧ (∀ k, X' = some k → X = some k ∨ w.heap.size ≤ k) ∧ ∀ k, M' = some k → M = some k ∨ w.heap.size ≤ k := by
  cases M with
  | none => exact add_none g X none l s w h rfl hl hs hf
  | some m => exact add_some g X (some m) l s w h ⟨m, rfl⟩ hl hs hf
end Go.Proofs.YtoigpbajefkpoaaGreatDoor

set_option linter.unusedVariables false
set_option linter.unusedSimpArgs false
namespace Go.Proofs.YtoigpbajefkpoaaGreatDoor
open Go Go.RowKit

set_option maxRecDepth 100000 in
set_option maxHeartbeats 1000000 in
theorem put_any (g : Nat) (X M : Option Nat) (l : List ByteArray) (s : ByteArray) (w : World) (h : ST w g X M l) (hl : l.length ≤ 1000000) (hs : s.size ≤ 1099511627776)
  (hmay : ∀ W : World, Calls Tryz.prog 43 #[sv s] W fun e w' => e = .returned (.bool (mayB s)) ∧ W = w') :
  Calls Tryz.prog 24 #[.pointer (some ⟨g, 0, none⟩), sv s] w fun e w' => e = .returned (.tuple #[.int .u32 ((putL l s).2.1 : Int), .int .i64 ((putL l s).2.2 : Int)]) ∧
   ∃ X' M', ST w' g X' M' (putL l s).1 ∧ Turn (Fp2 g X M) w w' ∧ (∀ k, X' = some k → X = some k ∨ w.heap.size ≤ k) ∧ ∀ k, M' = some k → M = some k ∨ w.heap.size ≤ k := by
 have hstay : ∀ n e : Nat, putL l s = (l, n, e) → ∃ X' M', ST w g X' M' (putL l s).1 ∧ Turn (Fp2 g X M) w w ∧ (∀ k, X' = some k → X = some k ∨ w.heap.size ≤ k) ∧ ∀ k, M' = some k → M = some k ∨ w.heap.size ≤ k :=
  fun n e he => ⟨X, M, by rw [he]; exact h, Turn.refl _ _, fun k hk => .inl hk, fun k hk => .inl hk⟩
 have HSTAY := Lib.hid hstay
 have HMAY := Lib.hid hmay
 have HH := Lib.hid h
 have hsm : s.size ≤ maxLen := by simp only [maxLen]; omega
 clear hstay hmay
 by_cases hm : mayB s = false
 ·
  have hp : putL l s = (l, 0, 8) := by unfold putL; rw [if_pos hm]
  have HP := Lib.hid hp
  clear h hp
  go_enter Tryz.func24, Tryz.ntmps24
  repeat go_step
  refine (HMAY.out w).mono ?_
  rintro e w1 ⟨rfl, rfl⟩
  rw [hm]
  dsimp only
  repeat go_step
  go_ret2
  exact ⟨by rw [HP.out]; rfl, HSTAY.out _ _ HP.out⟩
 ·
  have hm1 : mayB s = true := by simpa using hm
  obtain ⟨A, c, hb, ho, hM, hX, hg, hXM⟩ := id h
  have cg := hb.cell 0
  rw [show [Value.slice A l.length c, .map M][0]? = some (Value.slice A l.length c) from rfl] at cg
  clear hb ho hM hX hg hXM h
  cases hf : findO l s with
  | some k =>
   have hp : putL l s = (l, k, 0) := by unfold putL; rw [if_neg hm, hf]
   have HP := Lib.hid hp
   have HF := Lib.hid hf
   clear hf hp
   go_enter Tryz.func24, Tryz.ntmps24
   repeat go_step
   refine (HMAY.out w).mono ?_
   rintro e w1 ⟨rfl, rfl⟩
   rw [hm1]
   dsimp only
   repeat go_step
   refine (find_any g X M l s w HH.out hsm).mono ?_
   rintro e w1 ⟨rfl, rfl⟩
   rw [HF.out]
   dsimp only [Option.getD, Option.isSome]
   repeat go_step
   go_ret2
   exact ⟨by rw [HP.out]; rfl, HSTAY.out _ _ HP.out⟩
  | none =>
   by_cases hbig : 4096 ≤ l.length
   ·
    have hp : putL l s = (l, 0, 6) := by unfold putL; rw [if_neg hm, hf]; simp [hbig]
    have HP := Lib.hid hp
    have hd : decide ((4096 : Int) ≤ (l.length : Int)) = true := by simp; omega
    have HF := Lib.hid hf
    clear hf hp
    go_enter Tryz.func24, Tryz.ntmps24
    repeat go_step
    refine (HMAY.out w).mono ?_
    rintro e w1 ⟨rfl, rfl⟩
    rw [hm1]
    dsimp only
    repeat go_step
    refine (find_any g X M l s w HH.out hsm).mono ?_
    rintro e w1 ⟨rfl, rfl⟩
    rw [HF.out]
    dsimp only [Option.getD, Option.isSome]
    repeat go_step
    go_ret2
    exact ⟨by rw [HP.out]; rfl, HSTAY.out _ _ HP.out⟩
   ·
    have hp : putL l s = (l ++ [s], l.length, 0) := by unfold putL; rw [if_neg hm, hf]; simp [hbig]
    have HP := Lib.hid hp
    have hd : decide ((4096 : Int) ≤ (l.length : Int)) = false := by simp; omega
    have HF := Lib.hid hf
    clear hf hp
    go_enter Tryz.func24, Tryz.ntmps24
    repeat go_step
    refine (HMAY.out w).mono ?_
    rintro e w1 ⟨rfl, rfl⟩
    rw [hm1]
    dsimp only
    repeat go_step
    refine (find_any g X M l s w HH.out hsm).mono ?_
    rintro e w1 ⟨rfl, rfl⟩
    rw [HF.out]
    dsimp only [Option.getD, Option.isSome]
    repeat go_step
    refine (add_any g X M l s w HH.out (by omega) hs HF.out).mono ?_
    rintro e w1 ⟨rfl, X', M', h1, h2, h3, h4⟩
    dsimp only
    repeat go_step
    go_ret2
    exact ⟨by rw [HP.out]; rfl, X', M', by rw [HP.out]; exact h1, h2, h3, h4⟩

set_option maxRecDepth 100000 in
set_option maxHeartbeats 1000000 in
theorem name_any (g : Nat) (X M : Option Nat) (l : List ByteArray) (n : Nat) (w : World) (h : ST w g X M l) (hn : n < 4294967296) :
  Calls Tryz.prog 128 #[.pointer (some ⟨g, 0, none⟩), .int .u32 (n : Int)] w fun e w' => e = .returned (.tuple #[sv (l.getD n ⟨#[]⟩), .bool (decide (n < l.length))]) ∧ w = w' := by
 obtain ⟨A, c, hb, ho, hM, hX, hg, hXM⟩ := id h
 have cg := hb.cell 0
 rw [show [Value.slice A l.length c, .map M][0]? = some (Value.slice A l.length c) from rfl] at cg
 have hr : Rd w w.heap.size 1 A l.length (l.map sv) := Rd.ofOwn ho
 have HR := Lib.hid hr
 have hml : l.length ≤ maxLen := by
  rcases ho.2 with ⟨_, h0⟩ | ⟨_, _, _, _, _, _, h1, h2, _⟩
  ·
   rw [h0]; exact Nat.zero_le _
  ·
   exact Nat.le_trans h1 h2
 simp only [maxLen] at hml
 have hw1 : IntKind.u64.wrap (l.length : Int) = (l.length : Int) := by rw [IntKind.wrap_u64]; omega
 have hw2 : IntKind.u64.wrap (n : Int) = (n : Int) := by rw [IntKind.wrap_u64]; omega
 clear hb ho hM hX hg hXM h hr
 by_cases hlt : n < l.length
 ·
  have hci : (n : Int) < (l.length : Int) := by omega
  have hd : decide ((l.length : Int) ≤ (n : Int)) = false := by simp; omega
  obtain ⟨b, o, u, hA, hbb, hu, hc⟩ := HR.out.at1 hlt
  subst hA
  obtain ⟨x, hx⟩ : ∃ x, l[n]? = some x := ⟨_, List.getElem?_eq_getElem hlt⟩
  rw [List.getElem?_map, hx] at hu
  simp only [Option.map_some, Option.some.injEq] at hu
  subst hu
  have hxd : l.getD n ⟨#[]⟩ = x := by rw [List.getD_eq_getElem?_getD, hx]; rfl
  have HXD := Lib.hid hxd
  have HD := Lib.hid (decide_eq_true hlt)
  clear hx hxd
  go_enter Tryz.func128, Tryz.ntmps128
  repeat go_step
  go_ret2
  exact ⟨by rw [HXD.out, HD.out]; rfl, rfl⟩
 ·
  have hd : decide ((l.length : Int) ≤ (n : Int)) = true := by simp; omega
  have hxd : l.getD n ⟨#[]⟩ = ⟨#[]⟩ := by rw [List.getD_eq_getElem?_getD, List.getElem?_eq_none (by omega)]; rfl
  have HXD := Lib.hid hxd
  have HD := Lib.hid (decide_eq_false hlt)
  clear hxd
  go_enter Tryz.func128, Tryz.ntmps128
  repeat go_step
  go_ret2
  exact ⟨by rw [HXD.out, HD.out]; rfl, rfl⟩

set_option maxRecDepth 100000 in
set_option maxHeartbeats 1000000 in
theorem len_any (g : Nat) (X M : Option Nat) (l : List ByteArray) (w : World) (h : ST w g X M l) :
  Calls Tryz.prog 19 #[.pointer (some ⟨g, 0, none⟩)] w fun e w' => e = .returned (.int .i64 (l.length : Int)) ∧ w = w' := by
 obtain ⟨A, c, hb, ho, hM, hX, hg, hXM⟩ := id h
 have cg := hb.cell 0
 rw [show [Value.slice A l.length c, .map M][0]? = some (Value.slice A l.length c) from rfl] at cg
 clear hb ho hM hX hg hXM h
 go_enter Tryz.func19, Tryz.ntmps19
 go_wp2
 go_ret
 exact ⟨rfl, rfl⟩

set_option maxRecDepth 100000 in
set_option maxHeartbeats 1000000 in
theorem new_tab (w : World) :
  Calls Tryz.prog 23 #[] w fun e w' => ∃ g, e = .returned (.pointer (some ⟨g, 0, none⟩)) ∧ w.heap.size ≤ g ∧ ST w' g none none [] ∧ Below w.heap.size w w' := by
 go_enter Tryz.func23, Tryz.ntmps23
 go_wp2
 go_ret
 refine ⟨w.heap.size, rfl, Nat.le_refl _, ?_, (Below.refl _ _).alloc (Nat.le_refl _) _⟩
 refine ⟨none, 0, ?_, World.ownsRow_nil _ _ _ _, .inl ⟨rfl, rfl⟩, rfl, by simp, fun m hm => by cases hm⟩
 exact Bk.new w 88 [.slice none 0 0, .map none]
end Go.Proofs.YtoigpbajefkpoaaGreatDoor

