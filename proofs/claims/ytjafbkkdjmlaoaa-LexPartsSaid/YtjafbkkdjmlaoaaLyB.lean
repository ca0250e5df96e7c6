/- Layer 7 (lex): strings.Builder at this program: what is written into it, and what is told of it. -/
import Derived.Test.YtjafbkkdjmlaoaaLxE
import Derived.Lib.Builder
import Derived.Lib.OthersKept
import Derived.Lib.AppendStr
import Derived.Laws.Externs
import Derived.Shelf.Strings.Builder1
set_option linter.unusedVariables false
set_option linter.unusedSimpArgs false
namespace Go.Proofs.Ytjafbkkdjmlaoaa
open Go Go.RowKit

/-- Block b is a builder that holds the bytes l. -/
abbrev Bdr (B b : Nat) (l : List UInt8) (w : World) : Prop := Lib.IsBuilder 53 5 B b (Lib.byteCells l) w
abbrev KeptB (b : Nat) (w w' : World) : Prop := Lib.OthersKept 5 (some b) w w'
theorem bInfo : (Try.prog.info? 53).map (·.size) = some 2 := by kernel_rfl
theorem bLies : liesAt Try.prog Try.prog.depth 53 (2 / Try.prog.cellsOf 53) 0 53 1 = true := by kernel_rfl
theorem byteInfoB : (Try.prog.info? 5).map (fun i => (i.zero, i.size, i.bytes)) = some (some (.int .u8 0), 1, 1) := by kernel_rfl
theorem run_noEsc (x : Value) (w : World) : (callFunc 35 #[x]).run Try.prog w = .ok (.value x) w := by
  rw [run_callFunc_extern Try.func35 (by kernel_rfl) (by kernel_rfl) (by kernel_rfl) (e := Extern.AbiNoEscape.same) (by kernel_rfl), Lib.run_noEscape]
  rfl

set_option maxRecDepth 100000 in
set_option maxHeartbeats 2000000 in
theorem bCheck_any (B b : Nat) (bs : List Value) (w : World) (h : Lib.IsBuilder 53 5 B b bs w) :
    Calls Try.prog 31 #[.pointer (some ⟨b, 0, none⟩)] w fun e w' => e = .returned (.tuple #[]) ∧ Lib.BuilderAt 53 5 B b (.pointer (some ⟨b, 0, none⟩)) bs w' ∧ Below B w w' ∧ KeptB b w w' := by
  obtain ⟨j, hj, hjs⟩ := Option.map_eq_some_iff.1 bInfo
  rcases h with h | h
  · have c0 := h.cell0
    have f0 := h.frozen0
    have e1 := Lib.run_to_unsafe (P := Try.prog) (src := 51) (dst := 66) w ⟨b, 0, none⟩ Try.underlying51 Try.underlying66 hj (by rw [hjs]; decide) h.shape (Nat.zero_lt_succ 1)
    have e2 := Lib.run_from_unsafe (P := Try.prog) (src := 66) (dst := 51) w ⟨b, 0, none⟩ Try.underlying66 Try.underlying51 hj h.shape bLies
    have e3 := run_noEsc (.pointer (some ⟨b, 0, none⟩)) w
    have HH := Lib.hid (h.used (.pointer (some ⟨b, 0, none⟩)))
    have HB := Lib.hid ((Below.refl B w).setCell (p := ⟨b, 0, none⟩) h.1 (.pointer (some ⟨b, 0, none⟩)))
    have HK := Lib.hid ((Lib.OthersKept.refl 5 (some b) w).setCell ⟨b, 0, none⟩ rfl (.pointer (some ⟨b, 0, none⟩)))
    clear h
    go_enter Try.func31, Try.ntmps31
    repeat (first | go_skip | go_guarded | go_step)
    go_end0
    exact ⟨rfl, HH.out, HB.out, HK.out⟩
  · have c0 := h.cell0
    have e1 := Lib.run_neq_ptr_same (P := Try.prog) (tp := 51) w ⟨b, 0, none⟩ Try.underlying51 hj
    have HH := Lib.hid h
    clear h
    go_enter Try.func31, Try.ntmps31
    repeat (first | go_skip | go_guarded | go_step)
    go_end0
    exact ⟨rfl, HH.out, Below.refl _ _, Lib.OthersKept.refl _ _ _⟩

/-- What an append onto the buffer leaves, once the buffer is laid in its place. -/
theorem bPut {B b : Nat} {v v' : Value} {bs bs' : List Value} {w0 w1 w2 : World} (hB : B ≤ b) (hbk : w1.heap[b]? = some (.cells #[.pointer (some ⟨b, 0, none⟩), v] 53 (0, 0)))
    (hown : w1.ownsRow B 5 1 v bs.length bs) (hb : Below B w0 w1) (hk : KeptB b w0 w1) (hne : v.ownBlock ≠ some b) (hBw : B ≤ w0.heap.size)
    (hg : w1.grownBy w2 v.ownBlock) (hown' : w2.ownsRow B 5 1 v' bs'.length bs') :
    w2.heap[b]? = some (.cells #[.pointer (some ⟨b, 0, none⟩), v] 53 (0, 0)) ∧ Lib.BuilderAt 53 5 B b (.pointer (some ⟨b, 0, none⟩)) bs' (w2.setCell ⟨b, 1, none⟩ v') ∧ Below B w0 (w2.setCell ⟨b, 1, none⟩ v') ∧ KeptB b w0 (w2.setCell ⟨b, 1, none⟩ v') := by
  have hlt : b < w1.heap.size := (Array.getElem?_eq_some_iff.1 hbk).1
  have hb2 : w2.heap[b]? = some (.cells #[.pointer (some ⟨b, 0, none⟩), v] 53 (0, 0)) := by
    rw [hg.block b hlt (fun e => hne e.symm)]
    exact hbk
  refine ⟨hb2, Lib.BuilderAt.put hB hb2 hown' (by decide), (hb.grown hg (by have := hb.size; omega) (fun k hk => (hown.lt k hk).1)).setCell (p := ⟨b, 1, none⟩) hB _, ?_⟩
  refine (Lib.OthersKept.grown hk hg (fun g hgg => ?_)).setCell ⟨b, 1, none⟩ rfl _
  rcases hown.2 with ⟨rfl, _⟩ | ⟨g', cap, cur, rfl, _, hcc, _⟩
  · simp [Value.ownBlock] at hgg
  · simp only [Value.ownBlock, Option.some.injEq] at hgg
    subst hgg
    exact ⟨_, _, hcc⟩

set_option maxRecDepth 100000 in
set_option maxHeartbeats 2000000 in
theorem bString_any (B b : Nat) (bs : List Value) (s : ByteArray) (w : World) (h : Lib.IsBuilder 53 5 B b bs w) (hlen : bs.length + s.size ≤ 140737488355328) (hBw : B ≤ w.heap.size) :
    Calls Try.prog 22 #[.pointer (some ⟨b, 0, none⟩), sv s] w fun e w' => e = .returned (.tuple #[.int .i64 s.size, .nilIface]) ∧ Lib.IsBuilder 53 5 B b (bs ++ Lib.strCells s) w' ∧ Below B w w' ∧ KeptB b w w' := by
  obtain ⟨i0, hi, hz0, hz1, hz2⟩ := info_parts byteInfoB
  have HLEN := Lib.hid hlen
  clear hlen
  go_enter Try.func22, Try.ntmps22
  repeat (first | go_skip | go_guarded | go_step)
  refine (bCheck_any B b bs w h).mono ?_
  rintro e w1 ⟨rfl, ⟨hB, v, hbk, hown, hne⟩, hb1, hk1⟩
  have c0 : w1.cell? ⟨b, 0, none⟩ = some (.pointer (some ⟨b, 0, none⟩)) := by rw [Lib.cell_of_heap hbk]; rfl
  have c1 : w1.cell? ⟨b, 1, none⟩ = some v := by rw [Lib.cell_of_heap hbk]; rfl
  have HO := Lib.hid hown
  have HP := Lib.hid (fun (bs' : List Value) (v' : Value) (w2 : World) => bPut (bs' := bs') (v' := v') (w2 := w2) hB hbk hown hb1 hk1 hne hBw)
  have hb1s := hb1.size
  clear hbk hown hb1 hk1 hne
  dsimp only
  repeat (first
    | (at_builtin; refine Lib.wpList_append_own_string _ rfl _ _ 34 9 rfl B 5 i0 Try.underlying34 Try.underlying9 hi hz0 hz1 hz2 v _ bs rfl HO.out s rfl (by have := HLEN.out; simp only [maxLen]; omega) HLEN.out (by omega) ?_
       intro v' w2 hown' hgrow _
       obtain ⟨hb2, q1, q2, q3⟩ := HP.out (bs ++ Lib.strCells s) _ _ hgrow (by rw [List.length_append, Lib.strCells_length]; exact hown')
       have Q1 := Lib.hid q1
       have Q2 := Lib.hid q2
       have Q3 := Lib.hid q3
       have d0 : w2.cell? ⟨b, 0, none⟩ = some (.pointer (some ⟨b, 0, none⟩)) := by rw [Lib.cell_of_heap hb2]; rfl
       have d1 : w2.cell? ⟨b, 1, none⟩ = some v := by rw [Lib.cell_of_heap hb2]; rfl
       have f1 : w2.frozen? ⟨b, 1, none⟩ = false := Lib.frozen_of_heap hb2 1
       obtain ⟨ao, cap, rfl, _⟩ := ownForm hown'
       clear q1 q2 q3 hb2 hown' hgrow HP)
    | go_skip | go_guarded | go_step)
  go_ret2
  exact ⟨rfl, Or.inr Q1.out, Q2.out, Q3.out⟩

theorem run_lit8 (x : Nat) (w : World) : (Instr.buildSlice 34 1 #[(0, .int .u8 (x : Int))]).run Try.prog w = .ok (.slice (some ⟨w.heap.size, 0, none⟩) 1 1) (w.alloc (.cells #[.int .u8 (x : Int)] 5)) := by
  obtain ⟨i0, hi, hz0, hz1, hz2⟩ := info_parts byteInfoB
  simp [Instr.buildSlice, run_underlying Try.underlying34, sizeOf, typeInfo, zeroValue, hi, hz0, hz1, newRow, Instr.fill]
  kernel_rfl
set_option maxRecDepth 100000 in
set_option maxHeartbeats 2000000 in
theorem bByte_any (B b x : Nat) (bs : List Value) (w : World) (h : Lib.IsBuilder 53 5 B b bs w) (hlen : bs.length + 1 ≤ 140737488355328) (hBw : B ≤ w.heap.size) :
    Calls Try.prog 21 #[.pointer (some ⟨b, 0, none⟩), .int .u8 (x : Int)] w fun e w' => e = .returned .nilIface ∧ Lib.IsBuilder 53 5 B b (bs ++ [.int .u8 (x : Int)]) w' ∧ Below B w w' ∧ KeptB b w w' := by
  obtain ⟨i0, hi, hz0, hz1, hz2⟩ := info_parts byteInfoB
  have HLEN := Lib.hid hlen
  clear hlen
  go_enter Try.func21, Try.ntmps21
  repeat (first | go_skip | go_guarded | go_step)
  refine (bCheck_any B b bs w h).mono ?_
  rintro e w1 ⟨rfl, ⟨hB, v, hbk, hown, hne⟩, hb1, hk1⟩
  have c0 : w1.cell? ⟨b, 0, none⟩ = some (.pointer (some ⟨b, 0, none⟩)) := by rw [Lib.cell_of_heap hbk]; rfl
  have c1 : w1.cell? ⟨b, 1, none⟩ = some v := by rw [Lib.cell_of_heap hbk]; rfl
  have hb1s := hb1.size
  have hlt1 := (Array.getElem?_eq_some_iff.1 hbk).1
  have HO := Lib.hid (World.ownsRow.alloc hown (.cells #[.int .u8 (x : Int)] 5))
  have HP := Lib.hid (fun (bs' : List Value) (v' : Value) (w2 : World) => bPut (bs' := bs') (v' := v') (w2 := w2) hB ((Lib.alloc_old w1 (.cells #[.int .u8 (x : Int)] 5) b hlt1).trans hbk) (World.ownsRow.alloc hown _) (hb1.alloc (by omega) _) (hk1.alloc _) hne hBw)
  have HC := Lib.hid (show ∀ (j : Nat) (u : Value), [Value.int .u8 (x : Int)][j]? = some u → (w1.alloc (.cells #[.int .u8 (x : Int)] 5)).cell? (Addr.add ⟨w1.heap.size, 0, none⟩ j) = some u from fun j u hu => by
    rw [addPlain, Nat.zero_add, Lib.cell_of_heap (heap_alloc_new w1 _)]
    simpa using hu)
  have hlit := run_lit8 x w1
  have hsz : (w1.alloc (.cells #[.int .u8 (x : Int)] 5)).heap.size = w1.heap.size + 1 := by simp
  clear hbk hown hb1 hk1 hne
  dsimp only
  repeat (first
    | (at_builtin; refine Go.wpList_append_own _ rfl _ _ 34 rfl B 5 i0 _ 1 1 Try.underlying34 hi hz0 hz1 hz2 rfl (by decide) v _ bs rfl HO.out ⟨w1.heap.size, 0, none⟩ 1 1 [.int .u8 (x : Int)] rfl rfl HC.out (by simp [Value.oneCell']) (by have := HLEN.out; simp only [maxLen]; omega) (by have := HLEN.out; omega) (by omega) ?_
       intro v' w2 hown' hgrow _
       obtain ⟨hb2, q1, q2, q3⟩ := HP.out (bs ++ [.int .u8 (x : Int)]) _ _ hgrow (by rw [List.length_append]; exact hown')
       have Q1 := Lib.hid q1
       have Q2 := Lib.hid q2
       have Q3 := Lib.hid q3
       have d0 : w2.cell? ⟨b, 0, none⟩ = some (.pointer (some ⟨b, 0, none⟩)) := by rw [Lib.cell_of_heap hb2]; rfl
       have d1 : w2.cell? ⟨b, 1, none⟩ = some v := by rw [Lib.cell_of_heap hb2]; rfl
       have f1 : w2.frozen? ⟨b, 1, none⟩ = false := Lib.frozen_of_heap hb2 1
       obtain ⟨ao, cap, rfl, _⟩ := ownForm hown'
       clear q1 q2 q3 hb2 hown' hgrow HP hlit hsz)
    | go_skip | go_guarded | go_step)
  go_ret
  exact ⟨rfl, Or.inr Q1.out, Q2.out, Q3.out⟩

/-! ### what the library's shelf says of String, at this program -/
def bRen : Go.Shelf.Ren := ⟨fun | 169 => 23 | n => n, fun | 70 => 51 | 9 => 9 | 0 => 0 | 72 => 53 | 37 => 34 | 127 => 63 | 3 => 3 | 5 => 5 | n => n, fun | n => n⟩
theorem bLays : Go.Proofs.Lays.n169 Try.prog bRen := {
  mixed := by kernel_rfl
  f169 := Try.func23.trans (congrArg some (by kernel_rfl))
  t0 := Try.underlying0
  a0 := Try.isAgg0
  z0 := Try.sizeOf0
  v0 := Try.zeroValue0
  t3 := Try.underlying3
  a3 := Try.isAgg3
  z3 := Try.sizeOf3
  v3 := Try.zeroValue3
  t9 := Try.underlying9
  a9 := Try.isAgg9
  z9 := Try.sizeOf9
  v9 := Try.zeroValue9
  t37 := Try.underlying34
  a37 := Try.isAgg34
  z37 := Try.sizeOf34
  v37 := Try.zeroValue34
  t70 := Try.underlying51
  a70 := Try.isAgg51
  z70 := Try.sizeOf51
  v70 := Try.zeroValue51
  t72 := Try.underlying53
  a72 := Try.isAgg53
  z72 := Try.sizeOf53
  v72 := Try.zeroValue53
  t127 := Try.underlying63
  a127 := Try.isAgg63
  z127 := Try.sizeOf63
  v127 := Try.zeroValue63 }
theorem bExtra : Go.Proofs.Builder.Extra Try.prog bRen := {
  sizeBuilder := by kernel_rfl
  liesBuilder := by kernel_rfl
  t5 := Try.underlying5
  a5 := Try.isAgg5
  z5 := Try.sizeOf5
  v5 := Try.zeroValue5
  infoByte := by kernel_rfl
  cellsByte := by kernel_rfl
  sizeByte := by kernel_rfl
  neB5 := by decide }
theorem bTold_any (B b : Nat) (l : List UInt8) (w : World) (h : Bdr B b l w) (hBw : B ≤ w.heap.size) :
    Calls Try.prog 23 #[.pointer (some ⟨b, 0, none⟩)] w fun e w' => e = .returned (strV l) ∧ Below B w w' :=
  Go.Proofs.Any.Builder_String_any bLays bExtra B b l w h hBw
end Go.Proofs.Ytjafbkkdjmlaoaa
