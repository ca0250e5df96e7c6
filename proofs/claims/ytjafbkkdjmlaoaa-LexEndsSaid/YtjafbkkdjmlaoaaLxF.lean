/- Layer 7 (lex): LexEnds: how long a word of letters may be, and a text. From LexOk. -/
import Derived.Test.YtjafbkkdjmlaoaaLxL
import Derived.ChangeMaps
set_option linter.unusedVariables false
set_option linter.unusedSimpArgs false
namespace Go.Proofs.Ytjafbkkdjmlaoaa.lexEnds
open Go Go.RowKit

theorem byteInfo : (Try.prog.info? 5).map (fun i => (i.zero, i.size, i.bytes)) = some (some (.int .u8 0), 1, 1) := by kernel_rfl
def fB (text : Bool) (j : Nat) : UInt8 := if text = true ∧ j ≠ 5 then 32 else 120
def finB (text : Bool) (n : Nat) : List UInt8 := (List.range n).map (fB text)
def cellsE (text : Bool) (n i : Nat) : List Value := (List.range n).map fun j => bv (if j < i then fB text j else 0)
theorem finB_len (text : Bool) (n : Nat) : (finB text n).length = n := by simp [finB]
theorem cellsE_at {text : Bool} {n i : Nat} (h : i < n) : (cellsE text n i)[i]? = some (.int .u8 0) := by
  unfold cellsE
  rw [List.getElem?_map, List.getElem?_range h]
  simp
  rfl
theorem cellsE_set {text : Bool} {n i : Nat} (h : i < n) : (cellsE text n i).set i (bv (fB text i)) = cellsE text n (i + 1) := by
  apply List.ext_getElem?
  intro j
  unfold cellsE
  rw [List.getElem?_set, List.getElem?_map, List.getElem?_map]
  by_cases hj : i = j
  · subst hj
    rw [if_pos rfl, if_pos (by simpa using h), List.getElem?_range h]
    simp
  · rw [if_neg hj]
    rcases Nat.lt_or_ge j n with hjn | hjn
    · rw [List.getElem?_range hjn]
      have : (j < i) = (j < i + 1) := by simp; omega
      simp [this]
    · rw [List.getElem?_eq_none (by simpa using hjn)]
      rfl
theorem cellsE_0 (text : Bool) (n : Nat) : List.replicate n (Value.int .u8 0) = cellsE text n 0 := by
  apply List.ext_getElem?
  intro j
  unfold cellsE
  rw [List.getElem?_map, List.getElem?_replicate]
  rcases Nat.lt_or_ge j n with hjn | hjn
  · rw [List.getElem?_range hjn, if_pos hjn]; rfl
  · rw [List.getElem?_eq_none (l := List.range n) (by simpa using hjn), if_neg (by omega)]; rfl
theorem cellsE_end (text : Bool) (n : Nat) : cellsE text n n = (finB text n).map bv := by
  unfold cellsE finB
  rw [List.map_map]
  apply List.map_congr_left
  intro j hj
  rw [if_pos (by simpa using hj)]
  rfl
theorem finB_f (n : Nat) : finB false n = List.replicate n 120 := by
  unfold finB
  rw [show (fB false) = fun _ => 120 from by funext j; simp [fB], List.map_const', List.length_range]
theorem finB_t (m : Nat) : finB true (m + 6) = List.replicate 5 32 ++ 120 :: List.replicate m 32 := by
  apply List.ext_getElem?
  intro j
  unfold finB
  rw [List.getElem?_map]
  rcases Nat.lt_or_ge j 5 with h | h
  · rw [List.getElem?_range (by omega), List.getElem?_append_left (by simpa using h), List.getElem?_replicate, if_pos h]
    simp [fB]; omega
  · rw [List.getElem?_append_right (by simpa using h), List.length_replicate]
    rcases Nat.lt_or_ge 5 j with h2 | h2
    · obtain ⟨i, rfl⟩ : ∃ i, j = i + 6 := ⟨j - 6, by omega⟩
      rw [show i + 6 - 5 = i + 1 by omega, List.getElem?_cons_succ, List.getElem?_replicate]
      rcases Nat.lt_or_ge i m with h3 | h3
      · rw [List.getElem?_range (by omega), if_pos h3]
        simp [fB]
      · rw [List.getElem?_eq_none (by simpa using h3), if_neg (by omega)]; rfl
    · obtain rfl : j = 5 := by omega
      rw [List.getElem?_range (by omega)]
      rfl
theorem letN_rep (n : Nat) : letN (List.replicate n 120) = n := by
  unfold letN
  induction n with
  | zero => rfl
  | succ n ih => rw [List.replicate_succ, List.takeWhile_cons, if_pos (by decide), List.length_cons, ih]
theorem endsF {n : Nat} (h0 : 1 ≤ n) (h : n ≤ 65536) : if n ≤ 32 then ∃ x, wordsL (finB false n) = ([x], 0, 0) else wordsL (finB false n) = ([], 0, 5) := by
  obtain ⟨m, rfl⟩ : ∃ m, n = m + 1 := ⟨n - 1, by omega⟩
  rw [finB_f]
  have hl := letN_rep (m + 1)
  have hb : blN false (List.replicate (m + 1) 120) = 0 := by rw [List.replicate_succ, blN, if_neg (by decide), if_neg (by decide)]
  have hm : markN (List.replicate (m + 1) 120) = (0, 0) := by rw [List.replicate_succ]; exact markN_ok (by decide) _
  have hlen : (List.replicate (m + 1) (120 : UInt8)).length ≤ 65536 := by simpa using h
  split
  · rename_i h32
    have hw : wordN (List.replicate (m + 1) 120) = (kindL ((List.replicate (m + 1) 120).take (m + 1)), m + 1) := by
      rw [wordN_let hm, hl, if_neg (by omega)]
    refine ⟨(kindL ((List.replicate (m + 1) 120).take (m + 1)), (List.replicate (m + 1) 120).take (m + 1), 0 + blN false (List.replicate (m + 1) 120)), wordsL_ok hlen ?_⟩
    rw [lexG_word (l1 := List.replicate (m + 1) 120) (by simp [hb]) hw (by omega), List.drop_of_length_le (by simp), lexG_end (by rfl)]
  · rename_i h32
    have hw : wordN (List.replicate (m + 1) 120) = (0, 0) := by rw [wordN_let hm, hl, if_pos (by omega)]
    refine wordsL_bad (ws := []) hlen ?_
    rw [lexG_bad (l1 := List.replicate (m + 1) 120) (by simp [hb]) (by simp) (by rw [hw]), hb]
theorem endsT {n : Nat} (h0 : 6 ≤ n) : if n ≤ 65536 then ∃ x, wordsL (finB true n) = ([x], 0, 0) else wordsL (finB true n) = ([], 0, 6) := by
  split
  · rename_i h
    obtain ⟨m, rfl⟩ : ∃ m, n = m + 6 := ⟨n - 6, by omega⟩
    have hlen : (finB true (m + 6)).length ≤ 65536 := by rw [finB_len]; exact h
    refine ⟨(1, (120 :: List.replicate m 32).take 1, 0 + blN false (List.replicate 5 32 ++ 120 :: List.replicate m 32)), wordsL_ok hlen ?_⟩
    rw [finB_t]
    have hb : blN false (List.replicate 5 32 ++ 120 :: List.replicate m 32) = 5 := by
      rw [blN_repl, blN, if_neg (by decide), if_neg (by decide)]
    have hw : wordN (120 :: List.replicate m 32) = (1, 1) := by
      cases m with
      | zero => decide
      | succ m =>
        have h := wordN_stop (d := 32) (by decide) (by decide) (List.replicate m 32) (l := [120]) (by simp)
        rw [List.replicate_succ]
        exact h.trans (by decide)
    have hr : (List.replicate m (32 : UInt8)).drop (blN false (List.replicate m 32)) = [] := by
      have h := blN_repl m []
      rw [List.append_nil] at h
      rw [h]
      exact List.drop_of_length_le (by simp [blN])
    rw [lexG_word (l1 := 120 :: List.replicate m 32) (by rw [hb]; rfl) hw (by omega), List.drop_succ_cons, List.drop_zero, lexG_end hr]
  · rename_i h
    unfold wordsL
    rw [if_pos (by rw [finB_len]; omega)]

set_option maxRecDepth 100000 in
set_option maxHeartbeats 1000000 in
theorem walkF (ok : LexOk) (over : Int) (w : World) (h0 : -128 ≤ over) (h1 : over ≤ 127) : Calls Try.prog 6 #[.int .i8 over, .bool false] w fun e w' => e = .returned (.bool true) ∧ Below w.heap.size w w' := by
  by_cases hsm : over < -31
  · have hd : (32 : Int) + over < 1 := by omega
    have HB := Lib.hid (Below.refl w.heap.size w)
    go_enter Try.func6, Try.ntmps6
    repeat (first | go_skip | go_guarded | go_step)
    refine (lWorks_any ok w).mono ?_
    rintro e w9 ⟨rfl, hb9⟩
    have HB9 := Lib.hid (HB.out.trans (hb9.mono HB.out.size))
    clear hb9
    dsimp only
    repeat (first | go_skip | go_guarded | go_step)
    go_ret
    exact ⟨rfl, HB9.out⟩
  · obtain ⟨N, hN⟩ : ∃ N : Nat, 32 + over = (N : Int) := ⟨(32 + over).toNat, by omega⟩
    have hN1 : 1 ≤ N ∧ N ≤ 65700 := by omega
    go_enter Try.func6, Try.ntmps6
    go_upto_region 4 with (fail)
    have hNI : ¬ ((N : Int) < 1) := by omega
    obtain ⟨i0, hi, hz0, hz1, hz2⟩ := info_parts byteInfo
    have hmk : ∀ W : World, (Instr.makeSlice 34 (.int .i64 (N : Int)) (.int .i64 (N : Int))).run Try.prog W = .ok (.slice (some ⟨W.heap.size, 0, none⟩) N N) (W.alloc (.cells (cellsE false N 0).toArray 5)) := fun W => by
      have h := run_make (P := Try.prog) W 34 5 i0 (.int .u8 0) Try.underlying34 hi hz0 .i64 .i64 (N : Int) (N : Int) (by omega) (by omega) (by rw [hz2]; omega) (by omega)
      rw [hz1, Nat.mul_one, Int.toNat_natCast, show (Value.int .u8 0).cells = #[.int .u8 0] from rfl, show madeCells #[Value.int .u8 0] N = (cellsE false N 0).toArray by rw [← cellsE_0, ← toList_madeCells_one]] at h
      simpa using h
    go_upto_region 7 with (fail)
    obtain ⟨U, hU, hk, hbu⟩ : ∃ U, U = w.alloc (.cells (cellsE false N 0).toArray 5) ∧ Bk U w.heap.size 5 (cellsE false N 0) ∧ Below w.heap.size w U := ⟨_, rfl, Bk.new w _ _, (Below.refl _ _).alloc (Nat.le_refl _) _⟩
    rw [← hU]
    clear hU hmk hi hz0 hz1 hz2
    repeat (first | go_skip | go_guarded | go_step)
    go_loopw [7] (fun p wr => ∃ i : Nat, i ≤ N ∧ p = .int .i64 (i : Int) ∧ Bk wr w.heap.size 5 (cellsE false N i) ∧ Below w.heap.size w wr) (fun p _ => N - (intOf p).toNat)
    case atStart => exact ⟨0, by omega, rfl, hk, hbu⟩
    case round =>
      clear hk hbu
      rename_i wr
      obtain ⟨i, hi, rfl, hB, hb⟩ := hrel
      by_cases hlt : i < N
      · have hci : (i : Int) < (N : Int) := by omega
        have cu := hB.cell i
        rw [cellsE_at hlt] at cu
        have fu := hB.frozen i
        have hs := cellsE_set (text := false) hlt
        have HS := Lib.hid hs
        have HB := Lib.hid hB
        have HW := Lib.hid hb
        clear hB hb hs
        repeat (first | go_skip | go_guarded | go_step)
        go_roundw
        case rel =>
          have hf : fB false i = 120 := by simp [fB]
          have h2 := ((HB.out).set_ i (.int .u8 32)).set_ i (.int .u8 120)
          have h3 := HS.out
          rw [hf] at h3
          rw [List.set_set] at h2
          refine ⟨i + 1, by omega, by go_num, ?_, ((HW.out).setCell (p := ⟨w.heap.size, i, none⟩) (Nat.le_refl _) _).setCell (p := ⟨w.heap.size, i, none⟩) (Nat.le_refl _) _⟩
          rw [← h3]
          exact h2
        case measure => simp [intOf] <;> omega
      · obtain rfl : i = N := by omega
        have hE := cellsE_end false i
        have hW := endsF (n := i) (by omega) (by omega) 
        rw [hE] at hB
        clear hE
        have hLl := finB_len false i
        generalize finB false i = L at hB hW hLl
        have hrd : Rd wr wr.heap.size 1 (some ⟨w.heap.size, 0, none⟩) i (L.map bv) := by
          have h := hB.rd i (by simp [hLl])
          rwa [List.take_of_length_le (by simp [hLl])] at h
        have k1 := run_conv_str (P := Try.prog) wr 34 9 5 Try.underlying34 Try.underlying5 Try.underlying9 _ _ i i L hrd
        have HB := Lib.hid hb
        clear hB hb hrd
        repeat (first | go_skip | go_guarded | go_step)
        clear k1
        refine (ok.words _ wr ?hsz).mono ?_
        case hsz => show L.toArray.size ≤ 200000; rw [List.size_toArray, hLl]; omega
        rintro e w1 ⟨A1, m1, c1, ws1, y1, z1, rfl, ho1, hb1, ha1⟩
        replace ha1 : (ws1, y1, z1) = wordsL L := ha1
        obtain rfl : m1 = ws1.length := (rdV_len (OwV.rd ho1)).symm
        have HB1 := Lib.hid (HB.out.trans (hb1.mono HB.out.size))
        clear ho1 hb1
        dsimp only
        by_cases hpos : 0 < over
        · rw [if_neg (by omega)] at hW
          rw [hW] at ha1
          simp only [Prod.mk.injEq] at ha1
          obtain ⟨rfl, rfl, rfl⟩ := ha1
          repeat (first | go_skip | go_guarded | go_step)
          refine (lWorks_any ok w1).mono ?_
          rintro e w9 ⟨rfl, hb9⟩
          have HB9 := Lib.hid (HB1.out.trans (hb9.mono HB1.out.size))
          clear hb9
          dsimp only
          repeat (first | go_skip | go_guarded | go_step)
          go_ret
          exact ⟨rfl, HB9.out⟩
        · rw [if_pos (by omega)] at hW
          obtain ⟨x, hW⟩ := hW
          rw [hW] at ha1
          simp only [Prod.mk.injEq] at ha1
          obtain ⟨rfl, rfl, rfl⟩ := ha1
          repeat (first | go_skip | go_guarded | go_step)
          refine (lWorks_any ok w1).mono ?_
          rintro e w9 ⟨rfl, hb9⟩
          have HB9 := Lib.hid (HB1.out.trans (hb9.mono HB1.out.size))
          clear hb9
          dsimp only
          repeat (first | go_skip | go_guarded | go_step)
          go_ret
          exact ⟨rfl, HB9.out⟩

set_option maxRecDepth 100000 in
set_option maxHeartbeats 1000000 in
theorem walkT (ok : LexOk) (over : Int) (w : World) (h0 : -128 ≤ over) (h1 : over ≤ 127) : Calls Try.prog 6 #[.int .i8 over, .bool true] w fun e w' => e = .returned (.bool true) ∧ Below w.heap.size w w' := by
  obtain ⟨N, hN⟩ : ∃ N : Nat, 65536 + over = (N : Int) := ⟨(65536 + over).toNat, by omega⟩
  have hN1 : 1 ≤ N ∧ N ≤ 65700 ∧ 6 ≤ N := by omega
  go_enter Try.func6, Try.ntmps6
  go_upto_region 4 with (fail)
  have hNI : ¬ ((N : Int) < 1) := by omega
  obtain ⟨i0, hi, hz0, hz1, hz2⟩ := info_parts byteInfo
  have hmk : ∀ W : World, (Instr.makeSlice 34 (.int .i64 (N : Int)) (.int .i64 (N : Int))).run Try.prog W = .ok (.slice (some ⟨W.heap.size, 0, none⟩) N N) (W.alloc (.cells (cellsE true N 0).toArray 5)) := fun W => by
    have h := run_make (P := Try.prog) W 34 5 i0 (.int .u8 0) Try.underlying34 hi hz0 .i64 .i64 (N : Int) (N : Int) (by omega) (by omega) (by rw [hz2]; omega) (by omega)
    rw [hz1, Nat.mul_one, Int.toNat_natCast, show (Value.int .u8 0).cells = #[.int .u8 0] from rfl, show madeCells #[Value.int .u8 0] N = (cellsE true N 0).toArray by rw [← cellsE_0, ← toList_madeCells_one]] at h
    simpa using h
  go_upto_region 7 with (fail)
  obtain ⟨U, hU, hk, hbu⟩ : ∃ U, U = w.alloc (.cells (cellsE true N 0).toArray 5) ∧ Bk U w.heap.size 5 (cellsE true N 0) ∧ Below w.heap.size w U := ⟨_, rfl, Bk.new w _ _, (Below.refl _ _).alloc (Nat.le_refl _) _⟩
  rw [← hU]
  clear hU hmk hi hz0 hz1 hz2
  repeat (first | go_skip | go_guarded | go_step)
  go_loopw [7] (fun p wr => ∃ i : Nat, i ≤ N ∧ p = .int .i64 (i : Int) ∧ Bk wr w.heap.size 5 (cellsE true N i) ∧ Below w.heap.size w wr) (fun p _ => N - (intOf p).toNat)
  case atStart => exact ⟨0, by omega, rfl, hk, hbu⟩
  case round =>
    clear hk hbu
    rename_i wr
    obtain ⟨i, hi, rfl, hB, hb⟩ := hrel
    by_cases hlt : i < N
    · have hci : (i : Int) < (N : Int) := by omega
      have cu := hB.cell i
      rw [cellsE_at hlt] at cu
      have fu := hB.frozen i
      have hs := cellsE_set (text := true) hlt
      have HS := Lib.hid hs
      have HB := Lib.hid hB
      have HW := Lib.hid hb
      clear hB hb hs
      by_cases h5 : i = 5
      · subst h5
        repeat (first | go_skip | go_guarded | go_step)
        go_roundw
        case rel =>
          have hf : fB true 5 = 120 := by simp [fB]
          have h2 := ((HB.out).set_ 5 (.int .u8 32)).set_ 5 (.int .u8 120)
          have h3 := HS.out
          rw [hf] at h3
          rw [List.set_set] at h2
          refine ⟨6, by omega, by go_num, ?_, ((HW.out).setCell (p := ⟨w.heap.size, 5, none⟩) (Nat.le_refl _) _).setCell (p := ⟨w.heap.size, 5, none⟩) (Nat.le_refl _) _⟩
          rw [← h3]
          exact h2
        case measure => simp [intOf] <;> omega
      · have h5I : ¬ ((i : Int) = 5) := by omega
        repeat (first | go_skip | go_guarded | go_step)
        go_roundw
        case rel =>
          have hf : fB true i = 32 := by simp [fB, h5]
          have h2 := (HB.out).set_ i (.int .u8 32)
          have h3 := HS.out
          rw [hf] at h3
          skip
          refine ⟨i + 1, by omega, by go_num, ?_, (HW.out).setCell (p := ⟨w.heap.size, i, none⟩) (Nat.le_refl _) _⟩
          rw [← h3]
          exact h2
        case measure => simp [intOf] <;> omega
    · obtain rfl : i = N := by omega
      have hE := cellsE_end true i
      have hW := endsT (n := i) (by omega) 
      rw [hE] at hB
      clear hE
      have hLl := finB_len true i
      generalize finB true i = L at hB hW hLl
      have hrd : Rd wr wr.heap.size 1 (some ⟨w.heap.size, 0, none⟩) i (L.map bv) := by
        have h := hB.rd i (by simp [hLl])
        rwa [List.take_of_length_le (by simp [hLl])] at h
      have k1 := run_conv_str (P := Try.prog) wr 34 9 5 Try.underlying34 Try.underlying5 Try.underlying9 _ _ i i L hrd
      have HB := Lib.hid hb
      clear hB hb hrd
      repeat (first | go_skip | go_guarded | go_step)
      clear k1
      refine (ok.words _ wr ?hsz).mono ?_
      case hsz => show L.toArray.size ≤ 200000; rw [List.size_toArray, hLl]; omega
      rintro e w1 ⟨A1, m1, c1, ws1, y1, z1, rfl, ho1, hb1, ha1⟩
      replace ha1 : (ws1, y1, z1) = wordsL L := ha1
      obtain rfl : m1 = ws1.length := (rdV_len (OwV.rd ho1)).symm
      have HB1 := Lib.hid (HB.out.trans (hb1.mono HB.out.size))
      clear ho1 hb1
      dsimp only
      by_cases hpos : 0 < over
      · rw [if_neg (by omega)] at hW
        rw [hW] at ha1
        simp only [Prod.mk.injEq] at ha1
        obtain ⟨rfl, rfl, rfl⟩ := ha1
        repeat (first | go_skip | go_guarded | go_step)
        refine (lWorks_any ok w1).mono ?_
        rintro e w9 ⟨rfl, hb9⟩
        have HB9 := Lib.hid (HB1.out.trans (hb9.mono HB1.out.size))
        clear hb9
        dsimp only
        repeat (first | go_skip | go_guarded | go_step)
        go_ret
        exact ⟨rfl, HB9.out⟩
      · rw [if_pos (by omega)] at hW
        obtain ⟨x, hW⟩ := hW
        rw [hW] at ha1
        simp only [Prod.mk.injEq] at ha1
        obtain ⟨rfl, rfl, rfl⟩ := ha1
        repeat (first | go_skip | go_guarded | go_step)
        refine (lWorks_any ok w1).mono ?_
        rintro e w9 ⟨rfl, hb9⟩
        have HB9 := Lib.hid (HB1.out.trans (hb9.mono HB1.out.size))
        clear hb9
        dsimp only
        repeat (first | go_skip | go_guarded | go_step)
        go_ret
        exact ⟨rfl, HB9.out⟩

open Go.ChangeShapes Go.WideShapes Go.ChangeAt

set_option maxRecDepth 100000 in
theorem lifted (ok : LexOk) (os : Os) (started : os.Started) (H : Type) (enc : TypeId × Value → H) :
    ReturnsInHanded {} Try.checked os 6 .any (Rows.lexEndsSpec.pre6 enc Try.prog Try.f6 Rows.lexEndsRow.domain false) (Rows.lexEndsSpec.post enc Try.prog Try.f6 false true false false) := by
  refine returnsInHanded_of_change_sized (C := Try.checked) ownK started (by kernel_rfl) Try.func6
    (ChangeSpec.witness6 (enc := enc) (C := Try.checked) false ⟨#[], #[.int .i8 0, .bool false], []⟩ 8 (by kernel_rfl) (by kernel_rfl) (by kernel_rfl) (by kernel_rfl)) ?_
  intro W base args ds gs before hval0 hW hcnd hsz0 _
  have hsz : (DataW.weightsEach Try.prog (Try.f6.params.toList ++ Rows.lexEndsSpec.plain.varTypes Try.prog) (ds ++ gs)).all (· ≤ reachBytes) = true := hsz0
  have hval : ∀ (j : Nat) t v, Try.f6.params[j]? = some t → args[j]? = some v → Value.okWide Try.prog W .any base t v := hval0
  have hlt : ∀ x ∈ before, x.block < W.heap.size := fun x hx => by simpa using hW.lt x hx
  have hW' := hW
  obtain ⟨p, q, hA0, hV, rfl, hfz, hnd⟩ := hW
  have hA : DataW.TrodAll enc Try.prog W 0 (fun _ => true) true Try.f6.params.toList args.toList ds p := hA0
  rw [Try.params6] at hA hval hsz
  obtain ⟨v0, vs0, d0, ds0, p0, q0, hargs, rfl, rfl, h0, r0⟩ := trodAll_cons hA
  obtain ⟨v1, vs1, d1, ds1, p1, q1, rfl, rfl, rfl, h1, r1⟩ := trodAll_cons r0
  obtain ⟨rfl, rfl, rfl⟩ := trodAll_nil r1
  obtain rfl : args = #[v0, v1] := by cases args; simp_all
  obtain ⟨rfl, rfl⟩ := trodVars_none hV
  obtain ⟨full, rfl, rfl, rfl⟩ := Go.RowKit.open_bool Try.underlying4 (hval 1 4 v1 rfl rfl) h1
  obtain ⟨over, rfl, rfl, rfl, wover⟩ := open_int Try.underlying39 (hval 0 39 v0 rfl rfl) h0
  have bover := bounds_i8 wover
  have main : Calls Try.prog 6 #[.int .i8 over, .bool full] W fun e w' => e = .returned (.bool true) ∧ Below W.heap.size W w' := by
    cases full with
    | false => exact walkF ok over W (by omega) (by omega)
    | true => exact walkT ok over W (by omega) (by omega)
  refine main.mono fun e W' ⟨he, hg⟩ => ?_
  subst he
  exact ⟨_, rfl, post_law laidOut rfl (by kernel_rfl) hW' hg rfl Try.underlying4 rfl rfl rfl⟩

theorem proved_of (ok : LexOk) : Rows.LexEndsSaid :=
  OpenClaim.holds_of_wide 6 Try.f6 rfl rfl rfl rfl rfl rfl rfl ⟨rfl, rfl, rfl, rfl, rfl⟩ rfl rfl rfl rfl rfl (by kernel_rfl) Try.func6 (by kernel_rfl)
    (of_decide_eq_true (by kernel_rfl)) (by unfold Func.isWrapper; first | (rw [if_pos (by decide +kernel)]; kernel_rfl) | (rw [if_neg (by decide +kernel)]; exact ⟨rfl, rfl⟩))
    (fun os started H enc _ => lifted ok os started H enc)
#print axioms proved_of
end Go.Proofs.Ytjafbkkdjmlaoaa.lexEnds
