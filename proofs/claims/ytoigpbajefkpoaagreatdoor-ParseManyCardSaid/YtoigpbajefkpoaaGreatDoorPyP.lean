/- Texts, packed: PbW -/
import Derived.Test.YtoigpbajefkpoaaGreatDoorPyH
import Derived.Lib.Bytealg
import Derived.Maps.OwnSet
import Derived.Maps.OwnOps
import Derived.StringKeys
import Derived.Laws.Externs
set_option linter.unusedVariables false
set_option linter.unusedSimpArgs false
namespace Go.Proofs.YtoigpbajefkpoaaGreatDoor
open Go Go.RowKit Go.Maps

def lineN (l : List UInt8) : Nat := (l.takeWhile (fun c => decide (c ≠ 10))).length
/-- The kind of what a text begins with (10: blanks; 0: what may not be), and how many bytes it has. -/
def frontN (l : List UInt8) : Nat × Nat :=
  match l with
  | [] => (0, 0)
  | c :: r => if isBl c then (10, 1) else if c = 37 then (10, lineN (c :: r)) else wordN (c :: r)
theorem lineN_le (l : List UInt8) : lineN l ≤ l.length := (List.takeWhile_prefix _).length_le
theorem lineN_cons (c : UInt8) (r : List UInt8) : lineN (c :: r) = if c = 10 then 0 else 1 + lineN r := by
  unfold lineN
  rw [List.takeWhile_cons]
  by_cases h : c = 10
  · simp [h]
  · simp [h]; omega
theorem blN_line : ∀ r : List UInt8, blN true r = lineN r + blN false (r.drop (lineN r))
  | [] => by simp [blN, lineN]
  | c :: r => by
    have ih := blN_line r
    rw [blN, lineN_cons]
    by_cases h : c = 10
    · subst h
      rw [if_pos rfl, if_pos rfl, List.drop_zero, Nat.zero_add, blN, if_neg (by decide), if_pos (by decide)]
    · rw [if_neg h, if_neg h, ih, show 1 + lineN r = lineN r + 1 by omega, List.drop_succ_cons]
      omega
theorem lexG_hop {a n : Nat} {l : List UInt8} (h : blN false l = n + blN false (l.drop n)) : lexG a l = lexG (a + n) (l.drop n) := by
  rw [lexG_skip a l, lexG_skip (a + n) (l.drop n), List.drop_drop, h, Nat.add_assoc]
theorem kindL_lo (l : List UInt8) : 1 ≤ kindL l ∧ kindL l ≤ 4 := by
  unfold kindL
  split
  · omega
  · split
    · omega
    · split
      · split <;> omega
      · omega
theorem markN_lo (l : List UInt8) : (markN l = (0, 0)) ∨ (5 ≤ (markN l).1 ∧ (markN l).1 ≤ 9 ∧ 1 ≤ (markN l).2) := by
  cases l with
  | nil => exact Or.inl rfl
  | cons c r =>
    unfold markN
    dsimp only
    repeat' split
    all_goals first
      | exact Or.inl rfl
      | (refine Or.inr ⟨?_, ?_, ?_⟩ <;> simp)
theorem wordN_lo (l : List UInt8) : (wordN l = (0, 0)) ∨ (1 ≤ (wordN l).1 ∧ (wordN l).1 ≤ 9 ∧ 1 ≤ (wordN l).2) := by
  unfold wordN
  rcases markN_lo l with h | ⟨h1, h2, h3⟩
  · rw [h, if_neg (by simp)]
    by_cases hb : letN l = 0 ∨ 32 < letN l
    · rw [if_pos hb]; exact Or.inl rfl
    · rw [if_neg hb]
      have hk := kindL_lo (l.take (letN l))
      refine Or.inr ⟨hk.1, by dsimp only; omega, by dsimp only; omega⟩
  · rw [if_pos (by omega)]
    exact Or.inr ⟨by omega, h2, h3⟩
theorem front_step {l : List UInt8} {k n : Nat} (a : Nat) (h : frontN l = (k, n)) (hl : l ≠ []) :
    (k = 0 ∧ lexG a l = ([], some a)) ∨ (k = 10 ∧ 1 ≤ n ∧ n ≤ l.length ∧ lexG a l = lexG (a + n) (l.drop n)) ∨
      (1 ≤ k ∧ k ≤ 9 ∧ 1 ≤ n ∧ n ≤ l.length ∧ lexG a l = ((k, l.take n, a) :: (lexG (a + n) (l.drop n)).1, (lexG (a + n) (l.drop n)).2)) := by
  cases l with
  | nil => exact absurd rfl hl
  | cons c r =>
    unfold frontN at h
    dsimp only at h
    by_cases hb : isBl c = true
    · rw [if_pos hb] at h
      obtain ⟨rfl, rfl⟩ := Prod.mk.injEq _ _ _ _ ▸ h
      refine Or.inr (Or.inl ⟨rfl, Nat.le_refl _, by simp, lexG_hop ?_⟩)
      have hc : c ≠ 37 := by rintro rfl; exact absurd hb (by decide)
      rw [blN, if_neg hc, if_pos hb, List.drop_succ_cons, List.drop_zero]
    · rw [if_neg hb] at h
      by_cases hc : c = 37
      · rw [if_pos hc] at h
        obtain ⟨rfl, rfl⟩ := Prod.mk.injEq _ _ _ _ ▸ h
        have h10 : c ≠ 10 := by rw [hc]; decide
        have hn : lineN (c :: r) = 1 + lineN r := by rw [lineN_cons, if_neg h10]
        refine Or.inr (Or.inl ⟨rfl, by omega, lineN_le _, lexG_hop ?_⟩)
        rw [blN, if_pos hc, blN_line r, hn, show 1 + lineN r = lineN r + 1 by omega, List.drop_succ_cons]
        omega
      · rw [if_neg hc] at h
        have h0 : blN false (c :: r) = 0 := by rw [blN, if_neg hc, if_neg hb]
        have hd : (c :: r).drop (blN false (c :: r)) = c :: r := by rw [h0, List.drop_zero]
        have hle := wordN_le (c :: r)
        have hlo := wordN_lo (c :: r)
        rw [h] at hle hlo
        dsimp only at hle hlo
        rcases hlo with h00 | ⟨h1, h2, h3⟩
        · obtain ⟨rfl, rfl⟩ := Prod.mk.injEq _ _ _ _ ▸ h00
          refine Or.inl ⟨rfl, ?_⟩
          rw [lexG_bad hd hl (by rw [h]), h0, Nat.add_zero]
        · refine Or.inr (Or.inr ⟨h1, h2, h3, hle, ?_⟩)
          rw [lexG_word hd h (by omega), h0, Nat.add_zero]
/-- Where a byte first stands. -/
theorem indexByte_line : ∀ l : List UInt8, Lib.indexByte l 10 = if lineN l = l.length then -1 else (lineN l : Int)
  | [] => rfl
  | c :: r => by
    have ih := indexByte_line r
    have hle := lineN_le r
    rw [Lib.indexByte, lineN_cons, List.length_cons]
    by_cases h : c = 10
    · subst h
      rw [show ((10 : UInt8) == 10) = true from rfl, if_pos rfl, if_pos rfl, if_neg (by omega)]
      rfl
    · have hb : (c == (10 : UInt8)) = false := beq_false_of_ne h
      rw [hb, if_neg Bool.false_ne_true, if_neg h, ih]
      by_cases h2 : lineN r = r.length
      · rw [if_pos h2, if_pos (show ((-1 : Int) == -1) = true from rfl), if_pos (by omega)]
      · have h3 : ((lineN r : Int) == -1) = false := by rw [beq_eq_false_iff_ne]; omega
        rw [if_neg h2, h3, if_neg Bool.false_ne_true, if_neg (by omega)]
        omega
theorem frontN_let {c : UInt8} {r : List UInt8} (hc : okB c = true) : frontN (c :: r) = if 32 < letN (c :: r) then (0, 0) else (kindL ((c :: r).take (letN (c :: r))), letN (c :: r)) := by
  have hb : isBl c = false := by
    unfold isBl okB at *
    cases hh : (c == 32 || c == 9 || c == 10 || c == 13) with
    | false => rfl
    | true =>
      exfalso
      simp only [Bool.or_eq_true, beq_iff_eq] at hh
      rcases hh with ((rfl | rfl) | rfl) | rfl <;> exact absurd hc (by decide)
  have hp : c ≠ 37 := by rintro rfl; exact absurd hc (by decide)
  have h1 : 1 ≤ letN (c :: r) := by unfold letN; rw [List.takeWhile_cons, hc]; simp
  unfold frontN
  dsimp only
  rw [hb, if_neg (by simp), if_neg hp, wordN_let (markN_ok hc r)]
  by_cases h : 32 < letN (c :: r)
  · rw [if_pos (Or.inr h), if_pos h]
  · rw [if_neg (by omega), if_neg h]
set_option maxRecDepth 100000 in
set_option maxHeartbeats 2000000 in
theorem isLetter_any (s : ByteArray) (k : Nat) (w : World) (hs : s.size ≤ 1099511627776) (hk : k < s.size) :
    Calls Tryz.prog 73 #[sv s, .int .i64 (k : Int)] w fun e w' => e = .returned (.bool (okB s[k])) ∧ w = w' := by
  have HM := Lib.hid (mayB_one hk)
  have hsl := run_part s k (k + 1) (k : Int) ((k : Int) + 1) rfl (by omega) (by omega) (by omega) w
  have hci : (k : Int) < (s.size : Int) := by omega
  go_enter Tryz.func73, Tryz.ntmps73
  repeat (first | go_skip | go_guarded | go_step)
  refine (may_any (s.extract k (k + 1)) w (by simp; omega)).mono ?_
  rintro e w1 ⟨rfl, rfl⟩
  dsimp only
  repeat (first | go_skip | go_guarded | go_step)
  go_ret
  exact ⟨by rw [HM.out]; rfl, rfl⟩
set_option maxRecDepth 100000 in
set_option maxHeartbeats 4000000 in
theorem lettersSize_any (s : ByteArray) (w : World) (hs : s.size ≤ 1099511627776) :
    Calls Tryz.prog 75 #[sv s] w fun e w' => e = .returned (.int .i64 (letN (tb s) : Int)) ∧ w = w' := by
  go_enter Tryz.func75, Tryz.ntmps75
  repeat (first | go_skip | go_guarded | go_step)
  go_loop [3] (fun q => ∃ k : Nat, k ≤ s.size ∧ q = .int .i64 (k : Int) ∧ letN (tb s) = k + letN ((tb s).drop k)) (fun q => s.size - (intOf q).toNat)
  case atStart => exact ⟨0, by omega, rfl, by rw [List.drop_zero, Nat.zero_add]⟩
  case round =>
    obtain ⟨k, h2, rfl, hl⟩ := hrel
    have HL := Lib.hid hl
    clear hl
    by_cases hlt : k < s.size
    · have hci : (k : Int) < (s.size : Int) := by omega
      have HT := Lib.hid (tb_at hlt)
      repeat (first | go_skip | go_guarded | go_step)
      refine (isLetter_any s k w hs hlt).mono ?_
      rintro e w1 ⟨rfl, rfl⟩
      dsimp only
      cases ho : okB s[k] with
      | true =>
        have HO := Lib.hid ho
        clear ho
        repeat (first | go_skip | go_guarded | go_step)
        go_round
        case rel => exact ⟨k + 1, by omega, by go_num, by rw [HL.out, HT.out]; unfold letN; rw [List.takeWhile_cons, HO.out]; simp; omega⟩
        case measure => simp [intOf] <;> omega
      | false =>
        have HZ := Lib.hid (show letN (tb s) = k by rw [HL.out, HT.out]; unfold letN; rw [List.takeWhile_cons, ho]; simp)
        clear ho
        repeat (first | go_skip | go_guarded | go_step)
        go_ret
        exact ⟨by rw [HZ.out]; rfl, rfl⟩
    · obtain rfl : k = s.size := by omega
      have HZ := Lib.hid (show letN (tb s) = s.size by rw [HL.out, List.drop_of_length_le (by rw [tb_len]; omega)]; simp [letN])
      repeat (first | go_skip | go_guarded | go_step)
      go_ret
      exact ⟨by rw [HZ.out]; rfl, rfl⟩
theorem run_idxB (s : ByteArray) (c : Int) (w : World) : (callFunc 124 #[sv s, .int .u8 c]).run Tryz.prog w = .ok (.value (.int .i64 (Lib.indexByte (tb s) c.toNat.toUInt8))) w := by
  rw [run_callFunc_extern Tryz.func124 (by kernel_rfl) (by kernel_rfl) (by kernel_rfl) (e := Extern.BytealgIndexByte.indexByte) (by kernel_rfl), Lib.run_indexByteString]
  rfl
set_option maxRecDepth 100000 in
set_option maxHeartbeats 2000000 in
theorem lidx_any (s : ByteArray) (w : World) :
    Calls Tryz.prog 111 #[sv s, .int .u8 10] w fun e w' => e = .returned (.int .i64 (Lib.indexByte (tb s) 10)) ∧ w = w' := by
  have hx := run_idxB s 10 w
  go_enter Tryz.func111, Tryz.ntmps111
  repeat (first | go_skip | go_guarded | go_step)
  go_ret
  exact ⟨rfl, rfl⟩
set_option maxRecDepth 100000 in
set_option maxHeartbeats 2000000 in
theorem sidx_any (s : ByteArray) (w : World) :
    Calls Tryz.prog 94 #[sv s, .int .u8 10] w fun e w' => e = .returned (.int .i64 (Lib.indexByte (tb s) 10)) ∧ w = w' := by
  go_enter Tryz.func94, Tryz.ntmps94
  repeat (first | go_skip | go_guarded | go_step)
  refine (lidx_any s w).mono ?_
  rintro e w1 ⟨rfl, rfl⟩
  dsimp only
  repeat (first | go_skip | go_guarded | go_step)
  go_ret
  exact ⟨rfl, rfl⟩
set_option maxRecDepth 100000 in
set_option maxHeartbeats 2000000 in
theorem lineSize_any (s : ByteArray) (w : World) (hs : s.size ≤ 1099511627776) :
    Calls Tryz.prog 71 #[sv s] w fun e w' => e = .returned (.int .i64 (lineN (tb s) : Int)) ∧ w = w' := by
  have h1 := indexByte_line (tb s)
  rw [tb_len] at h1
  have h2 := lineN_le (tb s)
  rw [tb_len] at h2
  obtain ⟨n, hn⟩ : ∃ n, n = lineN (tb s) := ⟨_, rfl⟩
  rw [← hn] at h1 h2 ⊢
  clear hn
  by_cases hb : n = s.size
  · rw [if_pos hb] at h1
    have H1 := Lib.hid h1
    have HB := Lib.hid hb
    clear h1 hb h2
    go_enter Tryz.func71, Tryz.ntmps71
    repeat (first | go_skip | go_guarded | go_step)
    refine (sidx_any s w).mono ?_
    rintro e w1 ⟨rfl, rfl⟩
    rw [H1.out]
    dsimp only
    repeat (first | go_skip | go_guarded | go_step)
    go_ret
    exact ⟨by rw [HB.out]; rfl, rfl⟩
  · rw [if_neg hb] at h1
    have H1 := Lib.hid h1
    have d1 : decide ((0 : Int) ≤ (n : Int)) = true := by simp
    clear h1 hb
    go_enter Tryz.func71, Tryz.ntmps71
    repeat (first | go_skip | go_guarded | go_step)
    refine (sidx_any s w).mono ?_
    rintro e w1 ⟨rfl, rfl⟩
    rw [H1.out]
    dsimp only
    repeat (first | go_skip | go_guarded | go_step)
    go_ret
    exact ⟨rfl, rfl⟩
/-- Does a text begin with ':-'? -/
def pfB (s : ByteArray) : Bool := decide ((tb s).take 2 = [58, 45])
set_option maxRecDepth 100000 in
set_option maxHeartbeats 2000000 in
theorem lpre_any (s : ByteArray) (w : World) (hs : s.size ≤ 1099511627776) :
    Calls Tryz.prog 95 #[sv s, sv ⟨#[58, 45]⟩] w fun e w' => e = .returned (.bool (pfB s)) ∧ w = w' := by
  by_cases h2 : 2 ≤ s.size
  · have d1 : decide ((2 : Int) ≤ (s.size : Int)) = true := by simp; omega
    have hcmp : ((s.extract 0 2).toList == [58, 45]) = pfB s := by
      rw [ByteArray.toList_eq]
      have h := tb_extract s 0 2
      rw [List.drop_zero] at h
      unfold pfB
      rw [show (s.extract 0 2).data.toList = (tb s).take 2 from h]
      by_cases he : (tb s).take 2 = [58, 45]
      · rw [he]; rfl
      · rw [beq_false_of_ne he, decide_eq_false he]
    generalize pfB s = p at hcmp ⊢
    have d2 : (2 : Int) ≤ (s.size : Int) := by omega
    go_enter Tryz.func95, Tryz.ntmps95
    repeat (first | go_skip | go_guarded | go_step)
    go_ret
    exact ⟨rfl, rfl⟩
  · have d1 : decide ((2 : Int) ≤ (s.size : Int)) = false := by simp; omega
    have HP := Lib.hid (show pfB s = false by
      unfold pfB
      rw [decide_eq_false_iff_not]
      intro he
      have := congrArg List.length he
      rw [List.length_take, tb_len] at this
      simp at this
      omega)
    go_enter Tryz.func95, Tryz.ntmps95
    repeat (first | go_skip | go_guarded | go_step)
    go_ret
    exact ⟨by rw [HP.out]; rfl, rfl⟩
set_option maxRecDepth 100000 in
set_option maxHeartbeats 2000000 in
theorem spre_any (s : ByteArray) (w : World) (hs : s.size ≤ 1099511627776) :
    Calls Tryz.prog 72 #[sv s, sv ⟨#[58, 45]⟩] w fun e w' => e = .returned (.bool (pfB s)) ∧ w = w' := by
  go_enter Tryz.func72, Tryz.ntmps72
  repeat (first | go_skip | go_guarded | go_step)
  refine (lpre_any s w hs).mono ?_
  rintro e w1 ⟨rfl, rfl⟩
  dsimp only
  repeat (first | go_skip | go_guarded | go_step)
  go_ret
  exact ⟨rfl, rfl⟩
theorem zero_u8 (w : World) : (zeroValue 5).run Tryz.prog w = .ok (.int .u8 0) w := by kernel_rfl
abbrev notT : ByteArray := ⟨#[110, 111, 116]⟩
abbrev saysT : ByteArray := ⟨#[115, 97, 121, 115]⟩
/-- Block b is a map that tells of 'not' and of 'says' what they mean, and of nothing else. -/
def MeanIs (w : World) (b : Nat) : Prop :=
  ∃ D : DataW Unit, w.ownsMap Tryz.prog 9 (plainElem Tryz.prog 5) b 2 D ∧
    ∀ s, has D (keyL s) = decide (s = notT ∨ s = saysT) ∧ (s = notT → ∀ z, D.atKey (keyL s) z = .lit (.int .u8 3)) ∧ (s = saysT → ∀ z, D.atKey (keyL s) z = .lit (.int .u8 4))
theorem MeanIs.lt {w : World} {b : Nat} (h : MeanIs w b) : b < w.heap.size := by
  obtain ⟨D, h1, _⟩ := h
  exact h1.lt
theorem MeanIs.below {w w' : World} {b B : Nat} (h : MeanIs w b) (hb : Below B w w') (hlt : b < B) : MeanIs w' b := by
  obtain ⟨D, ⟨es, clock, h0, h1⟩, h2⟩ := h
  exact ⟨D, ⟨es, clock, (hb.block b hlt).trans h0, h1⟩, h2⟩
theorem wpList_insert_run {P : Program} {ops : Array Oper} {rest : List Oper} {o : Oper} {a : Act} {Q : Exit → Act → World → Prop} (w w' : World) (hg : o.guard = none) (m x v : Operand) (t : TypeId) (hop : o.op = Op.insert t m x v)
    (hrun : (Instr.mapUpdate t (a.eval m) (a.eval x) (a.eval v)).run P w = .ok () w') (hK : wpList P ops Q rest (a.put o.dst undef) w') : wpList P ops Q (o :: rest) a w := by
  refine wpList_plain hg fun K hK' => ?_
  unfold Oper.wp
  simp [execOp, hop, hrun, Result.andThen]
  exact hK' _ _ hK
theorem owns_put {w : World} {b n : Nat} {D : DataW Unit} (h : w.ownsMap Tryz.prog 9 (plainElem Tryz.prog 5) b n D) (hn : n < 100) (s : ByteArray) (hs : s.size ≤ 100) (k : Nat) (hk : k < 256) :
    ∃ w', (Instr.mapUpdate 114 (.map (some b)) (sv s) (.int .u8 (k : Int))).run Tryz.prog w = .ok () w' ∧ w'.ownsMap Tryz.prog 9 (plainElem Tryz.prog 5) b (n + 1) (D.put (keyL s) (.lit (.int .u8 (k : Int)))) ∧ w.grownBy w' (some b) := by
  have hwf : (Lit.int .u8 (k : Int)).wf = true := by
    have e1 : IntKind.u8.min = 0 := rfl
    have e2 : IntKind.u8.max = 255 := rfl
    simp only [Lit.wf, Bool.and_eq_true, decide_eq_true_eq]
    omega
  exact h.update key_law Tryz.underlying114 (by simp only [maxLen]; omega) (key_of (by simp only [maxLen]; omega)) (plainElem_int Tryz.underlying5 hwf)
set_option maxRecDepth 100000 in
set_option maxHeartbeats 2000000 in
theorem meanings_any (w : World) :
    Calls Tryz.prog 47 #[] w fun e w' => ∃ b, e = .returned (.map (some b)) ∧ w.heap.size ≤ b ∧ MeanIs w' b ∧ Below w.heap.size w w' := by
  have h0 := World.ownsMap_made w Tryz.prog 9 (plainElem (H := Unit) Tryz.prog 5)
  obtain ⟨w1, hr1, h1, g1⟩ := owns_put h0 (by omega) notT (by decide) 3 (by omega)
  obtain ⟨w2, hr2, h2, g2⟩ := owns_put h1 (by omega) saysT (by decide) 4 (by omega)
  have hb0 : Below w.heap.size w (w.alloc (.map #[] 0)) := (Below.refl _ w).alloc (Nat.le_refl _) _
  have hb1 : Below w.heap.size w w1 := hb0.grown g1 (by have := hb0.size; omega) (fun k hk => by cases hk; exact Nat.le_refl _)
  have hb2 : Below w.heap.size w w2 := hb1.grown g2 (by have := hb1.size; omega) (fun k hk => by cases hk; exact Nat.le_refl _)
  have hM : MeanIs w2 w.heap.size := by
    refine ⟨_, h2, fun s => ?_⟩
    have hne : keyL notT ≠ keyL saysT := fun e => absurd (keyL_inj e) (by decide)
    by_cases e1 : s = saysT
    · subst e1
      refine ⟨(has_put_same (World.ownsMap.isMap h1) (by trivial) _).trans (by simp), fun e => absurd e (by decide), fun _ z => atKey_put_same (World.ownsMap.isMap h1) (by trivial) _ z⟩
    · have n1 : keyL s ≠ keyL saysT := fun e => e1 (keyL_inj e)
      rw [has_put_other n1]
      by_cases e2 : s = notT
      · subst e2
        refine ⟨(has_put_same (World.ownsMap.isMap h0) (by trivial) _).trans (by simp), fun _ z => ?_, fun e => absurd e e1⟩
        rw [atKey_put_other n1]
        exact atKey_put_same (World.ownsMap.isMap h0) (by trivial) _ z
      · have n2 : keyL s ≠ keyL notT := fun e => e2 (keyL_inj e)
        refine ⟨?_, fun e => absurd e e2, fun e => absurd e e1⟩
        rw [has_put_other n2, decide_eq_false (by simp [e1, e2])]
        rfl
  have hmk := run_makeMap (P := Tryz.prog) 114 w
  have HR1 := Lib.hid hr1
  have HR2 := Lib.hid hr2
  have HB := Lib.hid hb2
  have HMM := Lib.hid hM
  clear hr1 hr2 hb0 hb1 hb2 hM h0 h1 h2 g1 g2
  go_enter Tryz.func47, Tryz.ntmps47
  repeat (first
    | (refine wpList_insert_run _ _ rfl _ _ _ _ rfl HR1.out ?_)
    | (refine wpList_insert_run _ _ rfl _ _ _ _ rfl HR2.out ?_)
    | go_skip | go_guarded | go_step)
  go_ret
  exact ⟨_, rfl, Nat.le_refl _, HMM.out, HB.out⟩
/-- What a word of letters is: k, if it means nothing else. -/
def ofK (k : Nat) (s : ByteArray) : Nat := if s = notT then 3 else if s = saysT then 4 else k
theorem look_mean {ops : Array Oper} {rest : List Oper} {o : Oper} {a : Act} {Q : Exit → Act → World → Prop} (w : World) (hg : o.guard = none) (m x : Operand) (hop : o.op = Op.lookup 114 m x true)
    (b : Nat) (s : ByteArray) (hm : a.eval m = .map (some b)) (hx : a.eval x = sv s) (hs : s.size ≤ maxLen) (h : MeanIs w b)
    (hK : wpList Tryz.prog ops Q rest (a.put o.dst (.tuple #[.int .u8 (ofK 0 s : Int), .bool (decide (s = notT ∨ s = saysT))])) w) : wpList Tryz.prog ops Q (o :: rest) a w := by
  obtain ⟨D, h1, h2⟩ := h
  refine wpList_lookup_own_ok_int w hg m x _ hop 9 5 .u8 key_law Tryz.underlying114 Tryz.underlying5 (zero_u8 w) b _ D hm h1 (sv s) (keyL s) hx (key_of hs) ?_
  intro c hc _
  rw [(h2 s).1]
  have hcc : c = (ofK 0 s : Int) := by
    unfold ofK
    by_cases e1 : s = notT
    · rw [(h2 s).2.1 e1] at hc
      simp only [DataW.lit.injEq, Lit.int.injEq, true_and] at hc
      rw [if_pos e1, ← hc]; rfl
    · by_cases e2 : s = saysT
      · rw [(h2 s).2.2 e2] at hc
        simp only [DataW.lit.injEq, Lit.int.injEq, true_and] at hc
        rw [if_neg e1, if_pos e2, ← hc]; rfl
      · have hh := (h2 s).1
        rw [decide_eq_false (by simp [e1, e2])] at hh
        rw [atKey_of_not_has (by simpa using hh)] at hc
        simp only [DataW.lit.injEq, Lit.int.injEq, true_and] at hc
        rw [if_neg e1, if_neg e2, ← hc]; rfl
  subst hcc
  exact hK
set_option maxRecDepth 100000 in
set_option maxHeartbeats 2000000 in
theorem ofLetters_any (s : ByteArray) (k b : Nat) (w : World) (hm : MeanIs w b) (h1 : 1 ≤ s.size) (hs : s.size ≤ 1099511627776) (hal : (tb s).all okB = true) :
    Calls Tryz.prog 74 #[sv s, .int .u8 (k : Int), .map (some b)] w fun e w' => e = .returned (.tuple #[.int .u8 ((if 32 < s.size then 0 else ofK k s : Nat) : Int), .int .i64 ((if 32 < s.size then 0 else s.size : Nat) : Int)]) ∧ w = w' := by
  have HM := Lib.hid hm
  have hml : s.size ≤ maxLen := by simp only [maxLen]; omega
  clear hm
  by_cases hb : 32 < s.size
  · rw [if_pos hb, if_pos hb]
    have HY := Lib.hid (show mayB s = false by
      unfold mayB
      rw [show s.data.toList.all okB = true from hal, Bool.true_and, Bool.and_eq_false_iff]
      exact Or.inr (decide_eq_false (by omega)))
    clear hal hb
    go_enter Tryz.func74, Tryz.ntmps74
    repeat (first | go_skip | go_guarded | go_step)
    refine (may_any s w hs).mono ?_
    rintro e w1 ⟨rfl, rfl⟩
    rw [HY.out]
    dsimp only
    repeat (first | go_skip | go_guarded | go_step)
    go_ret2
    exact ⟨rfl, rfl⟩
  · rw [if_neg hb, if_neg hb]
    have HY := Lib.hid (show mayB s = true by
      unfold mayB
      rw [show s.data.toList.all okB = true from hal, Bool.true_and, Bool.and_eq_true]
      exact ⟨decide_eq_true (by omega), decide_eq_true (by omega)⟩)
    clear hal hb
    obtain ⟨c, hc⟩ : ∃ c, c = ofK 0 s := ⟨_, rfl⟩
    obtain ⟨q, hq⟩ : ∃ q, q = decide (s = notT ∨ s = saysT) := ⟨_, rfl⟩
    have hlk := fun {ops : Array Oper} {rest : List Oper} {o : Oper} {a : Act} {Q : Exit → Act → World → Prop} (hg : o.guard = none) (m x : Operand) (hop : o.op = Op.lookup 114 m x true) (h3 : a.eval m = .map (some b)) (h4 : a.eval x = sv s) (hK : wpList Tryz.prog ops Q rest (a.put o.dst (.tuple #[.int .u8 (c : Int), .bool q])) w) => look_mean w hg m x hop b s h3 h4 hml HM.out (by rw [← hc, ← hq]; exact hK)
    have HC : Hid (ofK k s = if q then c else k) := Lib.hid (by
      rw [hc, hq]
      unfold ofK
      by_cases e1 : s = notT
      · simp [e1]
      · by_cases e2 : s = saysT
        · simp [e2]
        · simp [e1, e2])
    clear hc hq hml HM
    cases q with
    | true =>
      go_enter Tryz.func74, Tryz.ntmps74
      repeat (first | go_skip | go_guarded | go_step)
      refine (may_any s w hs).mono ?_
      rintro e w1 ⟨rfl, rfl⟩
      rw [HY.out]
      dsimp only
      repeat (first | (at_lookup; refine hlk rfl _ _ rfl rfl rfl ?_) | go_skip | go_guarded | go_step)
      go_ret2
      exact ⟨by rw [HC.out]; rfl, rfl⟩
    | false =>
      go_enter Tryz.func74, Tryz.ntmps74
      repeat (first | go_skip | go_guarded | go_step)
      refine (may_any s w hs).mono ?_
      rintro e w1 ⟨rfl, rfl⟩
      rw [HY.out]
      dsimp only
      repeat (first | (at_lookup; refine hlk rfl _ _ rfl rfl rfl ?_) | go_skip | go_guarded | go_step)
      go_ret2
      exact ⟨by rw [HC.out]; rfl, rfl⟩
theorem run_pre (s : ByteArray) (b : Nat) (hb : b ≤ s.size) (w : World) :
    (Instr.slice 9 (sv s) none (some (.int .i64 (b : Int))) none).run Tryz.prog w = .ok (sv (s.extract 0 b)) w := by
  have d1 : decide ((b : Int) ≤ (s.size : Int)) = true := by simp; omega
  go_simp
theorem front_not {x : UInt8} {r : List UInt8} (hb : isBl x = false) (h1 : x ≠ 37) (hm : markN (x :: r) = (0, 0)) (ho : okB x = false) : frontN (x :: r) = (0, 0) := by
  have hl : letN (x :: r) = 0 := by unfold letN; rw [List.takeWhile_cons, ho]; simp
  unfold frontN
  dsimp only
  rw [hb, if_neg Bool.false_ne_true, if_neg h1, wordN_let hm, if_pos (Or.inl hl)]
theorem markN_none {x : UInt8} {r : List UInt8} (h1 : x ≠ 40) (h2 : x ≠ 41) (h3 : x ≠ 44) (h4 : x ≠ 46) (h5 : ¬ (x = 58 ∧ r.head? = some 45)) : markN (x :: r) = (0, 0) := by
  unfold markN
  dsimp only
  rw [if_neg h1, if_neg h2, if_neg h3, if_neg h4, if_neg h5]
theorem pfB_cons {s : ByteArray} {x : UInt8} {r : List UInt8} (h : tb s = x :: r) : pfB s = decide (x = 58 ∧ r.head? = some 45) := by
  unfold pfB
  rw [h]
  cases r with
  | nil => simp
  | cons y q => simp
theorem ofK_kind {s : ByteArray} {n k : Nat} {x : UInt8} {r : List UInt8} (h : tb s = x :: r) (hn : 1 ≤ n) (hk : k = if 65 ≤ x.toNat ∧ x.toNat ≤ 90 then 2 else 1) : ofK k (s.extract 0 n) = kindL ((tb s).take n) := by
  have ht : tb (s.extract 0 n) = (tb s).take n := by rw [tb_extract, List.drop_zero, Nat.sub_zero]
  have hc : ∀ t : ByteArray, s.extract 0 n = t ↔ (tb s).take n = tb t := fun t => by
    rw [← ht]
    exact ⟨fun e => by rw [e], fun e => ByteArray.ext (Array.toList_inj.1 e)⟩
  unfold ofK kindL
  by_cases e1 : s.extract 0 n = notT
  · rw [if_pos e1, if_pos ((hc notT).1 e1)]
  · by_cases e2 : s.extract 0 n = saysT
    · rw [if_neg e1, if_neg (fun e => e1 ((hc notT).2 e)), if_pos e2, if_pos ((hc saysT).1 e2)]
    · rw [if_neg e1, if_neg (fun e => e1 ((hc notT).2 e)), if_neg e2, if_neg (fun e => e2 ((hc saysT).2 e)), h]
      obtain ⟨m, rfl⟩ : ∃ m, n = m + 1 := ⟨n - 1, by omega⟩
      rw [List.take_succ_cons]
      exact hk
theorem all_letN (l : List UInt8) : (l.take (letN l)).all okB = true := by
  unfold letN
  rw [List.prefix_iff_eq_take.1 (List.takeWhile_prefix okB) |>.symm]
  exact List.all_takeWhile
set_option maxRecDepth 100000 in
set_option maxHeartbeats 4000000 in
theorem first_any (s : ByteArray) (b : Nat) (w : World) (hm : MeanIs w b) (h1 : 1 ≤ s.size) (hs : s.size ≤ 1099511627776) :
    Calls Tryz.prog 48 #[sv s, .map (some b)] w fun e w' => e = .returned (.tuple #[.int .u8 ((frontN (tb s)).1 : Int), .int .i64 ((frontN (tb s)).2 : Int)]) ∧ w = w' := by
  have HM := Lib.hid hm
  clear hm
  have h0 : 0 < s.size := by omega
  obtain ⟨x, hx⟩ : ∃ x, s[0]'h0 = x := ⟨_, rfl⟩
  have ht := tb_at h0
  rw [hx, List.drop_zero] at ht
  obtain ⟨r, hr⟩ : ∃ r, r = (tb s).drop (0 + 1) := ⟨_, rfl⟩
  rw [← hr] at ht
  clear hr
  have HT := Lib.hid ht
  have HP := Lib.hid (pfB_cons ht)
  have hci : (0 : Int) < (s.size : Int) := by omega
  have hx256 := u8_lt x
  clear ht
  have hcs : x.toNat = 32 ∨ x.toNat = 9 ∨ x.toNat = 10 ∨ x.toNat = 13 ∨ x.toNat = 37 ∨ x.toNat = 40 ∨ x.toNat = 41 ∨ x.toNat = 44 ∨ x.toNat = 46 ∨ x.toNat = 58 ∨ (65 ≤ x.toNat ∧ x.toNat ≤ 90) ∨
      ((¬ (65 ≤ x.toNat ∧ x.toNat ≤ 90)) ∧ x.toNat ≠ 32 ∧ x.toNat ≠ 9 ∧ x.toNat ≠ 10 ∧ x.toNat ≠ 13 ∧ x.toNat ≠ 37 ∧ x.toNat ≠ 40 ∧ x.toNat ≠ 41 ∧ x.toNat ≠ 44 ∧ x.toNat ≠ 46 ∧ x.toNat ≠ 58) := by omega
  rcases hcs with h | h | h | h | h | h | h | h | h | h | h | h
  · have HF := Lib.hid (show frontN (tb s) = (10, 1) by rw [HT.out, show x = 32 from UInt8.toNat_inj.1 h]; rfl)
    have d32 : ((x.toNat : Int) == 32) = true := by simp; omega
    have d9 : ((x.toNat : Int) == 9) = false := by simp; omega
    have d10 : ((x.toNat : Int) == 10) = false := by simp; omega
    have d13 : ((x.toNat : Int) == 13) = false := by simp; omega
    have d37 : ((x.toNat : Int) == 37) = false := by simp; omega
    have d40 : ((x.toNat : Int) == 40) = false := by simp; omega
    have d41 : ((x.toNat : Int) == 41) = false := by simp; omega
    have d44 : ((x.toNat : Int) == 44) = false := by simp; omega
    have d46 : ((x.toNat : Int) == 46) = false := by simp; omega
    clear h
    go_enter Tryz.func48, Tryz.ntmps48
    repeat (first | go_skip | go_guarded | go_step)
    go_ret2
    exact ⟨by rw [HF.out]; rfl, rfl⟩
  · have HF := Lib.hid (show frontN (tb s) = (10, 1) by rw [HT.out, show x = 9 from UInt8.toNat_inj.1 h]; rfl)
    have d32 : ((x.toNat : Int) == 32) = false := by simp; omega
    have d9 : ((x.toNat : Int) == 9) = true := by simp; omega
    have d10 : ((x.toNat : Int) == 10) = false := by simp; omega
    have d13 : ((x.toNat : Int) == 13) = false := by simp; omega
    have d37 : ((x.toNat : Int) == 37) = false := by simp; omega
    have d40 : ((x.toNat : Int) == 40) = false := by simp; omega
    have d41 : ((x.toNat : Int) == 41) = false := by simp; omega
    have d44 : ((x.toNat : Int) == 44) = false := by simp; omega
    have d46 : ((x.toNat : Int) == 46) = false := by simp; omega
    clear h
    go_enter Tryz.func48, Tryz.ntmps48
    repeat (first | go_skip | go_guarded | go_step)
    go_ret2
    exact ⟨by rw [HF.out]; rfl, rfl⟩
  · have HF := Lib.hid (show frontN (tb s) = (10, 1) by rw [HT.out, show x = 10 from UInt8.toNat_inj.1 h]; rfl)
    have d32 : ((x.toNat : Int) == 32) = false := by simp; omega
    have d9 : ((x.toNat : Int) == 9) = false := by simp; omega
    have d10 : ((x.toNat : Int) == 10) = true := by simp; omega
    have d13 : ((x.toNat : Int) == 13) = false := by simp; omega
    have d37 : ((x.toNat : Int) == 37) = false := by simp; omega
    have d40 : ((x.toNat : Int) == 40) = false := by simp; omega
    have d41 : ((x.toNat : Int) == 41) = false := by simp; omega
    have d44 : ((x.toNat : Int) == 44) = false := by simp; omega
    have d46 : ((x.toNat : Int) == 46) = false := by simp; omega
    clear h
    go_enter Tryz.func48, Tryz.ntmps48
    repeat (first | go_skip | go_guarded | go_step)
    go_ret2
    exact ⟨by rw [HF.out]; rfl, rfl⟩
  · have HF := Lib.hid (show frontN (tb s) = (10, 1) by rw [HT.out, show x = 13 from UInt8.toNat_inj.1 h]; rfl)
    have d32 : ((x.toNat : Int) == 32) = false := by simp; omega
    have d9 : ((x.toNat : Int) == 9) = false := by simp; omega
    have d10 : ((x.toNat : Int) == 10) = false := by simp; omega
    have d13 : ((x.toNat : Int) == 13) = true := by simp; omega
    have d37 : ((x.toNat : Int) == 37) = false := by simp; omega
    have d40 : ((x.toNat : Int) == 40) = false := by simp; omega
    have d41 : ((x.toNat : Int) == 41) = false := by simp; omega
    have d44 : ((x.toNat : Int) == 44) = false := by simp; omega
    have d46 : ((x.toNat : Int) == 46) = false := by simp; omega
    clear h
    go_enter Tryz.func48, Tryz.ntmps48
    repeat (first | go_skip | go_guarded | go_step)
    go_ret2
    exact ⟨by rw [HF.out]; rfl, rfl⟩
  · have HF := Lib.hid (show frontN (tb s) = (10, lineN (tb s)) by rw [HT.out, show x = 37 from UInt8.toNat_inj.1 h]; rfl)
    have d32 : ((x.toNat : Int) == 32) = false := by simp; omega
    have d9 : ((x.toNat : Int) == 9) = false := by simp; omega
    have d10 : ((x.toNat : Int) == 10) = false := by simp; omega
    have d13 : ((x.toNat : Int) == 13) = false := by simp; omega
    have d37 : ((x.toNat : Int) == 37) = true := by simp; omega
    have d40 : ((x.toNat : Int) == 40) = false := by simp; omega
    have d41 : ((x.toNat : Int) == 41) = false := by simp; omega
    have d44 : ((x.toNat : Int) == 44) = false := by simp; omega
    have d46 : ((x.toNat : Int) == 46) = false := by simp; omega
    clear h
    go_enter Tryz.func48, Tryz.ntmps48
    repeat (first | go_skip | go_guarded | go_step)
    refine (lineSize_any s w hs).mono ?_
    rintro e w1 ⟨rfl, rfl⟩
    dsimp only
    repeat (first | go_skip | go_guarded | go_step)
    go_ret2
    exact ⟨by rw [HF.out]; rfl, rfl⟩
  · have HF := Lib.hid (show frontN (tb s) = (5, 1) by rw [HT.out, show x = 40 from UInt8.toNat_inj.1 h]; simp [frontN, isBl, wordN, markN])
    have d32 : ((x.toNat : Int) == 32) = false := by simp; omega
    have d9 : ((x.toNat : Int) == 9) = false := by simp; omega
    have d10 : ((x.toNat : Int) == 10) = false := by simp; omega
    have d13 : ((x.toNat : Int) == 13) = false := by simp; omega
    have d37 : ((x.toNat : Int) == 37) = false := by simp; omega
    have d40 : ((x.toNat : Int) == 40) = true := by simp; omega
    have d41 : ((x.toNat : Int) == 41) = false := by simp; omega
    have d44 : ((x.toNat : Int) == 44) = false := by simp; omega
    have d46 : ((x.toNat : Int) == 46) = false := by simp; omega
    clear h
    go_enter Tryz.func48, Tryz.ntmps48
    repeat (first | go_skip | go_guarded | go_step)
    go_ret2
    exact ⟨by rw [HF.out]; rfl, rfl⟩
  · have HF := Lib.hid (show frontN (tb s) = (6, 1) by rw [HT.out, show x = 41 from UInt8.toNat_inj.1 h]; simp [frontN, isBl, wordN, markN])
    have d32 : ((x.toNat : Int) == 32) = false := by simp; omega
    have d9 : ((x.toNat : Int) == 9) = false := by simp; omega
    have d10 : ((x.toNat : Int) == 10) = false := by simp; omega
    have d13 : ((x.toNat : Int) == 13) = false := by simp; omega
    have d37 : ((x.toNat : Int) == 37) = false := by simp; omega
    have d40 : ((x.toNat : Int) == 40) = false := by simp; omega
    have d41 : ((x.toNat : Int) == 41) = true := by simp; omega
    have d44 : ((x.toNat : Int) == 44) = false := by simp; omega
    have d46 : ((x.toNat : Int) == 46) = false := by simp; omega
    clear h
    go_enter Tryz.func48, Tryz.ntmps48
    repeat (first | go_skip | go_guarded | go_step)
    go_ret2
    exact ⟨by rw [HF.out]; rfl, rfl⟩
  · have HF := Lib.hid (show frontN (tb s) = (7, 1) by rw [HT.out, show x = 44 from UInt8.toNat_inj.1 h]; simp [frontN, isBl, wordN, markN])
    have d32 : ((x.toNat : Int) == 32) = false := by simp; omega
    have d9 : ((x.toNat : Int) == 9) = false := by simp; omega
    have d10 : ((x.toNat : Int) == 10) = false := by simp; omega
    have d13 : ((x.toNat : Int) == 13) = false := by simp; omega
    have d37 : ((x.toNat : Int) == 37) = false := by simp; omega
    have d40 : ((x.toNat : Int) == 40) = false := by simp; omega
    have d41 : ((x.toNat : Int) == 41) = false := by simp; omega
    have d44 : ((x.toNat : Int) == 44) = true := by simp; omega
    have d46 : ((x.toNat : Int) == 46) = false := by simp; omega
    clear h
    go_enter Tryz.func48, Tryz.ntmps48
    repeat (first | go_skip | go_guarded | go_step)
    go_ret2
    exact ⟨by rw [HF.out]; rfl, rfl⟩
  · have HF := Lib.hid (show frontN (tb s) = (8, 1) by rw [HT.out, show x = 46 from UInt8.toNat_inj.1 h]; simp [frontN, isBl, wordN, markN])
    have d32 : ((x.toNat : Int) == 32) = false := by simp; omega
    have d9 : ((x.toNat : Int) == 9) = false := by simp; omega
    have d10 : ((x.toNat : Int) == 10) = false := by simp; omega
    have d13 : ((x.toNat : Int) == 13) = false := by simp; omega
    have d37 : ((x.toNat : Int) == 37) = false := by simp; omega
    have d40 : ((x.toNat : Int) == 40) = false := by simp; omega
    have d41 : ((x.toNat : Int) == 41) = false := by simp; omega
    have d44 : ((x.toNat : Int) == 44) = false := by simp; omega
    have d46 : ((x.toNat : Int) == 46) = true := by simp; omega
    clear h
    go_enter Tryz.func48, Tryz.ntmps48
    repeat (first | go_skip | go_guarded | go_step)
    go_ret2
    exact ⟨by rw [HF.out]; rfl, rfl⟩
  · have hx58 : x = 58 := UInt8.toNat_inj.1 h
    have d32 : ((x.toNat : Int) == 32) = false := by simp; omega
    have d9 : ((x.toNat : Int) == 9) = false := by simp; omega
    have d10 : ((x.toNat : Int) == 10) = false := by simp; omega
    have d13 : ((x.toNat : Int) == 13) = false := by simp; omega
    have d37 : ((x.toNat : Int) == 37) = false := by simp; omega
    have d40 : ((x.toNat : Int) == 40) = false := by simp; omega
    have d41 : ((x.toNat : Int) == 41) = false := by simp; omega
    have d44 : ((x.toNat : Int) == 44) = false := by simp; omega
    have d46 : ((x.toNat : Int) == 46) = false := by simp; omega
    have l65 : decide ((65 : Int) ≤ (x.toNat : Int)) = false := by simp; omega
    have l90 : decide ((x.toNat : Int) ≤ 90) = true := by simp; omega
    by_cases hq : r.head? = some 45
    · have HF := Lib.hid (show frontN (tb s) = (9, 2) by rw [HT.out, hx58]; simp [frontN, isBl, wordN, markN, hq])
      have HPP := Lib.hid (show pfB s = true by rw [HP.out]; exact decide_eq_true ⟨hx58, hq⟩)
      clear h hx58 hq
      go_enter Tryz.func48, Tryz.ntmps48
      repeat (first | go_skip | go_guarded | go_step)
      refine (spre_any s w hs).mono ?_
      rintro e w1 ⟨rfl, rfl⟩
      rw [HPP.out]
      dsimp only
      repeat (first | go_skip | go_guarded | go_step)
      go_ret2
      exact ⟨by rw [HF.out]; rfl, rfl⟩
    · have ho : okB x = false := by rw [hx58]; decide
      have HF := Lib.hid (show frontN (tb s) = (0, 0) by
        rw [HT.out]
        exact front_not (by rw [hx58]; decide) (by rw [hx58]; decide) (markN_none (by rw [hx58]; decide) (by rw [hx58]; decide) (by rw [hx58]; decide) (by rw [hx58]; decide) (fun e => hq e.2)) ho)
      have HPP := Lib.hid (show pfB s = false by rw [HP.out]; exact decide_eq_false (fun e => hq e.2))
      have HO := Lib.hid (show okB (s[0]'h0) = false by rw [hx]; exact ho)
      clear h hx58 hq ho
      go_enter Tryz.func48, Tryz.ntmps48
      repeat (first | go_skip | go_guarded | go_step)
      refine (spre_any s w hs).mono ?_
      rintro e w1 ⟨rfl, rfl⟩
      rw [HPP.out]
      dsimp only
      repeat (first | go_skip | go_guarded | go_step)
      refine (isLetter_any s 0 w hs h0).mono ?_
      rintro e w1 ⟨rfl, rfl⟩
      rw [HO.out]
      dsimp only
      repeat (first | go_skip | go_guarded | go_step)
      go_ret2
      exact ⟨by rw [HF.out]; rfl, rfl⟩
  · have ho : okB x = true := by unfold okB; simp; omega
    have hx58 : x ≠ 58 := by rintro rfl; exact absurd h (by decide)
    have d32 : ((x.toNat : Int) == 32) = false := by simp; omega
    have d9 : ((x.toNat : Int) == 9) = false := by simp; omega
    have d10 : ((x.toNat : Int) == 10) = false := by simp; omega
    have d13 : ((x.toNat : Int) == 13) = false := by simp; omega
    have d37 : ((x.toNat : Int) == 37) = false := by simp; omega
    have d40 : ((x.toNat : Int) == 40) = false := by simp; omega
    have d41 : ((x.toNat : Int) == 41) = false := by simp; omega
    have d44 : ((x.toNat : Int) == 44) = false := by simp; omega
    have d46 : ((x.toNat : Int) == 46) = false := by simp; omega
    have l65 : decide ((65 : Int) ≤ (x.toNat : Int)) = true := by simp; omega
    have l90 : decide ((x.toNat : Int) ≤ 90) = true := by simp; omega
    have HPP := Lib.hid (show pfB s = false by rw [HP.out]; exact decide_eq_false (fun e => hx58 e.1))
    obtain ⟨n, hn⟩ : ∃ n, n = letN (tb s) := ⟨_, rfl⟩
    have hnl := letN_le (tb s)
    rw [tb_len, ← hn] at hnl
    have hn1 : 1 ≤ n := by rw [hn, HT.out]; unfold letN; rw [List.takeWhile_cons, ho]; simp
    have HF := Lib.hid (show frontN (tb s) = ((if 32 < n then 0 else ofK 2 (s.extract 0 n)), (if 32 < n then 0 else n)) by
      rw [ofK_kind HT.out hn1 (k := 2) (by rw [if_pos h])]
      have hh := frontN_let ho (r := r)
      rw [← HT.out, ← hn] at hh
      rw [hh]
      by_cases h32 : 32 < n
      · rw [if_pos h32, if_pos h32, if_pos h32]
      · rw [if_neg h32, if_neg h32, if_neg h32])
    have hez : (s.extract 0 n).size = n := by simp; omega
    have hof := ofLetters_any (s.extract 0 n) 2 b w HM.out (by omega) (by omega) (by
      rw [tb_extract, List.drop_zero, Nat.sub_zero, hn]
      exact all_letN _)
    rw [hez] at hof
    have hls := lettersSize_any s w hs
    rw [← hn] at hls
    have hrp := run_pre s n hnl w
    have HOF := Lib.hid hof
    have HLS := Lib.hid hls
    clear hof hls hn hez
    clear h hx58 ho
    go_enter Tryz.func48, Tryz.ntmps48
    repeat (first | go_skip | go_guarded | go_step)
    refine (spre_any s w hs).mono ?_
    rintro e w1 ⟨rfl, rfl⟩
    rw [HPP.out]
    dsimp only
    repeat (first | go_skip | go_guarded | go_step)
    refine (HLS.out).mono ?_
    rintro e w1 ⟨rfl, rfl⟩
    dsimp only
    repeat (first | go_skip | go_guarded | go_step)
    refine (HOF.out).mono ?_
    rintro e w1 ⟨rfl, rfl⟩
    dsimp only
    repeat (first | go_skip | go_guarded | go_step)
    go_ret2
    exact ⟨by rw [HF.out]; rfl, rfl⟩
  · obtain ⟨hnc, n32, n9, n10, n13, n37, n40, n41, n44, n46, n58⟩ := h
    have hx58 : x ≠ 58 := by rintro rfl; exact n58 rfl
    have d32 : ((x.toNat : Int) == 32) = false := by simp; omega
    have d9 : ((x.toNat : Int) == 9) = false := by simp; omega
    have d10 : ((x.toNat : Int) == 10) = false := by simp; omega
    have d13 : ((x.toNat : Int) == 13) = false := by simp; omega
    have d37 : ((x.toNat : Int) == 37) = false := by simp; omega
    have d40 : ((x.toNat : Int) == 40) = false := by simp; omega
    have d41 : ((x.toNat : Int) == 41) = false := by simp; omega
    have d44 : ((x.toNat : Int) == 44) = false := by simp; omega
    have d46 : ((x.toNat : Int) == 46) = false := by simp; omega
    have HPP := Lib.hid (show pfB s = false by rw [HP.out]; exact decide_eq_false (fun e => hx58 e.1))
    cases ho : okB x with
    | true =>
      have HO := Lib.hid (show okB (s[0]'h0) = true by rw [hx]; exact ho)
      obtain ⟨n, hn⟩ : ∃ n, n = letN (tb s) := ⟨_, rfl⟩
      have hnl := letN_le (tb s)
      rw [tb_len, ← hn] at hnl
      have hn1 : 1 ≤ n := by rw [hn, HT.out]; unfold letN; rw [List.takeWhile_cons, ho]; simp
      have HF := Lib.hid (show frontN (tb s) = ((if 32 < n then 0 else ofK 1 (s.extract 0 n)), (if 32 < n then 0 else n)) by
        rw [ofK_kind HT.out hn1 (k := 1) (by rw [if_neg hnc])]
        have hh := frontN_let ho (r := r)
        rw [← HT.out, ← hn] at hh
        rw [hh]
        by_cases h32 : 32 < n
        · rw [if_pos h32, if_pos h32, if_pos h32]
        · rw [if_neg h32, if_neg h32, if_neg h32])
      have hez : (s.extract 0 n).size = n := by simp; omega
      have hof := ofLetters_any (s.extract 0 n) 1 b w HM.out (by omega) (by omega) (by
        rw [tb_extract, List.drop_zero, Nat.sub_zero, hn]
        exact all_letN _)
      rw [hez] at hof
      have hls := lettersSize_any s w hs
      rw [← hn] at hls
      have hrp := run_pre s n hnl w
      have HOF := Lib.hid hof
      have HLS := Lib.hid hls
      clear hof hls hn hez
      rcases (by omega : x.toNat < 65 ∨ 90 < x.toNat) with hc | hc
      · have l65 : decide ((65 : Int) ≤ (x.toNat : Int)) = false := by simp; omega
        clear hnc n32 n9 n10 n13 n37 n40 n41 n44 n46 n58 hx58 ho hc
        go_enter Tryz.func48, Tryz.ntmps48
        repeat (first | go_skip | go_guarded | go_step)
        refine (spre_any s w hs).mono ?_
        rintro e w1 ⟨rfl, rfl⟩
        rw [HPP.out]
        dsimp only
        repeat (first | go_skip | go_guarded | go_step)
        refine (isLetter_any s 0 w hs h0).mono ?_
        rintro e w1 ⟨rfl, rfl⟩
        rw [HO.out]
        dsimp only
        repeat (first | go_skip | go_guarded | go_step)
        refine (HLS.out).mono ?_
        rintro e w1 ⟨rfl, rfl⟩
        dsimp only
        repeat (first | go_skip | go_guarded | go_step)
        refine (HOF.out).mono ?_
        rintro e w1 ⟨rfl, rfl⟩
        dsimp only
        repeat (first | go_skip | go_guarded | go_step)
        go_ret2
        exact ⟨by rw [HF.out]; rfl, rfl⟩
      · have l65 : decide ((65 : Int) ≤ (x.toNat : Int)) = true := by simp; omega
        have l90 : decide ((x.toNat : Int) ≤ 90) = false := by simp; omega
        clear hnc n32 n9 n10 n13 n37 n40 n41 n44 n46 n58 hx58 ho hc
        go_enter Tryz.func48, Tryz.ntmps48
        repeat (first | go_skip | go_guarded | go_step)
        refine (spre_any s w hs).mono ?_
        rintro e w1 ⟨rfl, rfl⟩
        rw [HPP.out]
        dsimp only
        repeat (first | go_skip | go_guarded | go_step)
        refine (isLetter_any s 0 w hs h0).mono ?_
        rintro e w1 ⟨rfl, rfl⟩
        rw [HO.out]
        dsimp only
        repeat (first | go_skip | go_guarded | go_step)
        refine (HLS.out).mono ?_
        rintro e w1 ⟨rfl, rfl⟩
        dsimp only
        repeat (first | go_skip | go_guarded | go_step)
        refine (HOF.out).mono ?_
        rintro e w1 ⟨rfl, rfl⟩
        dsimp only
        repeat (first | go_skip | go_guarded | go_step)
        go_ret2
        exact ⟨by rw [HF.out]; rfl, rfl⟩
    | false =>
      have HO := Lib.hid (show okB (s[0]'h0) = false by rw [hx]; exact ho)
      have HF := Lib.hid (show frontN (tb s) = (0, 0) by
        rw [HT.out]
        have nn : ∀ c : UInt8, x.toNat ≠ c.toNat → x ≠ c := fun c h e => h (by rw [e])
        refine front_not ?_ (nn 37 n37) (markN_none (nn 40 n40) (nn 41 n41) (nn 44 n44) (nn 46 n46) (fun e => hx58 e.1)) ho
        unfold isBl
        rw [beq_false_of_ne (nn 32 n32), beq_false_of_ne (nn 9 n9), beq_false_of_ne (nn 10 n10), beq_false_of_ne (nn 13 n13)]
        rfl)
      rcases (by omega : x.toNat < 65 ∨ 90 < x.toNat) with hc | hc
      · have l65 : decide ((65 : Int) ≤ (x.toNat : Int)) = false := by simp; omega
        clear hnc n32 n9 n10 n13 n37 n40 n41 n44 n46 n58 hx58 ho hc
        go_enter Tryz.func48, Tryz.ntmps48
        repeat (first | go_skip | go_guarded | go_step)
        refine (spre_any s w hs).mono ?_
        rintro e w1 ⟨rfl, rfl⟩
        rw [HPP.out]
        dsimp only
        repeat (first | go_skip | go_guarded | go_step)
        refine (isLetter_any s 0 w hs h0).mono ?_
        rintro e w1 ⟨rfl, rfl⟩
        rw [HO.out]
        dsimp only
        repeat (first | go_skip | go_guarded | go_step)
        go_ret2
        exact ⟨by rw [HF.out]; rfl, rfl⟩
      · have l65 : decide ((65 : Int) ≤ (x.toNat : Int)) = true := by simp; omega
        have l90 : decide ((x.toNat : Int) ≤ 90) = false := by simp; omega
        clear hnc n32 n9 n10 n13 n37 n40 n41 n44 n46 n58 hx58 ho hc
        go_enter Tryz.func48, Tryz.ntmps48
        repeat (first | go_skip | go_guarded | go_step)
        refine (spre_any s w hs).mono ?_
        rintro e w1 ⟨rfl, rfl⟩
        rw [HPP.out]
        dsimp only
        repeat (first | go_skip | go_guarded | go_step)
        refine (isLetter_any s 0 w hs h0).mono ?_
        rintro e w1 ⟨rfl, rfl⟩
        rw [HO.out]
        dsimp only
        repeat (first | go_skip | go_guarded | go_step)
        go_ret2
        exact ⟨by rw [HF.out]; rfl, rfl⟩
theorem lWdInfo : (Tryz.prog.info? 72).map (fun i => (i.zero, i.size, i.bytes)) = some (some (.agg #[.int .u8 0, .string ⟨#[]⟩, .int .i64 0]), 3, 32) := by kernel_rfl
/-- 'l = append(l, word)', over the program's words. -/
theorem appLV {ops : Array Oper} {rest : List Oper} {o : Oper} {a : Act} {Q : Exit → Act → World → Prop} (w : World) (hgd : o.guard = none) (p x : Operand)
    (ho : o.op = .call { callee := .builtin .append, args := #[p, x], argTypes := #[68, 68] })
    (base : Nat) (A0 : Option Addr) (c0 n : Nat) (l : List Wd) (hv : a.eval p = .slice A0 n c0) (hown : OwV 72 w base A0 c0 n l)
    (B : Nat) (A : Option Addr) (m c : Nat) (news : List Wd) (hx : a.eval x = .slice A m c) (hr : RdV w B A m news) (hb : n + m ≤ 1000000000) (hbase : base ≤ w.heap.size)
    (h : ∀ A' c' w', OwV 72 w' base A' c' (n + m) (l ++ news) → Below base w w' → wpList Tryz.prog ops Q rest (a.put o.dst (.slice A' (n + m) c')) w') : wpList Tryz.prog ops Q (o :: rest) a w := by
  obtain ⟨i0, hi, hz0, hz1, hz2⟩ := info_parts lWdInfo
  refine wpList_app w hgd p x 68 ho base 72 i0 _ 3 32 Tryz.underlying68 hi hz0 hz1 hz2 rfl (by decide) _ n _ hv hown B A m c _ hx hr (wdC_one news) (by simp only [maxLen]; omega) (by omega) hbase ?_
  intro A' c' w' e1 e2 e3
  exact h A' c' w' (by show World.ownsRow _ _ _ _ _ _ _; rw [List.flatMap_append]; exact e1) (belowApp (Below.refl _ _) hown e2 hbase)
theorem run_litLV (k : Nat) (t : List UInt8) (p : Nat) (w : World) : (Instr.buildSlice 68 1 #[(0, .agg #[.int .u8 (k : Int), strV t, .int .i64 (p : Int)])]).run Tryz.prog w = .ok (.slice (some ⟨w.heap.size, 0, none⟩) 1 1) (w.alloc (.cells (wdC (k, t, p)).toArray 72)) := by
  obtain ⟨i0, hi, hz0, hz1, hz2⟩ := info_parts lWdInfo
  simp [Instr.buildSlice, run_underlying Tryz.underlying68, sizeOf, typeInfo, zeroValue, hi, hz0, hz1, newRow, Instr.fill]
  kernel_rfl
/-- The rest of a text. -/
theorem run_rest (s : ByteArray) (a : Nat) (ha : a ≤ s.size) (w : World) :
    (Instr.slice 9 (sv s) (some (.int .i64 (a : Int))) none none).run Tryz.prog w = .ok (sv (s.extract a s.size)) w := by
  have d1 : decide ((a : Int) ≤ (s.size : Int)) = true := by simp; omega
  go_simp
theorem tb_rest (s : ByteArray) (a : Nat) : tb (s.extract a s.size) = (tb s).drop a := by
  rw [tb_extract, List.take_of_length_le (by rw [List.length_drop, tb_len]; omega)]
set_option maxRecDepth 100000 in
set_option maxHeartbeats 8000000 in
theorem words_any (s : ByteArray) (w : World) (hs : s.size ≤ 1099511627776) :
    Calls Tryz.prog 29 #[sv s] w fun e w' => ∃ (A : Option Addr) (m c : Nat) (ws : List Wd) (y z : Nat), e = .returned (.tuple #[.slice A m c, .int .i64 (y : Int), .int .i64 (z : Int)]) ∧ OwV 72 w' w.heap.size A c m ws ∧ Below w.heap.size w w' ∧ (ws, y, z) = wordsL (tb s) := by
  have hlen := tb_len s
  by_cases hbig : 65536 < s.size
  · have hd : decide ((65536 : Int) < (s.size : Int)) = true := by simp; omega
    have HA := Lib.hid (show wordsL (tb s) = ([], 0, 6) by unfold wordsL; rw [if_pos (by omega)])
    clear hlen
    go_enter Tryz.func29, Tryz.ntmps29
    repeat (first | go_skip | go_guarded | go_step)
    go_ret3
    exact ⟨none, 0, 0, [], 0, 6, rfl, World.ownsRow_nil _ _ _ _, Below.refl _ _, HA.out.symm⟩
  · have hd : decide ((65536 : Int) < (s.size : Int)) = false := by simp; omega
    have HA := Lib.hid (show (tb s).length ≤ 65536 by omega)
    clear hlen
    go_enter Tryz.func29, Tryz.ntmps29
    repeat (first | go_skip | go_guarded | go_step)
    refine (meanings_any w).mono ?_
    rintro e w1 ⟨b, rfl, hbb, hm1, hb1⟩
    have HM1 := Lib.hid hm1
    have HB1 := Lib.hid hb1
    clear hm1 hb1
    dsimp only
    repeat (first | go_skip | go_guarded | go_step)
    go_loopw [2, 3] (fun o' p' wr => ∃ (a : Nat) (A : Option Addr) (c m : Nat) (ws : List Wd), a ≤ s.size ∧ p' = .int .i64 (a : Int) ∧ o' = .slice A m c ∧ OwV 72 wr w1.heap.size A c m ws ∧ Below w1.heap.size w1 wr ∧ m ≤ a ∧ lexG 0 (tb s) = (ws ++ (lexG a ((tb s).drop a)).1, (lexG a ((tb s).drop a)).2)) (fun _ p _ => s.size - (intOf p).toNat)
    case atStart => exact ⟨0, none, 0, 0, [], Nat.zero_le _, rfl, rfl, World.ownsRow_nil _ _ _ _, Below.refl _ _, Nat.zero_le _, by rw [List.drop_zero]; rfl⟩
    case round =>
      obtain ⟨a, A, c, m, ws, ha, rfl, rfl, ho, hbw, hma, hlx⟩ := hrel
      have hmw : ws.length = m := rdV_len (OwV.rd ho)
      have HO := Lib.hid ho
      have HB := Lib.hid hbw
      have HLX := Lib.hid hlx
      have HMW := Lib.hid hmw
      clear ho hbw hlx hmw
      by_cases hlt : a < s.size
      · have hci : (a : Int) < (s.size : Int) := by omega
        have hne : (tb s).drop a ≠ [] := by rw [tb_at hlt]; simp
        have HNE := Lib.hid hne
        have hmb : m ≤ 70000 := by omega
        have hez : (s.extract a s.size).size = s.size - a := by simp
        have hfi := first_any (s.extract a s.size) b wr (HM1.out.below HB.out (HM1.out.lt)) (by omega) (by omega)
        rw [tb_rest] at hfi
        obtain ⟨k, n, hkn⟩ : ∃ k n, frontN ((tb s).drop a) = (k, n) := ⟨_, _, rfl⟩
        rw [hkn] at hfi
        dsimp only at hfi
        have HFI := Lib.hid hfi
        have hst := front_step a hkn hne
        rw [List.length_drop, tb_len] at hst
        have hrs := run_rest s a ha wr
        clear hne hfi hkn hez
        rcases hst with ⟨rfl, hl⟩ | ⟨rfl, hn1, hn2, hl⟩ | ⟨hk1, hk2, hn1, hn2, hl⟩
        · have HAN := Lib.hid (show lexG 0 (tb s) = (ws, some a) by rw [HLX.out, hl]; simp)
          clear hl
          repeat (first | go_skip | go_guarded | go_step)
          refine HFI.out.mono ?_
          rintro e wv ⟨rfl, rfl⟩
          dsimp only
          repeat (first | go_skip | go_guarded | go_step)
          go_ret3
          exact ⟨none, 0, 0, [], a, 5, rfl, World.ownsRow_nil _ _ _ _, HB1.out.trans (HB.out.mono HB1.out.size), (wordsL_bad HA.out HAN.out).symm⟩
        · have HL := Lib.hid hl
          clear hl
          repeat (first | go_skip | go_guarded | go_step)
          refine HFI.out.mono ?_
          rintro e wv ⟨rfl, rfl⟩
          dsimp only
          repeat (first | go_skip | go_guarded | go_step)
          go_roundw
          case rel => exact ⟨a + n, A, c, m, ws, by omega, by go_num, rfl, HO.out, HB.out, by omega, by rw [HLX.out, HL.out, List.drop_drop]⟩
          case measure => simp [intOf] <;> omega
        · have HL := Lib.hid hl
          have dk0 : ((k : Int) == 0) = false := by rw [beq_eq_false_iff_ne]; omega
          have dk10 : ((k : Int) != 10) = true := by rw [bne_iff_ne]; omega
          obtain ⟨t, ht⟩ : ∃ t, t = ((tb s).drop a).take n := ⟨_, rfl⟩
          have htl : t.length ≤ 65536 := by rw [ht, List.length_take]; omega
          have hpt := run_part s a (a + n) (a : Int) ((a : Int) + (n : Int)) rfl (by omega) (by omega) (by omega) wr
          rw [sv_part s a n, ← ht] at hpt
          have HCL := Lib.hid (sclone_any ⟨t.toArray⟩ wr (by simp [ByteArray.size]; omega))
          have HTX := Lib.hid ht
          clear hl ht
          repeat (first | go_skip | go_guarded | go_step)
          refine HFI.out.mono ?_
          rintro e wv ⟨rfl, rfl⟩
          dsimp only
          repeat (first | go_skip | go_guarded | go_step)
          refine HCL.out.mono ?_
          rintro e wv ⟨rfl, hb2⟩
          have HOV := Lib.hid (ownBelow HO.out hb2 (Nat.le_refl _))
          have HBV := Lib.hid (HB.out.trans (hb2.mono HB.out.size))
          clear hb2 HO HB hpt hrs HCL
          dsimp only
          have hsz : w1.heap.size ≤ wv.heap.size := HBV.out.size
          have hlit := run_litLV k t a wv
          have HRD := Lib.hid (show RdV (wv.alloc (.cells #[.int .u8 (k : Int), strV t, .int .i64 (a : Int)] 72)) (wv.heap.size + 1) (some ⟨wv.heap.size, 0, none⟩) 1 [(k, t, a)] from bk_rdV (Bk.new wv _ (wdC (k, t, a))))
          have HOA := Lib.hid (World.ownsRow.alloc HOV.out (.cells #[.int .u8 (k : Int), strV t, .int .i64 (a : Int)] 72))
          repeat (first
            | (at_builtin; refine appLV _ rfl (.tmp 29) (.tmp 40) rfl w1.heap.size A c m ws rfl HOA.out _ _ 1 1 [(k, t, a)] rfl HRD.out (by omega) (by simp; omega) ?_
               intro A6 c6 V6 ho6 hb6
               have HO6 := Lib.hid ho6
               have HB6 := Lib.hid (HBV.out.trans (((Below.refl w1.heap.size wv).alloc hsz (.cells #[.int .u8 (k : Int), strV t, .int .i64 (a : Int)] 72)).trans hb6))
               clear hlit ho6 hb6)
            | go_skip | go_guarded | go_step)
          go_roundw
          case rel => exact ⟨a + n, A6, c6, m + 1, ws ++ [(k, t, a)], by omega, by go_num, rfl, HO6.out, HB6.out, by omega, by rw [HLX.out, HL.out, List.drop_drop, ← HTX.out]; simp [List.append_assoc]⟩
          case measure => simp [intOf] <;> omega
      · obtain rfl : a = s.size := by omega
        have HAN := Lib.hid (show lexG 0 (tb s) = (ws, none) by
          rw [HLX.out, List.drop_of_length_le (by rw [tb_len]; omega), lexG_end rfl]
          simp)
        repeat (first | go_skip | go_guarded | go_step)
        go_ret3
        exact ⟨A, m, c, ws, 0, 0, rfl, ownBase HO.out HB1.out.size, HB1.out.trans (HB.out.mono HB1.out.size), (wordsL_ok HA.out HAN.out).symm⟩
end Go.Proofs.YtoigpbajefkpoaaGreatDoor

