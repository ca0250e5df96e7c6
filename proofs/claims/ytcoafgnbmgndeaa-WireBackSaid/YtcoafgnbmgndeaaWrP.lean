/- Layer 6 (wire): what is asked of the program's functions; the statements' own functions. -/
import Derived.Test.YtcoafgnbmgndeaaWrY
set_option linter.unusedVariables false
set_option linter.unusedSimpArgs false
namespace Go.Proofs.Ytcoafgnbmgndeaa
open Go Go.RowKit

def PutFactOk : Prop := ∀ (A : Option Addr) (n c : Nat) (bs : List UInt8) (p : UInt32) (A1 : Option Addr) (n1 c1 : Nat) (l : List UInt32) (w : World), Rd w w.heap.size 1 A n (bs.map bv) → n ≤ c → n ≤ 1000000 → RdU w w.heap.size A1 n1 l → n1 ≤ c1 → n1 ≤ 1000 →
  Calls Try.prog 11 #[.slice A n c, .agg #[nv p, .slice A1 n1 c1]] w fun e w' => ∃ (A' : Option Addr) (m c' : Nat) (z : Int) (bs' : List UInt8), e = .returned (.tuple #[.slice A' m c', .int .i64 z]) ∧ Ow w' w.heap.size A' c' m bs' ∧ Below w.heap.size w w' ∧ ((mayF (p, l) = true ∧ z = 0 ∧ bs' = bs ++ factB (p, l)) ∨ (mayF (p, l) = false ∧ z = 8 ∧ bs' = []))
def PutClauseOk : Prop := ∀ (A : Option Addr) (n c : Nat) (bs : List UInt8) (p : UInt32) (A1 : Option Addr) (n1 c1 : Nat) (l : List Tm) (A2 : Option Addr) (n2 c2 : Nat) (R : List SlA) (L : List Li) (w : World), Rd w w.heap.size 1 A n (bs.map bv) → n ≤ c → n ≤ 1000000 → RdT w w.heap.size A1 n1 l → RdL w w.heap.size A2 n2 R L → n1 ≤ c1 → n2 ≤ c2 → n1 ≤ 1000 → n2 ≤ 1000 → (∀ x ∈ L, x.2.2.length ≤ 1000) →
  Calls Try.prog 19 #[.slice A n c, .agg #[nv p, .slice A1 n1 c1, .slice A2 n2 c2]] w fun e w' => ∃ (A' : Option Addr) (m c' : Nat) (z : Int) (bs' : List UInt8), e = .returned (.tuple #[.slice A' m c', .int .i64 z]) ∧ Ow w' w.heap.size A' c' m bs' ∧ Below w.heap.size w w' ∧ ((mayC ((p, l), L) = true ∧ z = 0 ∧ bs' = bs ++ clauseB ((p, l), L)) ∨ (mayC ((p, l), L) = false ∧ z = 8 ∧ bs' = []))
def PutRuleOk : Prop := ∀ (A : Option Addr) (n c : Nat) (bs : List UInt8) (s0 : Bool) (x0 : Tm) (p : UInt32) (A1 : Option Addr) (n1 c1 : Nat) (l : List Tm) (A2 : Option Addr) (n2 c2 : Nat) (R : List SlA) (L : List Co) (w : World), Rd w w.heap.size 1 A n (bs.map bv) → n ≤ c → n ≤ 1000000 → RdT w w.heap.size A1 n1 l → RdK w w.heap.size A2 n2 R L → n1 ≤ c1 → n2 ≤ c2 → n1 ≤ 1000 → n2 ≤ 1000 → (∀ x ∈ L, x.2.2.2.2.length ≤ 1000) →
  Calls Try.prog 26 #[.slice A n c, .agg #[.bool s0, .bool x0.1, nv x0.2, nv p, .slice A1 n1 c1, .slice A2 n2 c2]] w fun e w' => ∃ (A' : Option Addr) (m c' : Nat) (z : Int) (bs' : List UInt8), e = .returned (.tuple #[.slice A' m c', .int .i64 z]) ∧ Ow w' w.heap.size A' c' m bs' ∧ Below w.heap.size w w' ∧ ((mayR ((s0, x0, (p, l)), L) = true ∧ z = 0 ∧ bs' = bs ++ ruleB ((s0, x0, (p, l)), L)) ∨ (mayR ((s0, x0, (p, l)), L) = false ∧ z = 8 ∧ bs' = []))
def TakeFactOk : Prop := ∀ (A : Option Addr) (n c : Nat) (t : Int) (bs : List UInt8) (w : World), Rd w w.heap.size 1 A n (bs.map bv) → n ≤ c → n ≤ 1000000 → -9223372036854775808 ≤ t → t ≤ 9223372036854775807 →
  Calls Try.prog 15 #[.slice A n c, .int .i64 t] w fun e w' => ∃ (p : UInt32) (A1 : Option Addr) (n1 c1 : Nat) (l : List UInt32) (y z : Nat), e = .returned (.tuple #[.agg #[nv p, .slice A1 n1 c1], .int .i64 (y : Int), .int .i64 (z : Int)]) ∧ RdU w' w'.heap.size A1 n1 l ∧ n1 ≤ c1 ∧ n1 ≤ 6 ∧ Below w.heap.size w w' ∧ ((p, l), y, z) = takeAns rFact zF bs t
def TakeClauseOk : Prop := ∀ (A : Option Addr) (n c : Nat) (t : Int) (bs : List UInt8) (w : World), Rd w w.heap.size 1 A n (bs.map bv) → n ≤ c → n ≤ 1000000 → -9223372036854775808 ≤ t → t ≤ 9223372036854775807 →
  Calls Try.prog 22 #[.slice A n c, .int .i64 t] w fun e w' => ∃ (p : UInt32) (A1 : Option Addr) (n1 c1 : Nat) (l : List Tm) (A2 : Option Addr) (n2 c2 : Nat) (R : List SlA) (L : List Li) (y z : Nat), e = .returned (.tuple #[.agg #[nv p, .slice A1 n1 c1, .slice A2 n2 c2], .int .i64 (y : Int), .int .i64 (z : Int)]) ∧ RdT w' w'.heap.size A1 n1 l ∧ RdL w' w'.heap.size A2 n2 R L ∧ n1 ≤ c1 ∧ n2 ≤ c2 ∧ n1 ≤ 6 ∧ n2 ≤ 8 ∧ (∀ x ∈ L, x.2.2.length ≤ 6) ∧ Below w.heap.size w w' ∧ (((p, l), L), y, z) = takeAns rClause zC bs t
def TakeRuleOk : Prop := ∀ (A : Option Addr) (n c : Nat) (t : Int) (bs : List UInt8) (w : World), Rd w w.heap.size 1 A n (bs.map bv) → n ≤ c → n ≤ 1000000 → -9223372036854775808 ≤ t → t ≤ 9223372036854775807 →
  Calls Try.prog 30 #[.slice A n c, .int .i64 t] w fun e w' => ∃ (s0 : Bool) (x0 : Tm) (p : UInt32) (A1 : Option Addr) (n1 c1 : Nat) (l : List Tm) (A2 : Option Addr) (n2 c2 : Nat) (R : List SlA) (L : List Co) (y z : Nat), e = .returned (.tuple #[.agg #[.bool s0, .bool x0.1, nv x0.2, nv p, .slice A1 n1 c1, .slice A2 n2 c2], .int .i64 (y : Int), .int .i64 (z : Int)]) ∧ RdT w' w'.heap.size A1 n1 l ∧ RdK w' w'.heap.size A2 n2 R L ∧ n1 ≤ c1 ∧ n2 ≤ c2 ∧ n1 ≤ 6 ∧ n2 ≤ 8 ∧ (∀ x ∈ L, x.2.2.2.2.length ≤ 6) ∧ Below w.heap.size w w' ∧ (((s0, x0, (p, l)), L), y, z) = takeAns rRule zR bs t
def MayRuleOk : Prop := ∀ (s0 : Bool) (x0 : Tm) (p : UInt32) (A1 : Option Addr) (n1 c1 : Nat) (l : List Tm) (A2 : Option Addr) (n2 c2 : Nat) (R : List SlA) (L : List Co) (w : World), RdT w w.heap.size A1 n1 l → RdK w w.heap.size A2 n2 R L → n1 ≤ c1 → n2 ≤ c2 → n1 ≤ 1000 → n2 ≤ 1000 → (∀ x ∈ L, x.2.2.2.2.length ≤ 1000) →
  Calls Try.prog 27 #[.agg #[.bool s0, .bool x0.1, nv x0.2, nv p, .slice A1 n1 c1, .slice A2 n2 c2]] w fun e w' => e = .returned (.bool (mayR ((s0, x0, (p, l)), L))) ∧ Below w.heap.size w w'
/-- All of it. -/
structure WireOk : Prop where
  putFact : PutFactOk
  putClause : PutClauseOk
  putRule : PutRuleOk
  takeFact : TakeFactOk
  takeClause : TakeClauseOk
  takeRule : TakeRuleOk
  mayRule : MayRuleOk

/-! ### The statements' own functions -/
theorem vastW_any (A : Option Addr) (n c : Nat) (w : World) : Calls Try.prog 8 #[.slice A n c] w fun e w' => e = .returned (.bool (decide (4096 < n))) ∧ w = w' := by
  have hd : decide ((4096 : Int) < (n : Int)) = decide (4096 < n) := by
    rw [Bool.eq_iff_iff, decide_eq_true_iff, decide_eq_true_iff]
    omega
  go_enter Try.func8, Try.ntmps8
  repeat (first | go_skip | go_guarded | go_step)
  go_ret
  exact ⟨rfl, rfl⟩
/-- What 'roomy' leaves: the bytes, and six hundred zeros. -/
def roomW (bs : List UInt8) : List Value := bs.map bv ++ List.replicate 600 (.int .u8 0)
theorem roomW_len (bs : List UInt8) : (roomW bs).length = bs.length + 600 := by
  unfold roomW
  rw [List.length_append, List.length_map, List.length_replicate]

set_option maxRecDepth 100000 in
set_option maxHeartbeats 4000000 in
theorem roomyW_any (A : Option Addr) (n c : Nat) (bs : List UInt8) (w : World) (hr : Rd w w.heap.size 1 A n (bs.map bv)) (hb : n ≤ 4096) :
    Calls Try.prog 10 #[.slice A n c] w fun e w' => e = .returned (.slice (some ⟨w.heap.size, 0, none⟩) n (n + 600)) ∧ Bk w' w.heap.size 5 (roomW bs) ∧ Below w.heap.size w w' := by
  obtain ⟨i0, hi, hz0, hz1, hz2⟩ := info_parts u8info
  have hl : bs.length = n := by simpa using hr.len1
  have HL := Lib.hid hl
  clear hl
  go_enter Try.func10, Try.ntmps10
  go_wp2_with (first
    | (at_make; refine wpList_make_bk _ rfl _ _ 22 rfl 5 i0 (.int .u8 0) Try.underlying22 hi hz0 hz1 rfl _ _ _ _ 0 (n + 600) rfl rfl rfl (by omega) (by omega) (by rw [hz2]; omega) (by simp only [maxLen]; omega) ?_; intro w1 hB1 hb1 hs1)
    | (at_builtin; refine wpList_app_bk _ rfl _ _ 22 rfl 5 i0 Try.underlying22 hi hz1 w.heap.size 0 (n + 600) _ rfl hB1 (by simp) w.heap.size A n c (bs.map bv) rfl (hr.below hb1) (bv_one bs) (by omega) ?_; intro w2 hB2 hg2 hs2))
  go_ret
  refine ⟨by simp, ?_, hb1.grown hg2 (by omega) (fun k hk => by cases hk; exact Nat.le_refl _)⟩
  have e : List.take 0 (List.replicate (n + 600) (Value.int .u8 0)) ++ bs.map bv ++ List.drop (0 + n) (List.replicate (n + 600) (.int .u8 0)) = roomW bs := by
    unfold roomW
    rw [List.take_zero, List.nil_append, List.drop_replicate, show n + 600 - (0 + n) = 600 from by omega]
  rw [← e]
  exact hB2

set_option maxRecDepth 100000 in
set_option maxHeartbeats 4000000 in
theorem keptW_any (g : Nat) (A : Option Addr) (n c B : Nat) (bs : List UInt8) (w : World) (hg : Bk w g 5 (roomW bs)) (hr : Rd w B 1 A n (bs.map bv)) (hb : n ≤ 4096) :
    Calls Try.prog 12 #[.slice (some ⟨g, 0, none⟩) n (n + 600), .slice A n c] w fun e w' => e = .returned (.bool true) ∧ w = w' := by
  have hl : bs.length = n := by simpa using hr.len1
  have hro : Rd w w.heap.size 1 (some ⟨g, 0, none⟩) n (bs.map bv) := by
    have := hg.rd n (by rw [roomW_len]; omega)
    have e : (roomW bs).take n = bs.map bv := by
      unfold roomW
      rw [List.take_append_of_le_length (by simp; omega), List.take_of_length_le (by simp; omega)]
    rwa [e] at this
  have hcell : ∀ i, n ≤ i → i < n + 600 → w.cell? ⟨g, i, none⟩ = some (.int .u8 0) := by
    intro i h1 h2
    rw [hg.cell]
    unfold roomW
    rw [List.getElem?_append_right (by simp; omega), List.getElem?_replicate, if_pos (by simp; omega)]
  have k1 := run_conv_str (P := Try.prog) w 22 9 5 Try.underlying22 Try.underlying5 Try.underlying9 _ _ n (n + 600) bs hro
  have k2 := run_conv_str (P := Try.prog) w 22 9 5 Try.underlying22 Try.underlying5 Try.underlying9 B A n c bs hr
  have HC := Lib.hid hcell
  have HL := Lib.hid hl
  clear hcell hl
  go_enter Try.func12, Try.ntmps12
  go_wp2
  go_loop [6] (fun q => ∃ (i : Nat), q = .int .i64 (i : Int) ∧ n ≤ i ∧ i ≤ n + 600) (fun q => n + 600 - (intOf q).toNat)
  case atStart => exact ⟨n, rfl, by omega, by omega⟩
  case round =>
    obtain ⟨i, rfl, h1, h2⟩ := hrel
    by_cases hlt : i < n + 600
    · have hc := HC.out i h1 hlt
      go_wp2
      exact ⟨⟨i + 1, by go_num, by omega, by omega⟩, by simp [intOf]; omega⟩
    · obtain rfl : i = n + 600 := by omega
      go_wp2
      go_ret
      exact ⟨rfl, rfl⟩
theorem run_litU2 (t0 t1 : UInt32) (w : World) : (Instr.buildSlice 24 2 #[(0, nv t0), (1, nv t1)]).run Try.prog w = .ok (.slice (some ⟨w.heap.size, 0, none⟩) 2 2) (w.alloc (.cells ([t0, t1].map nv).toArray 23)) := by
  obtain ⟨i0, hi, hz0, hz1, hz2⟩ := info_parts u32Info
  simp [Instr.buildSlice, run_underlying Try.underlying24, sizeOf, typeInfo, zeroValue, hi, hz0, hz1, newRow, Instr.fill]
  kernel_rfl
theorem run_litT2 (t0 t1 : Tm) (w : World) : (Instr.buildSlice 40 2 #[(0, tmW t0), (1, tmW t1)]).run Try.prog w = .ok (.slice (some ⟨w.heap.size, 0, none⟩) 2 2) (w.alloc (.cells (tmCs [t0, t1]).toArray 54)) := by
  obtain ⟨i0, hi, hz0, hz1, hz2⟩ := info_parts termInfo
  simp [Instr.buildSlice, run_underlying Try.underlying40, sizeOf, typeInfo, zeroValue, hi, hz0, hz1, newRow, Instr.fill]
  kernel_rfl
theorem run_litB2 (a b : UInt8) (w : World) : (Instr.buildSlice 22 2 #[(0, bv a), (1, bv b)]).run Try.prog w = .ok (.slice (some ⟨w.heap.size, 0, none⟩) 2 2) (w.alloc (.cells ([a, b].map bv).toArray 5)) := by
  obtain ⟨i0, hi, hz0, hz1, hz2⟩ := info_parts u8info
  simp [Instr.buildSlice, run_underlying Try.underlying22, sizeOf, typeInfo, zeroValue, hi, hz0, hz1, newRow, Instr.fill]
  kernel_rfl
theorem run_litB3 (a b c : UInt8) (w : World) : (Instr.buildSlice 22 3 #[(0, bv a), (1, bv b), (2, bv c)]).run Try.prog w = .ok (.slice (some ⟨w.heap.size, 0, none⟩) 3 3) (w.alloc (.cells ([a, b, c].map bv).toArray 5)) := by
  obtain ⟨i0, hi, hz0, hz1, hz2⟩ := info_parts u8info
  simp [Instr.buildSlice, run_underlying Try.underlying22, sizeOf, typeInfo, zeroValue, hi, hz0, hz1, newRow, Instr.fill]
  kernel_rfl
theorem litB_rd (w : World) (l : List UInt8) (n : Nat) (hn : l.length = n) : Rd (w.alloc (.cells (l.map bv).toArray 5)) (w.heap.size + 1) 1 (some ⟨w.heap.size, 0, none⟩) n (l.map bv) := by
  have hb := Bk.new w 5 (l.map bv)
  refine ⟨by simp [hn], fun _ => ⟨w.heap.size, 0, rfl, by omega, fun j u hu => ?_⟩⟩
  rw [Nat.zero_add, hb.cell]
  exact hu
abbrev X0 : Tm := (true, 0)
abbrev S5 : Tm := (false, 5)
end Go.Proofs.Ytcoafgnbmgndeaa
