/- Layer 6 (wire): slices.Grow of no slice, slices.Concat of two byte strings. -/
import Derived.Test.YtcoafgnbmgndeaaWqP
import Derived.Test.YtcoafgnbmgndeaaHmZ
set_option linter.unusedVariables false
set_option linter.unusedSimpArgs false
namespace Go.Proofs.Ytcoafgnbmgndeaa
open Go Go.RowKit

theorem wpList_run_app {P : Program} {ops : Array Oper} {rest : List Oper} {o : Oper} {a : Act} {Q : Exit → Act → World → Prop} (w : World) (hgd : o.guard = none) (p x : Operand) (t1 t2 : TypeId)
    (ho : o.op = .call { callee := .builtin .append, args := #[p, x], argTypes := #[t1, t2] }) (v1 v2 v : Value) (w' : World) (hv : a.eval p = v1) (hx : a.eval x = v2)
    (hrun : (Builtin.append_ #[t1, t2] o.type #[v1, v2]).run P w = .ok v w') (h : wpList P ops Q rest (a.put o.dst v) w') : wpList P ops Q (o :: rest) a w := by
  refine wpList_plain hgd fun K hK => ?_
  unfold Oper.wp execOp
  simp only [ho, resolve, invoke, builtin, Sem.run_bind, Sem.run_pure, Result.andThen_ok, List.map_toArray, List.map_cons, List.map_nil, hv, hx, hrun]
  exact hK _ _ h

set_option maxRecDepth 100000 in
set_option maxHeartbeats 4000000 in
theorem grow_any (N : Nat) (w : World) (h1 : 1 ≤ N) (h2 : N ≤ 1000000000) :
    Calls Try.prog 90 #[.slice none 0 0, .int .i64 (N : Int)] w fun e w' => ∃ A' c', e = .returned (.slice A' 0 c') ∧ Ow w' w.heap.size A' c' 0 [] ∧ Below w.heap.size w w' := by
  have hz : ∀ ty : TypeId, ∃ g cap w', (Builtin.append_ #[22, 3] ty #[.slice none 0 0, .int .i64 (N : Int)]).run Try.prog w = .ok (.slice (some ⟨g, 0, none⟩) N cap) w' ∧ Ow w' w.heap.size (some ⟨g, 0, none⟩) cap 0 [] ∧ Below w.heap.size w w' := by
    intro ty
    obtain ⟨A', c', w', hrun, ho, hb⟩ := zeros8 w ty w.heap.size none 0 0 [] (owNil _ _) N (by omega) (Nat.le_refl _)
    rw [Nat.zero_add] at hrun ho
    unfold Ow at ho
    obtain ⟨hlen, ⟨h0, _⟩ | ⟨g, cap, cur, hv, hbg, hg, hnc, hcm, hcs, htake⟩⟩ := ho
    · simp only [Value.slice.injEq] at h0
      omega
    · simp only [Value.slice.injEq] at hv
      obtain ⟨rfl, _, rfl⟩ := hv
      exact ⟨g, c', w', hrun, ⟨by simp, .inr ⟨g, c', cur, rfl, hbg, hg, Nat.zero_le _, hcm, hcs, by simp⟩⟩, hb⟩
  obtain ⟨g, cap, w', hrun, ho, hb⟩ := hz 22
  have HO := Lib.hid ho
  have HB := Lib.hid hb
  have HRUN := Lib.hid hrun
  have hp : (0 : Int) < (N : Int) := by omega
  have hnn : ¬ ((N : Int) < 0) := by omega
  have hd : decide ((0 : Int) < (N : Int)) = true := by simp; omega
  clear hz ho hb hrun
  go_enter Try.func90, Try.ntmps90
  repeat (first | (at_builtin; refine wpList_run_app w rfl (.tmp 20) (.tmp 21) _ _ rfl _ _ _ w' rfl rfl HRUN.out ?_) | go_skip | go_guarded | go_step)
  go_ret
  exact ⟨_, cap, rfl, HO.out, HB.out⟩

/-- What stands behind i of two byte strings. -/
def ccB (bs x : List UInt8) (i : Nat) : List UInt8 := if i = 0 then [] else if i = 1 then bs else bs ++ x
def ccS (n m : Nat) (i : Nat) : Nat := if i = 0 then 0 else if i = 1 then n else n + m

set_option maxRecDepth 100000 in
set_option maxHeartbeats 4000000 in
theorem concat_any (q : Nat) (A : Option Addr) (n c : Nat) (bs : List UInt8) (A1 : Option Addr) (m c1 : Nat) (x : List UInt8) (w : World) (hq : Bk w q 22 [.slice A n c, .slice A1 m c1])
    (h0 : Rd w w.heap.size 1 A n (bs.map bv)) (h1 : Rd w w.heap.size 1 A1 m (x.map bv)) (hp : 1 ≤ n + m) (hm : n + m ≤ 1000000000) :
    Calls Try.prog 63 #[.slice (some ⟨q, 0, none⟩) 2 2] w fun e w' => ∃ A' m' c', e = .returned (.slice A' m' c') ∧ Ow w' w.heap.size A' c' m' (bs ++ x) ∧ Below w.heap.size w w' := by
  have HQ := Lib.hid hq
  have H0 := Lib.hid h0
  have H1 := Lib.hid h1
  have hl0 : bs.length = n := by simpa using h0.len1
  have hl1 : x.length = m := by simpa using h1.len1
  have q0 := hq.readT (Below.refl _ _) 0 rfl
  have q1 := hq.readT (Below.refl _ _) 1 rfl
  have HL0 := Lib.hid hl0
  have HL1 := Lib.hid hl1
  clear hq h0 h1 hl0 hl1
  go_enter Try.func63, Try.ntmps63
  repeat (first | go_skip | go_guarded | go_step)
  go_loop [3, 11] (fun s' p' => ∃ i : Nat, i ≤ 2 ∧ p' = .int .i64 (i : Int) ∧ s' = .int .i64 ((ccS n m i : Nat) : Int)) (fun _ p => 2 - (intOf p).toNat)
  case atStart => exact ⟨0, by omega, rfl, rfl⟩
  case round =>
    obtain ⟨i, hi, rfl, rfl⟩ := hrel
    rcases (show i = 0 ∨ i = 1 ∨ i = 2 by omega) with rfl | rfl | rfl
    · have e0 : ((ccS n m 0 : Nat) : Int) = 0 := rfl
      have e1 : IntKind.i64.wrap (n : Int) = (n : Int) := by rw [IntKind.wrap_i64]; omega
      have e2 : ¬ ((n : Int) < 0) := by omega
      rw [e0]
      repeat (first | go_skip | go_guarded | go_step)
      exact ⟨⟨1, by omega, rfl, rfl⟩, by simp [intOf]⟩
    · have e0 : ((ccS n m 1 : Nat) : Int) = (n : Int) := rfl
      have e1 : IntKind.i64.wrap ((n : Int) + (m : Int)) = (n : Int) + (m : Int) := by rw [IntKind.wrap_i64]; omega
      have e2 : ¬ ((n : Int) + (m : Int) < 0) := by omega
      have e3 : ((ccS n m 2 : Nat) : Int) = (n : Int) + (m : Int) := by unfold ccS; simp
      rw [e0]
      repeat (first | go_skip | go_guarded | go_step)
      exact ⟨⟨2, by omega, rfl, by rw [e3]⟩, by simp [intOf]⟩
    · have e3 : ccS n m 2 = n + m := by unfold ccS; simp
      rw [e3]
      repeat (first | go_skip | go_guarded | go_step)
      refine (grow_any (n + m) w hp hm).mono ?_
      rintro e w1 ⟨A2, c2, rfl, ho, hb⟩
      have HO := Lib.hid ho
      have HB := Lib.hid hb
      clear ho hb q0 q1
      dsimp only
      repeat (first | go_skip | go_guarded | go_step)
      go_loopw [6, 27] (fun b' p' wr => ∃ (i k : Nat) (A' : Option Addr) (c' : Nat), i ≤ 2 ∧ p' = .int .i64 (i : Int) ∧ b' = .slice A' k c' ∧ Ow wr w.heap.size A' c' k (ccB bs x i) ∧ Below w.heap.size w wr) (fun _ p _ => 2 - (intOf p).toNat)
      case atStart => exact ⟨0, 0, A2, c2, by omega, rfl, rfl, HO.out, HB.out⟩
      case round =>
        obtain ⟨i, k, A', c', hi, rfl, rfl, ho, hb⟩ := hrel
        have hsr := hb.size
        have j0 := HQ.out.readT hb 0 rfl
        have j1 := HQ.out.readT hb 1 rfl
        have hk := Ow.len ho
        have HOR := Lib.hid ho
        have HBR := Lib.hid hb
        have HR0 := Lib.hid (H0.out.below hb)
        have HR1 := Lib.hid (H1.out.below hb)
        have hln := HL0.out
        have hlm := HL1.out
        clear ho hb
        rcases (show i = 0 ∨ i = 1 ∨ i = 2 by omega) with rfl | rfl | rfl
        · have hk0 : k = 0 := by rw [← hk]; rfl
          repeat (first
            | (at_builtin; refine app8f _ rfl (.tmp 31) (.tmp 32) rfl w.heap.size A' c' k _ rfl HOR.out _ A n c bs rfl HR0.out (by omega) hsr ?_
               intro A3 c3 w3 ho3 ht3 hf3
               have HO3 := Lib.hid ho3
               have HB3 := Lib.hid (HBR.out.trans (ht3.below (B := w.heap.size) (fun k _ h => (HOR.out.lt k h).1) hsr))
               clear ho3 ht3 hf3 j0 j1)
            | go_skip | go_guarded | go_step)
          go_roundw
          case rel =>
            refine ⟨_, _, _, _, _, _, _, _, _, _, ?_, rfl⟩
            exact ⟨1, k + n, A3, c3, by omega, rfl, by rw [hk0, Nat.zero_add], HO3.out, HB3.out⟩
          case measure => simp [intOf]
        · have hk0 : k = n := by rw [← hk]; exact hln
          repeat (first
            | (at_builtin; refine app8f _ rfl (.tmp 31) (.tmp 32) rfl w.heap.size A' c' k _ rfl HOR.out _ A1 m c1 x rfl HR1.out (by omega) hsr ?_
               intro A3 c3 w3 ho3 ht3 hf3
               have HO3 := Lib.hid ho3
               have HB3 := Lib.hid (HBR.out.trans (ht3.below (B := w.heap.size) (fun k _ h => (HOR.out.lt k h).1) hsr))
               clear ho3 ht3 hf3 j0 j1)
            | go_skip | go_guarded | go_step)
          go_roundw
          case rel =>
            refine ⟨_, _, _, _, _, _, _, _, _, _, ?_, rfl⟩
            exact ⟨2, k + m, A3, c3, by omega, rfl, by rw [hk0], HO3.out, HB3.out⟩
          case measure => simp [intOf]
        · repeat (first | go_skip | go_guarded | go_step)
          go_ret
          exact ⟨A', k, c', rfl, HOR.out, HBR.out⟩
end Go.Proofs.Ytcoafgnbmgndeaa
