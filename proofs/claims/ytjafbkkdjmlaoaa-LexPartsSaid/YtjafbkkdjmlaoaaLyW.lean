/- Layer 7 (lex): the program's Words: it answers what the document asks. -/
import Derived.Test.YtjafbkkdjmlaoaaLyF
import Derived.Test.YtjafbkkdjmlaoaaLxI
set_option linter.unusedVariables false
set_option linter.unusedSimpArgs false
namespace Go.Proofs.Ytjafbkkdjmlaoaa
open Go Go.RowKit

theorem lWdInfo : (Try.prog.info? 36).map (fun i => (i.zero, i.size, i.bytes)) = some (some (.agg #[.int .u8 0, .string ⟨#[]⟩, .int .i64 0]), 3, 32) := by kernel_rfl
/-- 'l = append(l, word)', over the program's words. -/
theorem appLV {ops : Array Oper} {rest : List Oper} {o : Oper} {a : Act} {Q : Exit → Act → World → Prop} (w : World) (hgd : o.guard = none) (p x : Operand)
    (ho : o.op = .call { callee := .builtin .append, args := #[p, x], argTypes := #[23, 23] })
    (base : Nat) (A0 : Option Addr) (c0 n : Nat) (l : List Wd) (hv : a.eval p = .slice A0 n c0) (hown : OwV 36 w base A0 c0 n l)
    (B : Nat) (A : Option Addr) (m c : Nat) (news : List Wd) (hx : a.eval x = .slice A m c) (hr : RdV w B A m news) (hb : n + m ≤ 1000000000) (hbase : base ≤ w.heap.size)
    (h : ∀ A' c' w', OwV 36 w' base A' c' (n + m) (l ++ news) → Below base w w' → wpList Try.prog ops Q rest (a.put o.dst (.slice A' (n + m) c')) w') : wpList Try.prog ops Q (o :: rest) a w := by
  obtain ⟨i0, hi, hz0, hz1, hz2⟩ := info_parts lWdInfo
  refine wpList_app w hgd p x 23 ho base 36 i0 _ 3 32 Try.underlying23 hi hz0 hz1 hz2 rfl (by decide) _ n _ hv hown B A m c _ hx hr (wdC_one news) (by simp only [maxLen]; omega) (by omega) hbase ?_
  intro A' c' w' e1 e2 e3
  exact h A' c' w' (by show World.ownsRow _ _ _ _ _ _ _; rw [List.flatMap_append]; exact e1) (belowApp (Below.refl _ _) hown e2 hbase)
theorem run_litLV (k : Nat) (t : List UInt8) (p : Nat) (w : World) : (Instr.buildSlice 23 1 #[(0, .agg #[.int .u8 (k : Int), strV t, .int .i64 (p : Int)])]).run Try.prog w = .ok (.slice (some ⟨w.heap.size, 0, none⟩) 1 1) (w.alloc (.cells (wdC (k, t, p)).toArray 36)) := by
  obtain ⟨i0, hi, hz0, hz1, hz2⟩ := info_parts lWdInfo
  simp [Instr.buildSlice, run_underlying Try.underlying23, sizeOf, typeInfo, zeroValue, hi, hz0, hz1, newRow, Instr.fill]
  kernel_rfl
/-- The rest of a text. -/
theorem run_rest (s : ByteArray) (a : Nat) (ha : a ≤ s.size) (w : World) :
    (Instr.slice 9 (sv s) (some (.int .i64 (a : Int))) none none).run Try.prog w = .ok (sv (s.extract a s.size)) w := by
  have d1 : decide ((a : Int) ≤ (s.size : Int)) = true := by simp; omega
  go_simp
theorem tb_rest (s : ByteArray) (a : Nat) : tb (s.extract a s.size) = (tb s).drop a := by
  rw [tb_extract, List.take_of_length_le (by rw [List.length_drop, tb_len]; omega)]

set_option maxRecDepth 100000 in
set_option maxHeartbeats 8000000 in
theorem words_any (s : ByteArray) (w : World) (hs : s.size ≤ 1099511627776) :
    Calls Try.prog 9 #[sv s] w fun e w' => ∃ (A : Option Addr) (m c : Nat) (ws : List Wd) (y z : Nat), e = .returned (.tuple #[.slice A m c, .int .i64 (y : Int), .int .i64 (z : Int)]) ∧ OwV 36 w' w.heap.size A c m ws ∧ Below w.heap.size w w' ∧ (ws, y, z) = wordsL (tb s) := by
  have hlen := tb_len s
  by_cases hbig : 65536 < s.size
  · have hd : decide ((65536 : Int) < (s.size : Int)) = true := by simp; omega
    have HA := Lib.hid (show wordsL (tb s) = ([], 0, 6) by unfold wordsL; rw [if_pos (by omega)])
    clear hlen
    go_enter Try.func9, Try.ntmps9
    repeat (first | go_skip | go_guarded | go_step)
    go_ret3
    exact ⟨none, 0, 0, [], 0, 6, rfl, World.ownsRow_nil _ _ _ _, Below.refl _ _, HA.out.symm⟩
  · have hd : decide ((65536 : Int) < (s.size : Int)) = false := by simp; omega
    have HA := Lib.hid (show (tb s).length ≤ 65536 by omega)
    clear hlen
    go_enter Try.func9, Try.ntmps9
    repeat (first | go_skip | go_guarded | go_step)
    refine (meanings_any w).mono ?_
    rintro e w1 ⟨b, rfl, hbb, hm1, hb1⟩
    have HM1 := Lib.hid hm1
    have HB1 := Lib.hid hb1
    clear hm1 hb1
    dsimp only
    repeat (first | go_skip | go_guarded | go_step)
    go_loopw [2, 3] (fun o' p' wr => ∃ (a : Nat) (A : Option Addr) (c m : Nat) (ws : List Wd), a ≤ s.size ∧ p' = .int .i64 (a : Int) ∧ o' = .slice A m c ∧ OwV 36 wr w1.heap.size A c m ws ∧ Below w1.heap.size w1 wr ∧ m ≤ a ∧ lexG 0 (tb s) = (ws ++ (lexG a ((tb s).drop a)).1, (lexG a ((tb s).drop a)).2)) (fun _ p _ => s.size - (intOf p).toNat)
    case atStart => exact ⟨0, none, 0, 0, [], Nat.zero_le _, rfl, rfl, World.ownsRow_nil _ _ _ _, Below.refl _ _, Nat.zero_le _, by rw [List.drop_zero]; rfl⟩
    case round =>
      obtain ⟨a, A, c, m, ws, ha, rfl, rfl, ho, hbw, hma, hlx⟩ := hrel
      have hmw : ws.length = m := rdV_len (OwV.rd ho)
      have HO := Lib.hid ho
      have HB := Lib.hid hbw
      have HLX := Lib.hid hlx
      have HMW := Lib.hid hmw
      clear ho hbw hlx hmw
      by_cases hlt : a < s.size
      · have hci : (a : Int) < (s.size : Int) := by omega
        have hne : (tb s).drop a ≠ [] := by rw [tb_at hlt]; simp
        have HNE := Lib.hid hne
        have hmb : m ≤ 70000 := by omega
        have hez : (s.extract a s.size).size = s.size - a := by simp
        have hfi := first_any (s.extract a s.size) b wr (HM1.out.below HB.out (HM1.out.lt)) (by omega) (by omega)
        rw [tb_rest] at hfi
        obtain ⟨k, n, hkn⟩ : ∃ k n, frontN ((tb s).drop a) = (k, n) := ⟨_, _, rfl⟩
        rw [hkn] at hfi
        dsimp only at hfi
        have HFI := Lib.hid hfi
        have hst := front_step a hkn hne
        rw [List.length_drop, tb_len] at hst
        have hrs := run_rest s a ha wr
        clear hne hfi hkn hez
        rcases hst with ⟨rfl, hl⟩ | ⟨rfl, hn1, hn2, hl⟩ | ⟨hk1, hk2, hn1, hn2, hl⟩
        · have HAN := Lib.hid (show lexG 0 (tb s) = (ws, some a) by rw [HLX.out, hl]; simp)
          clear hl
          repeat (first | go_skip | go_guarded | go_step)
          refine HFI.out.mono ?_
          rintro e wv ⟨rfl, rfl⟩
          dsimp only
          repeat (first | go_skip | go_guarded | go_step)
          go_ret3
          exact ⟨none, 0, 0, [], a, 5, rfl, World.ownsRow_nil _ _ _ _, HB1.out.trans (HB.out.mono HB1.out.size), (wordsL_bad HA.out HAN.out).symm⟩
        · have HL := Lib.hid hl
          clear hl
          repeat (first | go_skip | go_guarded | go_step)
          refine HFI.out.mono ?_
          rintro e wv ⟨rfl, rfl⟩
          dsimp only
          repeat (first | go_skip | go_guarded | go_step)
          go_roundw
          case rel => exact ⟨a + n, A, c, m, ws, by omega, by go_num, rfl, HO.out, HB.out, by omega, by rw [HLX.out, HL.out, List.drop_drop]⟩
          case measure => simp [intOf] <;> omega
        · have HL := Lib.hid hl
          have dk0 : ((k : Int) == 0) = false := by rw [beq_eq_false_iff_ne]; omega
          have dk10 : ((k : Int) != 10) = true := by rw [bne_iff_ne]; omega
          obtain ⟨t, ht⟩ : ∃ t, t = ((tb s).drop a).take n := ⟨_, rfl⟩
          have htl : t.length ≤ 65536 := by rw [ht, List.length_take]; omega
          have hpt := run_part s a (a + n) (a : Int) ((a : Int) + (n : Int)) rfl (by omega) (by omega) (by omega) wr
          rw [sv_part s a n, ← ht] at hpt
          have HCL := Lib.hid (sclone_any ⟨t.toArray⟩ wr (by simp [ByteArray.size]; omega))
          have HTX := Lib.hid ht
          clear hl ht
          repeat (first | go_skip | go_guarded | go_step)
          refine HFI.out.mono ?_
          rintro e wv ⟨rfl, rfl⟩
          dsimp only
          repeat (first | go_skip | go_guarded | go_step)
          refine HCL.out.mono ?_
          rintro e wv ⟨rfl, hb2⟩
          have HOV := Lib.hid (ownBelow HO.out hb2 (Nat.le_refl _))
          have HBV := Lib.hid (HB.out.trans (hb2.mono HB.out.size))
          clear hb2 HO HB hpt hrs HCL
          dsimp only
          have hsz : w1.heap.size ≤ wv.heap.size := HBV.out.size
          have hlit := run_litLV k t a wv
          have HRD := Lib.hid (show RdV (wv.alloc (.cells #[.int .u8 (k : Int), strV t, .int .i64 (a : Int)] 36)) (wv.heap.size + 1) (some ⟨wv.heap.size, 0, none⟩) 1 [(k, t, a)] from bk_rdV (Bk.new wv _ (wdC (k, t, a))))
          have HOA := Lib.hid (World.ownsRow.alloc HOV.out (.cells #[.int .u8 (k : Int), strV t, .int .i64 (a : Int)] 36))
          repeat (first
            | (at_builtin; refine appLV _ rfl (.tmp 29) (.tmp 40) rfl w1.heap.size A c m ws rfl HOA.out _ _ 1 1 [(k, t, a)] rfl HRD.out (by omega) (by simp; omega) ?_
               intro A6 c6 V6 ho6 hb6
               have HO6 := Lib.hid ho6
               have HB6 := Lib.hid (HBV.out.trans (((Below.refl w1.heap.size wv).alloc hsz (.cells #[.int .u8 (k : Int), strV t, .int .i64 (a : Int)] 36)).trans hb6))
               clear hlit ho6 hb6)
            | go_skip | go_guarded | go_step)
          go_roundw
          case rel => exact ⟨a + n, A6, c6, m + 1, ws ++ [(k, t, a)], by omega, by go_num, rfl, HO6.out, HB6.out, by omega, by rw [HLX.out, HL.out, List.drop_drop, ← HTX.out]; simp [List.append_assoc]⟩
          case measure => simp [intOf] <;> omega
      · obtain rfl : a = s.size := by omega
        have HAN := Lib.hid (show lexG 0 (tb s) = (ws, none) by
          rw [HLX.out, List.drop_of_length_le (by rw [tb_len]; omega), lexG_end rfl]
          simp)
        repeat (first | go_skip | go_guarded | go_step)
        go_ret3
        exact ⟨A, m, c, ws, 0, 0, rfl, ownBase HO.out HB1.out.size, HB1.out.trans (HB.out.mono HB1.out.size), (wordsL_ok HA.out HAN.out).symm⟩
end Go.Proofs.Ytjafbkkdjmlaoaa
