/- Layer 7 (lex), the document's Words. -/
import Derived.Test.YtjafbkkdjmlaoaaLxC
import Derived.Test.YtjafbkkdjmlaoaaFp
set_option linter.unusedVariables false
set_option linter.unusedSimpArgs false
namespace Go.Proofs.Ytjafbkkdjmlaoaa
open Go Go.RowKit

theorem blN_after (l : List UInt8) : blN false (l.drop (blN false l)) = 0 := by
  by_cases h : l.drop (blN false l) = []
  · rw [h]; rfl
  · exact blN_next false l h
theorem lexG_skip (a : Nat) (l : List UInt8) : lexG a l = lexG (a + blN false l) (l.drop (blN false l)) := by
  have h0 := blN_after l
  have hd : (l.drop (blN false l)).drop (blN false (l.drop (blN false l))) = l.drop (blN false l) := by rw [h0, List.drop_zero]
  by_cases h : l.drop (blN false l) = []
  · rw [lexG_end h, lexG_end (hd.trans h)]
  · obtain ⟨k, n, hw⟩ : ∃ k n, wordN (l.drop (blN false l)) = (k, n) := ⟨_, _, rfl⟩
    by_cases hn : n = 0
    · subst hn
      rw [lexG_bad rfl h (by rw [hw]), lexG_bad hd h (by rw [hw]), h0, Nat.add_zero]
    · rw [lexG_word rfl hw hn, lexG_word hd hw hn, h0, Nat.add_zero]
theorem wordsL_ok {l : List UInt8} {ws : List Wd} (h : l.length ≤ 65536) (hl : lexG 0 l = (ws, none)) : wordsL l = (ws, 0, 0) := by
  unfold wordsL
  rw [if_neg (by omega), hl]
theorem wordsL_bad {l : List UInt8} {ws : List Wd} {k : Nat} (h : l.length ≤ 65536) (hl : lexG 0 l = (ws, some k)) : wordsL l = ([], k, 5) := by
  unfold wordsL
  rw [if_neg (by omega), hl]
theorem wordN_mark {l : List UInt8} {k n : Nat} (h : markN l = (k, n)) (hn : n ≠ 0) : wordN l = (k, n) := by
  unfold wordN
  rw [h, if_pos hn]
theorem wordN_let {l : List UInt8} {k : Nat} (h : markN l = (k, 0)) : wordN l = if letN l = 0 ∨ 32 < letN l then (0, 0) else (kindL (l.take (letN l)), letN l) := by
  unfold wordN
  rw [h, if_neg (by simp)]

set_option maxRecDepth 100000 in
set_option maxHeartbeats 8000000 in
theorem rWords_any (s : ByteArray) (w : World) (hs : s.size ≤ 1099511627776) :
    Calls Try.prog 10 #[sv s] w fun e w' => ∃ (A : Option Addr) (m c : Nat) (ws : List Wd) (y z : Nat), e = .returned (.tuple #[.slice A m c, .int .i64 (y : Int), .int .i64 (z : Int)]) ∧ OwV 50 w' w.heap.size A c m ws ∧ Below w.heap.size w w' ∧ (ws, y, z) = wordsL (tb s) := by
  have hlen := tb_len s
  by_cases hbig : 65536 < s.size
  · have hd : decide ((65536 : Int) < (s.size : Int)) = true := by simp; omega
    have HA := Lib.hid (show wordsL (tb s) = ([], 0, 6) by unfold wordsL; rw [if_pos (by omega)])
    clear hlen
    go_enter Try.func10, Try.ntmps10
    repeat (first | go_skip | go_guarded | go_step)
    go_ret3
    exact ⟨none, 0, 0, [], 0, 6, rfl, World.ownsRow_nil _ _ _ _, Below.refl _ _, HA.out.symm⟩
  · have hd : decide ((65536 : Int) < (s.size : Int)) = false := by simp; omega
    have HA := Lib.hid (show (tb s).length ≤ 65536 by omega)
    have HLS := Lib.hid (lexG_skip 0 (tb s))
    have H00 := Lib.hid (blN_after (tb s))
    have HBL := Lib.hid (blN_le false (tb s))
    clear hlen
    go_enter Try.func10, Try.ntmps10
    repeat (first | go_skip | go_guarded | go_step)
    have hc := rBlanks_any s 0 w (by omega) (by omega)
    rw [List.drop_zero] at hc
    refine hc.mono ?_
    clear hc
    rintro e w1 ⟨rfl, rfl⟩
    obtain ⟨b0, hb0⟩ : ∃ b, b = blN false (tb s) := ⟨_, rfl⟩
    rw [← hb0] at HLS H00 HBL ⊢
    have hb00 : b0 ≤ s.size := by have := HBL.out; rw [tb_len] at this; exact this
    clear hb0
    dsimp only
    repeat (first | go_skip | go_guarded | go_step)
    go_loopw [5, 6] (fun o' p' wr => ∃ (a : Nat) (A : Option Addr) (c m : Nat) (ws : List Wd), a ≤ s.size ∧ p' = .int .i64 (a : Int) ∧ o' = .slice A m c ∧ OwV 50 wr w.heap.size A c m ws ∧ Below w.heap.size w wr ∧ m ≤ a ∧ blN false ((tb s).drop a) = 0 ∧ lexG 0 (tb s) = (ws ++ (lexG a ((tb s).drop a)).1, (lexG a ((tb s).drop a)).2)) (fun _ p _ => s.size - (intOf p).toNat)
    case atStart => exact ⟨b0, none, 0, 0, [], hb00, rfl, rfl, World.ownsRow_nil _ _ _ _, Below.refl _ _, Nat.zero_le _, H00.out, by rw [HLS.out, Nat.zero_add]; rfl⟩
    case round =>
      obtain ⟨a, A, c, m, ws, ha, rfl, rfl, ho, hbw, hma, hz, hlx⟩ := hrel
      have hmw : ws.length = m := rdV_len (OwV.rd ho)
      have HO := Lib.hid ho
      have HB := Lib.hid hbw
      have HZ := Lib.hid hz
      have HLX := Lib.hid hlx
      clear ho hbw hz hlx
      by_cases hlt : a < s.size
      · have hci : (a : Int) < (s.size : Int) := by omega
        have hne : (tb s).drop a ≠ [] := by rw [tb_at hlt]; simp
        have HNE := Lib.hid hne
        have hmb : m ≤ 70000 := by omega
        clear hne
        repeat (first | go_skip | go_guarded | go_step)
        refine (rMark_any s a wr (by omega) hlt).mono ?_
        rintro e wv ⟨rfl, q, rfl⟩
        obtain ⟨k, n, hkn⟩ : ∃ k n, markN ((tb s).drop a) = (k, n) := ⟨_, _, rfl⟩
        rw [hkn]
        have HKN := Lib.hid hkn
        have HOV := Lib.hid (ownBelow HO.out (belowDrews (Below.refl wr.heap.size wr) q) (Nat.le_refl _))
        have HBV := Lib.hid (belowDrews HB.out q)
        clear hkn HO HB
        generalize wr.drewN q = wv at HOV HBV ⊢
        dsimp only
        by_cases hn0 : n = 0
        · subst hn0
          repeat (first | go_skip | go_guarded | go_step)
          refine (rLetters_any s a wv (by omega) (by omega)).mono ?_
          rintro e wv2 ⟨rfl, rfl⟩
          obtain ⟨n, hn⟩ : ∃ n, n = letN ((tb s).drop a) := ⟨_, rfl⟩
          have hle := letN_le ((tb s).drop a)
          rw [List.length_drop, tb_len] at hle
          have HWL := Lib.hid (wordN_let HKN.out)
          rw [← hn] at hle HWL ⊢
          clear hn
          dsimp only
          by_cases hz0 : n = 0
          · subst hz0
            have HAN := Lib.hid (show lexG 0 (tb s) = (ws, some a) by
              rw [HLX.out, lexG_bad (l1 := (tb s).drop a) (by rw [HZ.out, List.drop_zero]) HNE.out (by rw [HWL.out]; rfl), HZ.out]
              simp)
            repeat (first | go_skip | go_guarded | go_step)
            go_ret3
            exact ⟨none, 0, 0, [], a, 5, rfl, World.ownsRow_nil _ _ _ _, HBV.out, (wordsL_bad HA.out HAN.out).symm⟩
          · have dz : ((n : Int) == 0) = false := by rw [beq_eq_false_iff_ne]; omega
            by_cases h32 : 32 < n
            · have d32 : decide ((32 : Int) < (n : Int)) = true := by simp; omega
              have HAN := Lib.hid (show lexG 0 (tb s) = (ws, some a) by
                rw [HLX.out, lexG_bad (l1 := (tb s).drop a) (by rw [HZ.out, List.drop_zero]) HNE.out (by rw [HWL.out, if_pos (Or.inr h32)]), HZ.out]
                simp)
              repeat (first | go_skip | go_guarded | go_step)
              go_ret3
              exact ⟨none, 0, 0, [], a, 5, rfl, World.ownsRow_nil _ _ _ _, HBV.out, (wordsL_bad HA.out HAN.out).symm⟩
            · have d32 : decide ((32 : Int) < (n : Int)) = false := by simp; omega
              obtain ⟨kk, hkk⟩ : ∃ kk, kk = kindL (((tb s).drop a).take n) := ⟨_, rfl⟩
              have HW := Lib.hid (show wordN ((tb s).drop a) = (kk, n) by rw [HWL.out, if_neg (by omega), hkk])
              have hsl0 := run_part s a (a + n) (a : Int) ((a : Int) + (n : Int)) rfl (by omega) (by omega) (by omega) wv
              have hkc := rKind_any (s.extract a (a + n)) wv (by simp; omega)
              rw [tb_extract, show a + n - a = n by omega, ← hkk] at hkc
              have HKC := Lib.hid hkc
              have hn0 := hz0
              clear hkk hkc
              repeat (first | go_skip | go_guarded | go_step)
              refine HKC.out.mono ?_
              rintro e wv3 ⟨rfl, rfl⟩
              clear hsl0
              dsimp only
              have hwl := wordN_le ((tb s).drop a)
              rw [HW.out, List.length_drop, tb_len] at hwl
              dsimp only at hwl
              obtain ⟨t, ht⟩ : ∃ t, t = ((tb s).drop a).take n := ⟨_, rfl⟩
              have hsp : sv (s.extract a (a + n)) = strV t := by rw [ht]; exact sv_part s a n
              have hsl := run_part s a (a + n) (a : Int) ((a : Int) + (n : Int)) rfl (by omega) (by omega) (by omega) wv
              rw [hsp] at hsl
              have HTX := Lib.hid ht
              have hl7 := run_litRV kk t a wv
              have hrd : RdV (wv.alloc (.cells #[.int .u8 (kk : Int), strV t, .int .i64 (a : Int)] 50)) (wv.heap.size + 1) (some ⟨wv.heap.size, 0, none⟩) 1 [(kk, t, a)] := bk_rdV (Bk.new wv _ (wdC (kk, t, a)))
              have HRD := Lib.hid hrd
              have HOA := Lib.hid (World.ownsRow.alloc HOV.out (.cells #[.int .u8 (kk : Int), strV t, .int .i64 (a : Int)] 50))
              have hsz : w.heap.size ≤ wv.heap.size := HBV.out.size
              have HSP := Lib.hid hsp
              have hnn : (0 : Int) < (n : Int) := by omega
              clear ht hrd hsp
              repeat (first
                | (at_builtin; refine appRV _ rfl (.tmp 43) (.tmp 53) rfl w.heap.size A c m ws rfl HOA.out _ _ 1 1 [(kk, t, a)] rfl HRD.out (by omega) (by simp; omega) ?_
                   intro A6 c6 V6 ho6 hb6
                   have HO6 := Lib.hid ho6
                   have HB6 := Lib.hid (HBV.out.trans (((Below.refl w.heap.size wv).alloc hsz (.cells #[.int .u8 (kk : Int), strV t, .int .i64 (a : Int)] 50)).trans hb6))
                   clear hl7 hsl ho6 hb6)
                | go_skip | go_guarded | go_step)
              have hc := rBlanks_any s (a + n) V6 (by omega) (by omega)
              rw [show ((a + n : Nat) : Int) = (a : Int) + (n : Int) by omega] at hc
              refine hc.mono ?_
              clear hc
              rintro e w7 ⟨rfl, rfl⟩
              have hb7 := blN_le false ((tb s).drop (a + n))
              rw [List.length_drop, tb_len] at hb7
              have HL7 := Lib.hid (lexG_skip (a + n) ((tb s).drop (a + n)))
              have H07 := Lib.hid (blN_after ((tb s).drop (a + n)))
              obtain ⟨b, hb⟩ : ∃ b, b = blN false ((tb s).drop (a + n)) := ⟨_, rfl⟩
              rw [← hb] at hb7 HL7 H07 ⊢
              rw [List.drop_drop] at HL7 H07
              have HW2 := Lib.hid (lexG_word (a := a) (l := (tb s).drop a) (by rw [HZ.out, List.drop_zero]) HW.out hn0)
              clear hb
              dsimp only
              repeat (first | go_skip | go_guarded | go_step)
              go_roundw
              case rel => exact ⟨a + n + b, A6, c6, m + 1, ws ++ [(kk, t, a)], by omega, by go_num, rfl, HO6.out, HB6.out, by omega, H07.out, by rw [HLX.out, HW2.out, HZ.out, Nat.add_zero, List.drop_drop, HL7.out, ← HTX.out]; simp [List.append_assoc]⟩
              case measure => simp [intOf] <;> omega
        · have HW := Lib.hid (wordN_mark HKN.out hn0)
          have dz : ((n : Int) == 0) = false := by rw [beq_eq_false_iff_ne]; omega
          have hwl := wordN_le ((tb s).drop a)
          rw [HW.out, List.length_drop, tb_len] at hwl
          dsimp only at hwl
          obtain ⟨t, ht⟩ : ∃ t, t = ((tb s).drop a).take n := ⟨_, rfl⟩
          have hsp : sv (s.extract a (a + n)) = strV t := by rw [ht]; exact sv_part s a n
          have hsl := run_part s a (a + n) (a : Int) ((a : Int) + (n : Int)) rfl (by omega) (by omega) (by omega) wv
          rw [hsp] at hsl
          have HTX := Lib.hid ht
          have hl7 := run_litRV k t a wv
          have hrd : RdV (wv.alloc (.cells #[.int .u8 (k : Int), strV t, .int .i64 (a : Int)] 50)) (wv.heap.size + 1) (some ⟨wv.heap.size, 0, none⟩) 1 [(k, t, a)] := bk_rdV (Bk.new wv _ (wdC (k, t, a)))
          have HRD := Lib.hid hrd
          have HOA := Lib.hid (World.ownsRow.alloc HOV.out (.cells #[.int .u8 (k : Int), strV t, .int .i64 (a : Int)] 50))
          have hsz : w.heap.size ≤ wv.heap.size := HBV.out.size
          have HSP := Lib.hid hsp
          have hnn : (0 : Int) < (n : Int) := by omega
          clear ht hrd hsp
          repeat (first
            | (at_builtin; refine appRV _ rfl (.tmp 43) (.tmp 53) rfl w.heap.size A c m ws rfl HOA.out _ _ 1 1 [(k, t, a)] rfl HRD.out (by omega) (by simp; omega) ?_
               intro A6 c6 V6 ho6 hb6
               have HO6 := Lib.hid ho6
               have HB6 := Lib.hid (HBV.out.trans (((Below.refl w.heap.size wv).alloc hsz (.cells #[.int .u8 (k : Int), strV t, .int .i64 (a : Int)] 50)).trans hb6))
               clear hl7 hsl ho6 hb6)
            | go_skip | go_guarded | go_step)
          have hc := rBlanks_any s (a + n) V6 (by omega) (by omega)
          rw [show ((a + n : Nat) : Int) = (a : Int) + (n : Int) by omega] at hc
          refine hc.mono ?_
          clear hc
          rintro e w7 ⟨rfl, rfl⟩
          have hb7 := blN_le false ((tb s).drop (a + n))
          rw [List.length_drop, tb_len] at hb7
          have HL7 := Lib.hid (lexG_skip (a + n) ((tb s).drop (a + n)))
          have H07 := Lib.hid (blN_after ((tb s).drop (a + n)))
          obtain ⟨b, hb⟩ : ∃ b, b = blN false ((tb s).drop (a + n)) := ⟨_, rfl⟩
          rw [← hb] at hb7 HL7 H07 ⊢
          rw [List.drop_drop] at HL7 H07
          have HW2 := Lib.hid (lexG_word (a := a) (l := (tb s).drop a) (by rw [HZ.out, List.drop_zero]) HW.out hn0)
          clear hb
          dsimp only
          repeat (first | go_skip | go_guarded | go_step)
          go_roundw
          case rel => exact ⟨a + n + b, A6, c6, m + 1, ws ++ [(k, t, a)], by omega, by go_num, rfl, HO6.out, HB6.out, by omega, H07.out, by rw [HLX.out, HW2.out, HZ.out, Nat.add_zero, List.drop_drop, HL7.out, ← HTX.out]; simp [List.append_assoc]⟩
          case measure => simp [intOf] <;> omega
      · obtain rfl : a = s.size := by omega
        have HAN := Lib.hid (show lexG 0 (tb s) = (ws, none) by
          have hnil : (tb s).drop s.size = [] := List.drop_of_length_le (by rw [tb_len]; omega)
          rw [HLX.out, hnil, lexG_end (by rfl)]
          simp)
        repeat (first | go_skip | go_guarded | go_step)
        go_ret3
        exact ⟨A, m, c, ws, 0, 0, rfl, HO.out, HB.out, (wordsL_ok HA.out HAN.out).symm⟩
end Go.Proofs.Ytjafbkkdjmlaoaa
