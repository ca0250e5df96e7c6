/- Layer 6 (wire), the program's reader: rows of numbers and of terms. -/
import Derived.Test.YtcoafgnbmgndeaaWqC
set_option linter.unusedVariables false
set_option linter.unusedSimpArgs false
namespace Go.Proofs.Ytcoafgnbmgndeaa
open Go Go.RowKit

set_option maxRecDepth 100000 in
set_option maxHeartbeats 4000000 in
theorem takeListU_any (g : Nat) (A : Option Addr) (n c : Nat) (t : Int) (bs : List UInt8) (w : World) (hk0 : Rg w g A n c t 0) (hr : Rd w g 1 A n (bs.map bv)) (hc : n ≤ c) (hm : n ≤ 140737488355328) :
    Calls Try.prog 69 #[.pointer (some ⟨g, 0, none⟩), .func (.func 68) #[.pointer (some ⟨g, 0, none⟩)] #[]] w fun e w' => Ends (rRow 255 rU32) g A n c bs t (fun L u W => ∃ A' m c', u = .slice A' m c' ∧ OwU W w.heap.size A' c' m L) w e w' := by
  have hlt : g < w.heap.size := Bk.lt hk0
  have HK := Lib.hid hk0
  have HR := Lib.hid hr
  have HLT := Lib.hid hlt
  clear hk0 hr hlt
  go_enter Try.func69, Try.ntmps69
  repeat (first | go_skip | go_guarded | go_step)
  refine (single_any g A n c t bs w HK.out HR.out hc hm).mono ?_
  rintro e w1 ⟨ht, ⟨N, k1, _, rfl, rfl, hgot, hg⟩ | ⟨z, t', rfl, hno, hg⟩⟩
  · have hN := hgot.mostB
    have HT := Lib.hid ht
    have HG := Lib.hid hg
    have HO := Lib.hid hgot
    clear ht hg hgot
    dsimp only
    repeat (first | go_skip | go_guarded | go_step)
    go_loopw [5, 8] (fun l' p' wr => ∃ (i : Nat) (A' : Option Addr) (c' : Nat) (L : List UInt32) (k : Nat), i ≤ N ∧ p' = .int .u64 (i : Int) ∧ l' = .slice A' i c' ∧ OwU wr w.heap.size A' c' i L ∧ Rg wr g A n c k 0 ∧ Turn (fun i => i = g) w wr ∧ Got (rMany rU32 i) bs k1 L k) (fun _ p _ => N - (intOf p).toNat)
    case atStart => exact ⟨0, none, 0, [], k1, Nat.zero_le _, rfl, rfl, World.ownsRow_nil _ _ _ _, HG.out, HT.out, HO.out.nought⟩
    case round =>
      obtain ⟨i, A', c', L, k, hi, rfl, rfl, ho, hg, htu, hgo⟩ := hrel
      have HO2 := Lib.hid ho
      have HG2 := Lib.hid hg
      have HTU := Lib.hid htu
      have HGO := Lib.hid hgo
      by_cases hlt : i < N
      · have hci : (i : Int) < (N : Int) := by omega
        have HR3 := Lib.hid (htu.rd HR.out (Nat.le_of_lt HLT.out) (fun k hk e => by omega))
        have hsr := htu.size
        clear ho hg htu hgo
        repeat (first | go_skip | go_guarded | go_step)
        refine (number_any g A n c k bs wr HG2.out HR3.out hc hm).mono ?_
        rintro e V ⟨ht, ⟨x, k4, _, rfl, rfl, hgot, hg⟩ | ⟨z, t', rfl, hno, hg⟩⟩
        · have hsv := ht.size
          have HT3 := Lib.hid (HTU.out.trans ht)
          have HG3 := Lib.hid hg
          have HO3 := Lib.hid (ht.own HO2.out (fun k hk e => by have := (World.ownsRow.lt HO2.out k hk).1; have := HLT.out; omega))
          have HGT := Lib.hid (HGO.out.snoc hgot)
          have hl7 := run_litN1 x V
          have hrd7 : RdU (V.alloc (.cells #[nv x] 23)) (V.heap.size + 1) (some ⟨V.heap.size, 0, none⟩) 1 [x] := litN_rd V [x] 1 rfl
          have HRD7 := Lib.hid hrd7
          clear ht hg hgot hrd7
          dsimp only
          repeat (first
            | (at_builtin; refine appU _ rfl (.tmp 10) (.tmp 13) rfl w.heap.size A' c' i L rfl (World.ownsRow.alloc HO3.out _) _ _ 1 1 [x] rfl HRD7.out (by omega) (by simp; omega) ?_
               intro A6 c6 V6 ho6 hb6
               have hb7 := (Below.alloc (Below.refl w.heap.size V) (by omega) _).trans hb6
               have HB7 := Lib.hid hb7
               have HO6 := Lib.hid ho6
               clear hl7 hb6 hb7 ho6)
            | go_skip | go_guarded | go_step)
          go_roundw
          case rel => exact ⟨i + 1, A6, c6, L ++ [x], k4, by omega, by go_num, rfl, HO6.out, Bk.below HG3.out HB7.out HLT.out, HT3.out.then_ (Turn.ofBelowB (G := fun k => w.heap.size ≤ k) HB7.out (fun k h _ => h)) (fun k hk h => absurd hk (by omega)), HGT.out⟩
          case measure => simp [intOf] <;> omega
        · exact ⟨rfl, HTU.out.trans ht, .inr ⟨z, t', rfl, HO.out.nopeRow ((HGO.out.nopeS hno).more (by omega)), hg⟩⟩
      · obtain rfl : i = N := by omega
        clear ho hg htu hgo
        repeat (first | go_skip | go_guarded | go_step)
        go_ret
        exact ⟨HTU.out, .inl ⟨L, k, _, rfl, ⟨A', i, c', rfl, HO2.out⟩, HO.out.row HGO.out, HG2.out⟩⟩
  · exact ⟨rfl, ht, .inr ⟨z, t', rfl, hno.row, hg⟩⟩

set_option maxRecDepth 100000 in
set_option maxHeartbeats 4000000 in
theorem takeListT_any (g : Nat) (A : Option Addr) (n c : Nat) (t : Int) (bs : List UInt8) (w : World) (hk0 : Rg w g A n c t 0) (hr : Rd w g 1 A n (bs.map bv)) (hc : n ≤ c) (hm : n ≤ 140737488355328) :
    Calls Try.prog 99 #[.pointer (some ⟨g, 0, none⟩), .func (.func 100) #[.pointer (some ⟨g, 0, none⟩)] #[]] w fun e w' => Ends (rRow 255 rTerm) g A n c bs t (fun L u W => ∃ A' m c', u = .slice A' m c' ∧ OwT W w.heap.size A' c' m L) w e w' := by
  have hlt : g < w.heap.size := Bk.lt hk0
  have HK := Lib.hid hk0
  have HR := Lib.hid hr
  have HLT := Lib.hid hlt
  clear hk0 hr hlt
  go_enter Try.func99, Try.ntmps99
  repeat (first | go_skip | go_guarded | go_step)
  refine (single_any g A n c t bs w HK.out HR.out hc hm).mono ?_
  rintro e w1 ⟨ht, ⟨N, k1, _, rfl, rfl, hgot, hg⟩ | ⟨z, t', rfl, hno, hg⟩⟩
  · have hN := hgot.mostB
    have HT := Lib.hid ht
    have HG := Lib.hid hg
    have HO := Lib.hid hgot
    clear ht hg hgot
    dsimp only
    repeat (first | go_skip | go_guarded | go_step)
    go_loopw [5, 8] (fun l' p' wr => ∃ (i : Nat) (A' : Option Addr) (c' : Nat) (L : List Tm) (k : Nat), i ≤ N ∧ p' = .int .u64 (i : Int) ∧ l' = .slice A' i c' ∧ OwT wr w.heap.size A' c' i L ∧ Rg wr g A n c k 0 ∧ Turn (fun i => i = g) w wr ∧ Got (rMany rTerm i) bs k1 L k) (fun _ p _ => N - (intOf p).toNat)
    case atStart => exact ⟨0, none, 0, [], k1, Nat.zero_le _, rfl, rfl, World.ownsRow_nil _ _ _ _, HG.out, HT.out, HO.out.nought⟩
    case round =>
      obtain ⟨i, A', c', L, k, hi, rfl, rfl, ho, hg, htu, hgo⟩ := hrel
      have HO2 := Lib.hid ho
      have HG2 := Lib.hid hg
      have HTU := Lib.hid htu
      have HGO := Lib.hid hgo
      by_cases hlt : i < N
      · have hci : (i : Int) < (N : Int) := by omega
        have HR3 := Lib.hid (htu.rd HR.out (Nat.le_of_lt HLT.out) (fun k hk e => by omega))
        have hsr := htu.size
        clear ho hg htu hgo
        repeat (first | go_skip | go_guarded | go_step)
        refine (term_any g A n c k bs wr HG2.out HR3.out hc hm).mono ?_
        rintro e V ⟨ht, ⟨x, k4, _, rfl, rfl, hgot, hg⟩ | ⟨z, t', rfl, hno, hg⟩⟩
        · have hsv := ht.size
          have HT3 := Lib.hid (HTU.out.trans ht)
          have HG3 := Lib.hid hg
          have HO3 := Lib.hid (ht.own HO2.out (fun k hk e => by have := (World.ownsRow.lt HO2.out k hk).1; have := HLT.out; omega))
          have HGT := Lib.hid (HGO.out.snoc hgot)
          have hl7 := run_litW1 x V
          have hrd7 : RdT (V.alloc (.cells (tmCs [x]).toArray 54)) (V.heap.size + 1) (some ⟨V.heap.size, 0, none⟩) 1 [x] := litW_rd V [x] 1 rfl
          have HRD7 := Lib.hid hrd7
          clear ht hg hgot hrd7
          dsimp only
          repeat (first
            | (at_builtin; refine appT _ rfl (.tmp 10) (.tmp 13) rfl w.heap.size A' c' i L rfl (World.ownsRow.alloc HO3.out _) _ _ 1 1 [x] rfl HRD7.out (by omega) (by simp; omega) ?_
               intro A6 c6 V6 ho6 hb6
               have hb7 := (Below.alloc (Below.refl w.heap.size V) (by omega) _).trans hb6
               have HB7 := Lib.hid hb7
               have HO6 := Lib.hid ho6
               clear hl7 hb6 hb7 ho6)
            | go_skip | go_guarded | go_step)
          go_roundw
          case rel => exact ⟨i + 1, A6, c6, L ++ [x], k4, by omega, by go_num, rfl, HO6.out, Bk.below HG3.out HB7.out HLT.out, HT3.out.then_ (Turn.ofBelowB (G := fun k => w.heap.size ≤ k) HB7.out (fun k h _ => h)) (fun k hk h => absurd hk (by omega)), HGT.out⟩
          case measure => simp [intOf] <;> omega
        · exact ⟨rfl, HTU.out.trans ht, .inr ⟨z, t', rfl, HO.out.nopeRow ((HGO.out.nopeS hno).more (by omega)), hg⟩⟩
      · obtain rfl : i = N := by omega
        clear ho hg htu hgo
        repeat (first | go_skip | go_guarded | go_step)
        go_ret
        exact ⟨HTU.out, .inl ⟨L, k, _, rfl, ⟨A', i, c', rfl, HO2.out⟩, HO.out.row HGO.out, HG2.out⟩⟩
  · exact ⟨rfl, ht, .inr ⟨z, t', rfl, hno.row, hg⟩⟩
end Go.Proofs.Ytcoafgnbmgndeaa
