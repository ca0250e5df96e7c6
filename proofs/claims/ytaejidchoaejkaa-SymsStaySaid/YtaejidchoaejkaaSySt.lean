/- SymsStay: a number stands for one name for ever, whatever is put behind; a table of a table's names is that table. No condition. -/
import Derived.Test.YtaejidchoaejkaaSyQ
import Derived.Test.YtaejidchoaejkaaSyG
import Derived.Test.YtaejidchoaejkaaSyC
import Derived.Test.YtaejidchoaejkaaSyO
import Derived.Test.YtaejidchoaejkaaSyY
set_option linter.unusedVariables false
set_option linter.unusedSimpArgs false
namespace Go.Proofs.Ytaejidchoaejkaa.symsStay
open Go Go.RowKit Go.ChangeShapes Go.WideShapes Go.ChangeAt

/-- few, whatever is asked. -/
theorem few_all (A : Option Addr) (n c : Nat) (l : List ByteArray) (w : World) (h : Rd w w.heap.size 1 A n (l.map sv)) :
    Calls Try.prog 8 #[.slice A n c] w fun e w' => e = .returned (.bool (decide (n ≤ 300) && fewB l)) ∧ w = w' := by
  by_cases hn : n ≤ 300
  · rw [decide_eq_true hn, Bool.true_and]
    exact few_any A n c _ l w h hn
  · rw [decide_eq_false hn, Bool.false_and]
    exact few_big A n c w (by omega)

set_option maxRecDepth 100000 in
set_option maxHeartbeats 1000000 in
theorem walkBig (hmay : MayOk) (A0 A1 : Option Addr) (n0 c0 n1 c1 : Nat) (l0 l1 : List ByteArray) (w : World) (h0 : Rd w w.heap.size 1 A0 n0 (l0.map sv)) (h1 : Rd w w.heap.size 1 A1 n1 (l1.map sv))
    (hb : (decide (n0 ≤ 300) && fewB l0) = false ∨ (decide (n1 ≤ 300) && fewB l1) = false) :
    Calls Try.prog 4 #[.slice A0 n0 c0, .slice A1 n1 c1] w fun e w' => e = .returned (.bool true) ∧ Below w.heap.size w w' := by
  have HF0 := Lib.hid (few_all A0 n0 c0 l0 w h0)
  have HF1 := Lib.hid (few_all A1 n1 c1 l1 w h1)
  clear h0 h1
  generalize (decide (n0 ≤ 300) && fewB l0) = b0 at *
  generalize (decide (n1 ≤ 300) && fewB l1) = b1 at *
  cases b0 with
  | false =>
    go_enter Try.func4, Try.ntmps4
    repeat go_step
    refine HF0.out.mono ?_
    rintro e w1 ⟨rfl, rfl⟩
    dsimp only
    go_wp2_with (go_at_call 9; refine (works_any hmay _).mono ?_; rintro e w2 ⟨rfl, hb2⟩)
    go_ret
    exact ⟨rfl, hb2⟩
  | true =>
    have e1 : b1 = false := by rcases hb with h | h <;> simp_all
    subst e1
    go_enter Try.func4, Try.ntmps4
    repeat go_step
    refine HF0.out.mono ?_
    rintro e w1 ⟨rfl, rfl⟩
    dsimp only
    repeat (first | go_skip | go_guarded | go_step)
    refine HF1.out.mono ?_
    rintro e w1 ⟨rfl, rfl⟩
    dsimp only
    go_wp2_with (go_at_call 9; refine (works_any hmay _).mono ?_; rintro e w2 ⟨rfl, hb2⟩)
    go_ret
    exact ⟨rfl, hb2⟩

set_option maxRecDepth 100000 in
set_option maxHeartbeats 4000000 in
theorem walk (hmay : MayOk) (A0 A1 : Option Addr) (n0 c0 n1 c1 : Nat) (l0 l1 : List ByteArray) (w : World) (h0 : Rd w w.heap.size 1 A0 n0 (l0.map sv)) (h1 : Rd w w.heap.size 1 A1 n1 (l1.map sv))
    (hf0 : (decide (n0 ≤ 300) && fewB l0) = true) (hf1 : (decide (n1 ≤ 300) && fewB l1) = true) :
    Calls Try.prog 4 #[.slice A0 n0 c0, .slice A1 n1 c1] w fun e w' => e = .returned (.bool true) ∧ Below w.heap.size w w' := by
  have HF0 := Lib.hid (few_all A0 n0 c0 l0 w h0)
  have HF1 := Lib.hid (few_all A1 n1 c1 l1 w h1)
  rw [hf0] at HF0
  rw [hf1] at HF1
  simp only [Bool.and_eq_true, decide_eq_true_eq] at hf0 hf1
  obtain ⟨hn0, hq0⟩ := hf0
  obtain ⟨hn1, hq1⟩ := hf1
  have HS0 := Lib.hid (show ∀ s ∈ l0, s.size ≤ 200 from fun s hs => by simpa using List.all_eq_true.1 hq0 s hs)
  have HS1 := Lib.hid (show ∀ s ∈ l1, s.size ≤ 200 from fun s hs => by simpa using List.all_eq_true.1 hq1 s hs)
  have H0 := Lib.hid h0
  have H1 := Lib.hid h1
  clear h0 h1 hq0 hq1
  go_enter Try.func4, Try.ntmps4
  repeat go_step
  refine HF0.out.mono ?_
  rintro e w1 ⟨rfl, rfl⟩
  dsimp only
  repeat (first | go_skip | go_guarded | go_step)
  refine HF1.out.mono ?_
  rintro e w1 ⟨rfl, rfl⟩
  dsimp only
  repeat (first | go_skip | go_guarded | go_step)
  refine (tNew w).mono ?_
  rintro e W0 ⟨g, F0, rfl, t0, hF0, hb0⟩
  dsimp only
  repeat go_step
  go_loopw [6] (fun p wr => ∃ (i : Nat) (F : Nat → Prop) (acc : List ByteArray), i ≤ n0 ∧ p = .int .i64 (i : Int) ∧ Good i acc ∧ Tb wr g F acc ∧ (∀ k, F k → w.heap.size ≤ k) ∧ Below w.heap.size w wr)
    (fun p _ => n0 - (intOf p).toNat)
  case atStart => exact ⟨0, F0, [], by omega, rfl, Good.nil _, t0, hF0, hb0⟩
  case round =>
    clear t0 hF0 hb0
    obtain ⟨i, F, acc, hi, rfl, hgd, htb, hX, hbw⟩ := hrel
    by_cases hlt : i < n0
    · have hci : (i : Int) < (n0 : Int) := by omega
      obtain ⟨b, o, s, hA, hbb, hx, hc⟩ := rdS_at (H0.out.below hbw) hlt
      subst hA
      have hsz := HS0.out s (List.mem_of_getElem? hx)
      have hgd1 := putL_good s hgd (by omega)
      have hal := hgd.len
      obtain ⟨q, hq⟩ : ∃ q, putL acc s = q := ⟨_, rfl⟩
      obtain ⟨acc1, num, err⟩ := q
      rw [hq] at hgd1
      have HQ := Lib.hid hq
      have HX := Lib.hid hX
      have HGD := Lib.hid hgd1
      clear hx hX hq hgd hgd1
      repeat go_step
      refine (tPut' hmay g F acc s w.heap.size wr htb HX.out hbw.size (by omega) (by omega) _ _ _ HQ.out).mono ?_
      rintro e w1 ⟨rfl, F1, htb1, hF1, hb1⟩
      have hbw1 := hbw.trans hb1
      have HX1 := Lib.hid hF1
      clear htb hb1 hF1 hbw hc HQ
      dsimp only
      go_wp2
      go_roundw
      case rel => exact ⟨i + 1, F1, acc1, by omega, by go_num, HGD.out, htb1, HX1.out, hbw1⟩
      case measure => simp [intOf]; omega
    · obtain rfl : n0 = i := by omega
      rename World => W1
      have hal := hgd.len
      repeat go_step
      refine (tList g F acc W1 htb (by omega)).mono ?_
      rintro e W2 ⟨Aw, cw, rfl, how, hb2⟩
      have htb2 := htb.later hb2
      have hbw2 := hbw.trans (hb2.mono hbw.size)
      have hown : ∀ k, (Value.slice Aw acc.length cw).ownBlock = some k → W1.heap.size ≤ k := fun k hk => (World.ownsRow.lt how k hk).1
      have hFw : ∀ k, F k → (Value.slice Aw acc.length cw).ownBlock ≠ some k := fun k hk e => by
        have h1 := htb.lt k hk
        have h2 := hown k e
        omega
      have how0 : OwS W2 0 Aw cw acc.length acc := ownBase how (Nat.zero_le _)
      have hcw : acc.length ≤ cw := by
        obtain ⟨A', c', e, hle⟩ := ownForm how
        simp only [Value.slice.injEq] at e
        omega
      obtain ⟨acc0, hac⟩ : ∃ a, a = acc := ⟨_, rfl⟩
      rw [← hac] at how0 hFw hcw hal ⊢
      have HAC := Lib.hid (show ∃ r, acc = acc0 ++ r from ⟨[], by rw [hac]; simp⟩)
      have HX := Lib.hid hX
      have HGD := Lib.hid hgd
      have HWL := Lib.hid (show ∀ k, (Value.slice Aw acc0.length cw).ownBlock = some k → w.heap.size ≤ k from fun k hk => Nat.le_trans hbw.size (hown k (by rw [← hac]; exact hk)))
      clear htb hb2 hown how hX hgd hac hbw hlt hi
      dsimp only
      repeat go_step
      go_loopw [8] (fun p wr => ∃ (i : Nat) (F : Nat → Prop) (acc : List ByteArray), i ≤ n1 ∧ p = .int .i64 (i : Int) ∧ Good (n0 + i) acc ∧ (∃ r, acc = acc0 ++ r) ∧ Tb wr g F acc ∧ (∀ k, F k → w.heap.size ≤ k) ∧ OwS wr 0 Aw cw acc0.length acc0 ∧ (∀ k, F k → (Value.slice Aw acc0.length cw).ownBlock ≠ some k) ∧ Below w.heap.size w wr)
        (fun p _ => n1 - (intOf p).toNat)
      case atStart => exact ⟨0, F, acc, by omega, rfl, HGD.out, HAC.out, htb2, HX.out, how0, hFw, hbw2⟩
      case round =>
        clear htb2 how0 hFw hbw2 HX HGD HAC
        obtain ⟨i, F, acc, hi, rfl, hgd, hsuf, htb, hX, how, hFw, hbw⟩ := hrel
        by_cases hlt : i < n1
        · have hci : (i : Int) < (n1 : Int) := by omega
          obtain ⟨b, o, s, hA, hbb, hx, hc⟩ := rdS_at (H1.out.below hbw) hlt
          subst hA
          have hsz := HS1.out s (List.mem_of_getElem? hx)
          have hal := hgd.len
          have hgd1 := putL_good s hgd (by omega)
          obtain ⟨r0, hr0⟩ := hsuf
          obtain ⟨r1, hr1⟩ := putL_suf acc s
          have hsuf1 : ∃ r, (putL acc s).1 = acc0 ++ r := ⟨r0 ++ r1, by rw [hr1, hr0, List.append_assoc]⟩
          have hcw' := (hbw.cell (p := ⟨b, o + i, none⟩) hbb).symm.trans hc
          have HC := Lib.hid hcw'
          have hno : mayB s = false → putL acc s = (acc, 0, 8) ∧ findO acc s = none := putL_no hgd
          have hyes : mayB s = true → (putL acc s).2.2 = 0 ∧ findO (putL acc s).1 s = some (putL acc s).2.1 := putL_yes hgd (by omega)
          have HNO := Lib.hid hno
          have HYES := Lib.hid hyes
          have HX := Lib.hid hX
          have HGD := Lib.hid hgd1
          have HSU := Lib.hid hsuf1
          have HHO := Lib.hid how
          have HFW := Lib.hid hFw
          clear hx hX hgd hgd1 hr0 hr1 hsuf1 hcw' hno hyes how hFw
          repeat go_step
          refine (tPut g F acc s wr htb (by omega) (by omega) (fun W => hmay s W (by omega))).mono ?_
          rintro e w1 ⟨rfl, F1, htb1, ht1, hF1⟩
          have hbw1 : Below w.heap.size w w1 := hbw.trans (ht1.below (fun k _ hk => HX.out k hk) hbw.size)
          have how1 := ht1.own HHO.out (fun k hk hF => HFW.out k hF hk)
          have hX1 : ∀ k, F1 k → w.heap.size ≤ k := fun k hk => by
            rcases hF1 k hk with h | h
            · exact HX.out k h
            · exact Nat.le_trans hbw.size h
          have hFw1 : ∀ k, F1 k → (Value.slice Aw acc0.length cw).ownBlock ≠ some k := fun k hk e => by
            rcases hF1 k hk with h | h
            · exact HFW.out k h e
            · have := (World.ownsRow.lt HHO.out k e).2
              omega
          have hc1 : w1.cell? ⟨b, o + i, none⟩ = some (sv s) := (hbw1.cell (p := ⟨b, o + i, none⟩) hbb).trans HC.out
          have hlen1 := HGD.out.len
          have HX1 := Lib.hid hX1
          have HHO1 := Lib.hid how1
          have HFW1 := Lib.hid hFw1
          clear htb hbw ht1 hF1 hX1 how1 hFw1 HX HHO HFW hc
          dsimp only
          repeat go_step
          refine (tFind g F1 (putL acc s).1 s w1 htb1 (by simp only [maxLen]; omega)).mono ?_
          rintro e w2 ⟨rfl, rfl⟩
          dsimp only
          repeat go_step
          cases hm : mayB s with
          | false =>
            have hp := (HNO.out hm).1
            have hfn := (HNO.out hm).2
            have HP := Lib.hid hp
            rw [hp] at HGD HSU htb1 hlen1 ⊢
            rw [hfn]
            dsimp only [Option.getD, Option.isSome]
            have HN := Lib.hid hm
            clear hp hfn HNO HYES hm
            refine (tName g F1 acc 0 w1 htb1 (by omega)).mono ?_
            rintro e w2 ⟨rfl, rfl⟩
            generalize acc.getD 0 ⟨#[]⟩ = nm
            generalize decide (0 < acc.length) = isn
            dsimp only
            go_wp2_with (go_at_call 15; refine (hmay s _ (by omega)).mono ?_; rintro e w2 ⟨rfl, rfl⟩; rw [HN.out])
            go_roundw
            case rel => exact ⟨i + 1, F1, acc, by omega, by go_num, HGD.out.mono (by omega), HSU.out, htb1, HX1.out, HHO1.out, HFW1.out, hbw1⟩
            case measure => simp [intOf]; omega
          | true =>
            have hy := HYES.out hm
            obtain ⟨q, hq⟩ : ∃ q, putL acc s = q := ⟨_, rfl⟩
            obtain ⟨acc1, num, err⟩ := q
            rw [hq] at hy HGD HSU htb1 hlen1 ⊢
            dsimp only at hy hlen1 ⊢
            obtain ⟨rfl, hfn⟩ := hy
            rw [hfn]
            dsimp only [Option.getD, Option.isSome]
            have hnl := findO_lt hfn
            have hgt := findO_get hfn
            have hnm : acc1.getD num ⟨#[]⟩ = s := by rw [List.getD_eq_getElem?_getD, hgt]; rfl
            have HN := Lib.hid hm
            have hnb : num < 4294967296 := by omega
            clear hq hfn HNO HYES hm hgt
            refine (tName g F1 acc1 num w1 htb1 hnb).mono ?_
            rintro e w2 ⟨rfl, rfl⟩
            rw [hnm, decide_eq_true hnl]
            clear hnm
            dsimp only
            go_wp2_with (go_at_call 15; refine (hmay s _ (by omega)).mono ?_; rintro e w2 ⟨rfl, rfl⟩; rw [HN.out])
            go_roundw
            case rel => exact ⟨i + 1, F1, acc1, by omega, by go_num, HGD.out.mono (by omega), HSU.out, htb1, HX1.out, HHO1.out, HFW1.out, hbw1⟩
            case measure => simp [intOf]; omega
        · obtain rfl : n1 = i := by omega
          rename World => W3
          have hal1 := hgd.len
          repeat go_step
          refine (tList g F acc W3 htb (by omega)).mono ?_
          rintro e W4 ⟨An, cn, rfl, hon, hb4⟩
          have htb4 := htb.later hb4
          have hbw4 := hbw.trans (hb4.mono hbw.size)
          have how4 := (Turn.ofBelow (G := fun _ => False) hb4).own how (fun _ _ h => h)
          have hcn : acc.length ≤ cn := by
            obtain ⟨A', c', e, hle⟩ := ownForm hon
            simp only [Value.slice.injEq] at e
            omega
          obtain ⟨r, hr⟩ := hsuf
          have hle : acc0.length ≤ acc.length := by rw [hr]; simp
          have htk : acc.take acc0.length = acc0 := by rw [hr]; simp
          have hrn : Rd W4 W4.heap.size 1 An acc.length (acc.map sv) := Rd.ofOwn hon
          have hrw : Rd W4 W4.heap.size 1 Aw acc0.length (acc0.map sv) := Rd.ofOwn how4
          have HRN := Lib.hid hrn
          have HRW := Lib.hid hrw
          have HTK := Lib.hid htk
          have hd1 : decide ((acc.length : Int) < (acc0.length : Int)) = false := by simp; omega
          have hlc : (acc0.length : Int) ≤ (cn : Int) := by omega
          have HG := Lib.hid (show Good 4096 acc from hgd.mono (by omega))
          have hrt : Rd W4 W4.heap.size 1 An acc0.length (acc0.map sv) := by
            have h := hrn.cut1 (k := 0) (m := acc0.length) (cap := cn) (by omega) hle hcn
            have hA : (if cn = 0 then An else An.map (fun y => y.add 0)) = An := by
              split
              · rfl
              · cases An <;> simp [Addr.add]
            rw [hA] at h
            simp only [List.drop_zero, Nat.sub_zero] at h
            rwa [← List.map_take, HTK.out] at h
          have HRT := Lib.hid hrt
          clear htb hb4 how how4 hr htk hrn hrw hrt hon hgd hFw hX hbw
          dsimp only
          repeat (first | go_skip | go_guarded | go_step)
          refine (rSame_any An Aw acc0.length cn acc0.length cw W4.heap.size W4.heap.size acc0 acc0 W4 HRT.out HRW.out (by omega)).mono ?_
          rintro e W5 ⟨rfl, q5, hw5⟩
          rw [show decide (acc0 = acc0) = true from decide_eq_true rfl]
          have hb45 : Below W4.heap.size W4 W5 := by rw [hw5]; exact belowDrews (Below.refl _ _) q5
          have htb5 := htb4.later hb45
          clear hw5
          dsimp only
          repeat (first | go_skip | go_guarded | go_step)
          refine (tLen g F acc W5 htb5).mono ?_
          rintro e w6 ⟨rfl, rfl⟩
          clear htb4 htb5
          dsimp only
          go_wp2
          go_loopw [16] (fun p wr => ∃ (i : Nat), i ≤ acc.length ∧ p = .int .i64 (i : Int) ∧ Below W4.heap.size W4 wr)
            (fun p _ => acc.length - (intOf p).toNat)
          case atStart => exact ⟨0, by omega, rfl, hb45⟩
          case round =>
            clear hb45
            obtain ⟨i, hi, rfl, hb5⟩ := hrel
            by_cases hlt : i < acc.length
            · have hci : (i : Int) < (acc.length : Int) := by omega
              rename World => V
              repeat go_step
              go_loopw [17] (fun p wr => ∃ (k : Nat), k ≤ i ∧ p = .int .i64 (k : Int) ∧ Below W4.heap.size W4 wr)
                (fun p _ => i - (intOf p).toNat)
              case atStart => exact ⟨0, by omega, rfl, hb5⟩
              case round =>
                clear hb5
                obtain ⟨k, hk, rfl, hb6⟩ := hrel
                by_cases hlk : k < i
                · have hck : (k : Int) < (i : Int) := by omega
                  have hck2 : (k : Int) < (acc.length : Int) := by omega
                  obtain ⟨b, o, x, hA, hbb, hx, hc⟩ := rdS_at (HRN.out.below hb6) hlt
                  obtain ⟨b', o', y, hA', hbb', hy, hc'⟩ := rdS_at (HRN.out.below hb6) (show k < acc.length by omega)
                  subst hA
                  simp only [Option.some.injEq, Addr.mk.injEq] at hA'
                  obtain ⟨rfl, rfl, _⟩ := hA'
                  have hq := neS (nodup_ne HG.out.nodup hlk hx hy)
                  obtain ⟨V2, hV2⟩ : ∃ V, V = wr := ⟨_, rfl⟩
                  have HC : Hid (V2.drew.cell? ⟨b, o + i, none⟩ = some (sv x)) := by rw [hV2]; exact hc
                  have HC' : Hid (V2.drew.cell? ⟨b, o + k, none⟩ = some (sv y)) := by rw [hV2]; exact hc'
                  have HB6 : Hid (Below W4.heap.size W4 V2.drew) := by rw [hV2]; exact hb6.drew
                  rw [← hV2]
                  clear hx hy hc hc' hb6 hV2
                  repeat go_step
                  refine wp_region_any (by kernel_rfl) ?_
                  try (change wpAny _ _ _ _ _ _ _ (World.drew _))
                  refine wpAny_meet (b := ?ad1) (fun V => V = World.drew V2) ?cd1 ?rd1
                  case rd1 =>
                    intro hEnd
                    have hf0 : World.drew V2 = World.drew V2 := rfl
                    refine wpAny_take (i := 0) (oi := ?oid2) (v := ?vd2) ?hod2 (by kernel_rfl) ?hfd2 ?hrd2 ?hQd2 ?hyd2 ?restd2
                    case hod2 => (simp only [List.getElem?_toArray, List.getElem?_cons_succ, List.getElem?_cons_zero]; exact rfl)
                    case hfd2 => kernel_rfl
                    case hrd2 => kernel_rfl
                    case hQd2 => exact fun _ _ _ h => h
                    case hyd2 =>
                      refine Or.inl ⟨by rfl, ?_⟩
                      intro w
                      go_simp
                      (try with_reducible rfl)
                    try simp only [Act.put, List.setIfInBounds_toArray, List.set_cons_zero, List.set_cons_succ]
                    refine wpAny_take (i := 1) (oi := ?oid3) (v := ?vd3) ?hod3 (by kernel_rfl) ?hfd3 ?hrd3 ?hQd3 ?hyd3 ?restd3
                    case hod3 => (simp only [List.getElem?_toArray, List.getElem?_cons_succ, List.getElem?_cons_zero]; exact rfl)
                    case hfd3 => kernel_rfl
                    case hrd3 => kernel_rfl
                    case hQd3 => exact fun _ _ _ h => h
                    case hyd3 =>
                      refine Or.inl ⟨by rfl, ?_⟩
                      intro w
                      go_simp
                      (try with_reducible rfl)
                    try simp only [Act.put, List.setIfInBounds_toArray, List.set_cons_zero, List.set_cons_succ]
                    refine wpAny_take (i := 2) (oi := ?oid4) (v := ?vd4) ?hod4 (by kernel_rfl) ?hfd4 ?hrd4 ?hQd4 ?hyd4 ?restd4
                    case hod4 => (simp only [List.getElem?_toArray, List.getElem?_cons_succ, List.getElem?_cons_zero]; exact rfl)
                    case hfd4 => kernel_rfl
                    case hrd4 => kernel_rfl
                    case hQd4 => exact fun _ _ _ h => h
                    case hyd4 =>
                      refine Or.inl ⟨by rfl, ?_⟩
                      intro w
                      go_simp
                      (try with_reducible rfl)
                    try simp only [Act.put, List.setIfInBounds_toArray, List.set_cons_zero, List.set_cons_succ]
                    refine wpAny_take (i := 4) (oi := ?oid5) (v := ?vd5) ?hod5 (by kernel_rfl) ?hfd5 ?hrd5 ?hQd5 ?hyd5 ?restd5
                    case hod5 => (simp only [List.getElem?_toArray, List.getElem?_cons_succ, List.getElem?_cons_zero]; exact rfl)
                    case hfd5 => kernel_rfl
                    case hrd5 => kernel_rfl
                    case hQd5 => exact fun _ _ _ h => h
                    case hyd5 =>
                      refine Or.inl ⟨by rfl, ?_⟩
                      intro w
                      go_simp
                      (try with_reducible rfl)
                    try simp only [Act.put, List.setIfInBounds_toArray, List.set_cons_zero, List.set_cons_succ]
                    refine wpAny_take (i := 5) (oi := ?oid6) (v := ?vd6) ?hod6 (by kernel_rfl) ?hfd6 ?hrd6 ?hQd6 ?hyd6 ?restd6
                    case hod6 => (simp only [List.getElem?_toArray, List.getElem?_cons_succ, List.getElem?_cons_zero]; exact rfl)
                    case hfd6 => kernel_rfl
                    case hrd6 => kernel_rfl
                    case hQd6 => exact fun _ _ _ h => h
                    case hyd6 =>
                      refine Or.inl ⟨by rfl, ?_⟩
                      intro w
                      go_simp
                      (try with_reducible rfl)
                    try simp only [Act.put, List.setIfInBounds_toArray, List.set_cons_zero, List.set_cons_succ]
                    refine wpAny_take (i := 6) (oi := ?oid7) (v := ?vd7) ?hod7 (by kernel_rfl) ?hfd7 ?hrd7 ?hQd7 ?hyd7 ?restd7
                    case hod7 => (simp only [List.getElem?_toArray, List.getElem?_cons_succ, List.getElem?_cons_zero]; exact rfl)
                    case hfd7 => kernel_rfl
                    case hrd7 => kernel_rfl
                    case hQd7 => exact fun _ _ _ h => h
                    case hyd7 =>
                      refine Or.inl ⟨by rfl, ?_⟩
                      intro w
                      go_simp
                      (try with_reducible rfl)
                    try simp only [Act.put, List.setIfInBounds_toArray, List.set_cons_zero, List.set_cons_succ]
                    refine wpAny_ready (rs := [3, 7]) (by kernel_rfl) (by simp) ?_
                    refine AllReady.cons (o := ?od8) ?hod8 (fun K hK => ?kd8) ?md8
                    case hod8 => (simp only [List.getElem?_toArray, List.getElem?_cons_succ, List.getElem?_cons_zero]; exact rfl)
                    case kd8 =>
                      refine anyd_loadStr (by rfl) (.tmp 144) rfl b (o + i) _ (by rfl) HC.out ?_
                      refine hK _ _ ?_
                      clear hK K
                      try simp only [Act.put, List.setIfInBounds_toArray, List.set_cons_zero, List.set_cons_succ]
                      refine wpAny_ready (rs := [7]) (by kernel_rfl) (by simp) ?_
                      refine AllReady.cons (o := ?od9) ?hod9 (fun K hK => ?kd9) ?md9
                      case hod9 => (simp only [List.getElem?_toArray, List.getElem?_cons_succ, List.getElem?_cons_zero]; exact rfl)
                      case kd9 =>
                        refine anyd_loadStr (by rfl) (.tmp 148) rfl b (o + k) _ (by rfl) HC'.out ?_
                        refine hK _ _ ?_
                        clear hK K
                        try simp only [Act.put, List.setIfInBounds_toArray, List.set_cons_zero, List.set_cons_succ]
                        refine wpAny_take (i := 8) (oi := ?oid10) (v := ?vd10) ?hod10 (by kernel_rfl) ?hfd10 ?hrd10 ?hQd10 ?hyd10 ?restd10
                        case hod10 => (simp only [List.getElem?_toArray, List.getElem?_cons_succ, List.getElem?_cons_zero]; exact rfl)
                        case hfd10 => kernel_rfl
                        case hrd10 => kernel_rfl
                        case hQd10 => exact fun _ _ _ h => h
                        case hyd10 =>
                          refine Or.inl ⟨by rfl, ?_⟩
                          intro w
                          go_simp
                          (try with_reducible rfl)
                        try simp only [Act.put, List.setIfInBounds_toArray, List.set_cons_zero, List.set_cons_succ]
                        exact wpAny_done (by kernel_rfl) (hEnd _ hf0) _
                      exact AllReady.nil
                    refine AllReady.cons (o := ?od11) ?hod11 (fun K hK => ?kd11) ?md11
                    case hod11 => (simp only [List.getElem?_toArray, List.getElem?_cons_succ, List.getElem?_cons_zero]; exact rfl)
                    case kd11 =>
                      refine anyd_loadStr (by rfl) (.tmp 148) rfl b (o + k) _ (by rfl) HC'.out ?_
                      refine hK _ _ ?_
                      clear hK K
                      try simp only [Act.put, List.setIfInBounds_toArray, List.set_cons_zero, List.set_cons_succ]
                      refine wpAny_ready (rs := [3]) (by kernel_rfl) (by simp) ?_
                      refine AllReady.cons (o := ?od12) ?hod12 (fun K hK => ?kd12) ?md12
                      case hod12 => (simp only [List.getElem?_toArray, List.getElem?_cons_succ, List.getElem?_cons_zero]; exact rfl)
                      case kd12 =>
                        refine anyd_loadStr (by rfl) (.tmp 144) rfl b (o + i) _ (by rfl) HC.out ?_
                        refine hK _ _ ?_
                        clear hK K
                        try simp only [Act.put, List.setIfInBounds_toArray, List.set_cons_zero, List.set_cons_succ]
                        refine wpAny_take (i := 8) (oi := ?oid13) (v := ?vd13) ?hod13 (by kernel_rfl) ?hfd13 ?hrd13 ?hQd13 ?hyd13 ?restd13
                        case hod13 => (simp only [List.getElem?_toArray, List.getElem?_cons_succ, List.getElem?_cons_zero]; exact rfl)
                        case hfd13 => kernel_rfl
                        case hrd13 => kernel_rfl
                        case hQd13 => exact fun _ _ _ h => h
                        case hyd13 =>
                          refine Or.inl ⟨by rfl, ?_⟩
                          intro w
                          go_simp
                          (try with_reducible rfl)
                        try simp only [Act.put, List.setIfInBounds_toArray, List.set_cons_zero, List.set_cons_succ]
                        exact wpAny_done (by kernel_rfl) (hEnd _ hf0) _
                      exact AllReady.nil
                    exact AllReady.nil
                  case cd1 =>
                    rintro V3 rfl
                    repeat go_step
                    go_roundw
                    case rel => exact ⟨k + 1, by omega, by go_num, HB6.out⟩
                    case measure => simp [intOf]; omega
                · obtain rfl : i = k := by omega
                  go_wp2
                  go_roundw
                  case rel => exact ⟨i + 1, by omega, by go_num, hb6⟩
                  case measure => simp [intOf]; omega
            · obtain rfl : acc.length = i := by omega
              rename World => V
              have hbV : Below w.heap.size w V := hbw4.trans (hb5.mono hbw4.size)
              have hrV : Rd V V.heap.size 1 An acc.length (acc.map sv) := (HRN.out.below hb5).more hb5.size
              have HRV := Lib.hid hrV
              have hof := ofL_good acc [] (by simpa using HG.out)
              rw [List.nil_append] at hof
              have HOF := Lib.hid hof
              have HMY := Lib.hid (show ∀ s ∈ acc, s.size ≤ 1099511627776 from fun s hs => by
                have h1 := HG.out.may s hs
                unfold mayB at h1
                simp only [Bool.and_eq_true, decide_eq_true_eq] at h1
                omega)
              clear hb5 hrV hof hbw4 hi hlt
              repeat go_step
              refine (tOf hmay An acc.length cn acc V HRV.out (by omega) HMY.out).mono ?_
              rintro e V1 ⟨hb1, hor⟩
              rw [HOF.out] at hor
              rcases hor with ⟨_, g2, F2, rfl, htb2, hF2⟩ | ⟨h, _⟩
              · dsimp only at htb2
                have hbV1 := hbV.trans (hb1.mono hbV.size)
                have HR1 := Lib.hid (HRV.out.below hb1)
                have hz1 := hb1.size
                clear hF2 hb1 hbV
                dsimp only
                repeat (first | go_skip | go_guarded | go_step)
                refine (tList g2 F2 acc V1 htb2 (by omega)).mono ?_
                rintro e V2 ⟨Au, cu, rfl, hou, hb2⟩
                have hbV2 := hbV1.trans (hb2.mono hbV1.size)
                have hru : Rd V2 V2.heap.size 1 Au acc.length (acc.map sv) := Rd.ofOwn hou
                have HRU := Lib.hid hru
                have HR2 := Lib.hid (HR1.out.below (hb2.mono hz1))
                clear hou hb2 hbV1 hru htb2
                dsimp only
                repeat (first | go_skip | go_guarded | go_step)
                refine (rSame_any Au An acc.length cu acc.length cn V2.heap.size V.heap.size acc acc V2 HRU.out HR2.out (by omega)).mono ?_
                rintro e V3 ⟨rfl, q3, hw3⟩
                rw [show decide (acc = acc) = true from decide_eq_true rfl]
                have hbV3 : Below w.heap.size w V3 := by rw [hw3]; exact belowDrews hbV2 q3
                clear hw3 hbV2
                dsimp only
                go_wp2_with (go_at_call 9; refine (works_any hmay _).mono ?_; rintro e w2 ⟨rfl, hb2⟩)
                go_ret
                exact ⟨rfl, hbV3.trans (hb2.mono hbV3.size)⟩
              · exact absurd rfl h

set_option maxRecDepth 100000 in
theorem lifted (os : Os) (started : os.Started) (H : Type) (enc : TypeId × Value → H) :
    ReturnsInHanded {} Try.checked os 4 .any (Rows.symsStaySpec.pre6 enc Try.prog Try.f4 Rows.symsStayRow.domain false) (Rows.symsStaySpec.post enc Try.prog Try.f4 false true false false) := by
  refine returnsInHanded_of_change_sized (C := Try.checked) ownK started (by kernel_rfl) Try.func4
    (ChangeSpec.witness6 (enc := enc) (C := Try.checked) false ⟨#[], #[.slice none 0 0, .slice none 0 0], []⟩ 8 (by kernel_rfl) (by kernel_rfl) (by kernel_rfl) (by kernel_rfl)) ?_
  intro W base args ds gs before hval0 hW hcnd hsz0 _
  have hsz : (DataW.weightsEach Try.prog (Try.f4.params.toList ++ Rows.symsStaySpec.plain.varTypes Try.prog) (ds ++ gs)).all (· ≤ reachBytes) = true := hsz0
  have hval : ∀ (j : Nat) t v, Try.f4.params[j]? = some t → args[j]? = some v → Value.okWide Try.prog W .any base t v := hval0
  have hlt : ∀ x ∈ before, x.block < W.heap.size := fun x hx => by simpa using hW.lt x hx
  have hW' := hW
  obtain ⟨p, q, hA0, hV, rfl, hfz, hnd⟩ := hW
  have hA : DataW.TrodAll enc Try.prog W 0 (fun _ => true) true Try.f4.params.toList args.toList ds p := hA0
  rw [Try.params4] at hA hval hsz
  obtain ⟨v0, vs0, d0, ds0, p0, q0, hargs, rfl, rfl, h0, r0⟩ := trodAll_cons hA
  obtain ⟨v1, vs1, d1, ds1, p1, q1, rfl, rfl, rfl, h1, r1⟩ := trodAll_cons r0
  obtain ⟨rfl, rfl, rfl⟩ := trodAll_nil r1
  obtain rfl : args = #[v0, v1] := by cases args; simp_all
  obtain ⟨rfl, rfl⟩ := trodVars_none hV
  obtain ⟨A1, n1, c1, l1, rfl, hk1, hm1, hr1, hz1⟩ := open_names (hval 1 22 v1 rfl rfl) h1 (fun x hx => hlt x (by simp [hx]))
  obtain ⟨A0, n0, c0, l0, rfl, hk0, hm0, hr0, hz0⟩ := open_names (hval 0 22 v0 rfl rfl) h0 (fun x hx => hlt x (by simp [hx]))
  have main : Calls Try.prog 4 #[.slice A0 n0 c0, .slice A1 n1 c1] W fun e w' => e = .returned (.bool true) ∧ Below W.heap.size W w' := by
    by_cases hb : (decide (n0 ≤ 300) && fewB l0) = true ∧ (decide (n1 ≤ 300) && fewB l1) = true
    · exact walk may_ok A0 A1 n0 c0 n1 c1 l0 l1 W hr0 hr1 hb.1 hb.2
    · refine walkBig may_ok A0 A1 n0 c0 n1 c1 l0 l1 W hr0 hr1 ?_
      rcases hx : (decide (n0 ≤ 300) && fewB l0) with _ | _
      · exact .inl rfl
      · refine .inr ?_
        rcases hy : (decide (n1 ≤ 300) && fewB l1) with _ | _
        · rfl
        · exact absurd ⟨hx, hy⟩ hb
  refine main.mono fun e W' ⟨he, hg⟩ => ?_
  subst he
  exact ⟨_, rfl, post_law laidOut rfl (by kernel_rfl) hW' hg rfl Try.underlying4 rfl rfl rfl⟩

theorem proved : Rows.SymsStaySaid :=
  OpenClaim.holds_of_wide 4 Try.f4 rfl rfl rfl rfl rfl rfl rfl ⟨rfl, rfl, rfl, rfl, rfl⟩ rfl rfl rfl rfl rfl (by kernel_rfl) Try.func4 (by kernel_rfl)
    (of_decide_eq_true (by kernel_rfl)) (by unfold Func.isWrapper; first | (rw [if_pos (by decide +kernel)]; kernel_rfl) | (rw [if_neg (by decide +kernel)]; exact ⟨rfl, rfl⟩))
    (fun os started H enc _ => lifted os started H enc)
#print axioms proved
end Go.Proofs.Ytaejidchoaejkaa.symsStay
