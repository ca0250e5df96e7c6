/- SymsPlays: whatever names are put, at once or one by one: each number, and all that is told. No condition. -/
import Derived.Test.YtaejidchoaejkaaSyAl
import Derived.Test.YtaejidchoaejkaaSyO
import Derived.Test.YtaejidchoaejkaaSyY
set_option linter.unusedVariables false
set_option linter.unusedSimpArgs false
namespace Go.Proofs.Ytaejidchoaejkaa.symsPlays
open Go Go.RowKit Go.ChangeShapes Go.WideShapes Go.ChangeAt

theorem few_all (A : Option Addr) (n c : Nat) (l : List ByteArray) (w : World) (h : Rd w w.heap.size 1 A n (l.map sv)) :
    Calls Try.prog 8 #[.slice A n c] w fun e w' => e = .returned (.bool (decide (n ≤ 300) && fewB l)) ∧ w = w' := by
  by_cases hn : n ≤ 300
  · rw [decide_eq_true hn, Bool.true_and]
    exact few_any A n c _ l w h hn
  · rw [decide_eq_false hn, Bool.false_and]
    exact few_big A n c w (by omega)
theorem ofL_ok : ∀ (r acc : List ByteArray) (n : Nat), Good n acc → n + r.length ≤ 4000 → (ofL acc r).2 = 0 → Good (n + r.length) (ofL acc r).1
  | [], acc, n, h, _, _ => by simpa [ofL] using h
  | s :: r, acc, n, h, hn, h0 => by
    rw [ofL] at h0 ⊢
    by_cases he : (putL acc s).2.2 = 0
    · rw [if_pos he] at h0 ⊢
      simp only [List.length_cons] at hn ⊢
      have := ofL_ok r (putL acc s).1 (n + 1) (putL_good s h (by omega)) (by omega) h0
      rwa [show n + (r.length + 1) = n + 1 + r.length by omega]
    · rw [if_neg he] at h0
      exact absurd h0 he

set_option maxRecDepth 100000 in
set_option maxHeartbeats 1000000 in
theorem walkBig (hmay : MayOk) (A0 A1 A2 : Option Addr) (n0 c0 n1 c1 n2 c2 : Nat) (l0 l1 l2 : List ByteArray) (w : World) (h0 : Rd w w.heap.size 1 A0 n0 (l0.map sv)) (h1 : Rd w w.heap.size 1 A1 n1 (l1.map sv)) (h2 : Rd w w.heap.size 1 A2 n2 (l2.map sv))
    (hb : ¬ ((decide (n0 ≤ 300) && fewB l0) = true ∧ (decide (n1 ≤ 300) && fewB l1) = true ∧ (decide (n2 ≤ 300) && fewB l2) = true)) :
    Calls Try.prog 3 #[.slice A0 n0 c0, .slice A1 n1 c1, .slice A2 n2 c2] w fun e w' => e = .returned (.bool true) ∧ Below w.heap.size w w' := by
  have HF0 := Lib.hid (few_all A0 n0 c0 l0 w h0)
  have HF1 := Lib.hid (few_all A1 n1 c1 l1 w h1)
  have HF2 := Lib.hid (few_all A2 n2 c2 l2 w h2)
  clear h0 h1 h2
  generalize (decide (n0 ≤ 300) && fewB l0) = b0 at *
  generalize (decide (n1 ≤ 300) && fewB l1) = b1 at *
  generalize (decide (n2 ≤ 300) && fewB l2) = b2 at *
  go_enter Try.func3, Try.ntmps3
  repeat go_step
  refine HF0.out.mono ?_
  rintro e w1 ⟨rfl, rfl⟩
  cases b0 with
  | false =>
    dsimp only
    go_wp2_with (go_at_call 9; refine (works_any hmay _).mono ?_; rintro e w2 ⟨rfl, hb2⟩)
    go_ret
    exact ⟨rfl, hb2⟩
  | true =>
    dsimp only
    repeat (first | go_skip | go_guarded | go_step)
    refine HF1.out.mono ?_
    rintro e w1 ⟨rfl, rfl⟩
    cases b1 with
    | false =>
      dsimp only
      go_wp2_with (go_at_call 9; refine (works_any hmay _).mono ?_; rintro e w2 ⟨rfl, hb2⟩)
      go_ret
      exact ⟨rfl, hb2⟩
    | true =>
      dsimp only
      repeat (first | go_skip | go_guarded | go_step)
      refine HF2.out.mono ?_
      rintro e w1 ⟨rfl, rfl⟩
      cases b2 with
      | false =>
        dsimp only
        go_wp2_with (go_at_call 9; refine (works_any hmay _).mono ?_; rintro e w2 ⟨rfl, hb2⟩)
        go_ret
        exact ⟨rfl, hb2⟩
      | true => exact absurd ⟨rfl, rfl, rfl⟩ hb

set_option maxRecDepth 100000 in
set_option maxHeartbeats 8000000 in
theorem walk (hmay : MayOk) (A0 A1 A2 : Option Addr) (n0 c0 n1 c1 n2 c2 : Nat) (l0 l1 l2 : List ByteArray) (w : World) (h0 : Rd w w.heap.size 1 A0 n0 (l0.map sv)) (h1 : Rd w w.heap.size 1 A1 n1 (l1.map sv)) (h2 : Rd w w.heap.size 1 A2 n2 (l2.map sv))
    (hf0 : (decide (n0 ≤ 300) && fewB l0) = true) (hf1 : (decide (n1 ≤ 300) && fewB l1) = true) (hf2 : (decide (n2 ≤ 300) && fewB l2) = true) :
    Calls Try.prog 3 #[.slice A0 n0 c0, .slice A1 n1 c1, .slice A2 n2 c2] w fun e w' => e = .returned (.bool true) ∧ Below w.heap.size w w' := by
  have HF0 := Lib.hid (few_all A0 n0 c0 l0 w h0)
  have HF1 := Lib.hid (few_all A1 n1 c1 l1 w h1)
  have HF2 := Lib.hid (few_all A2 n2 c2 l2 w h2)
  rw [hf0] at HF0
  rw [hf1] at HF1
  rw [hf2] at HF2
  simp only [Bool.and_eq_true, decide_eq_true_eq] at hf0 hf1 hf2
  obtain ⟨hn0, hq0⟩ := hf0
  obtain ⟨hn1, hq1⟩ := hf1
  obtain ⟨hn2, hq2⟩ := hf2
  have HS0 := Lib.hid (show ∀ s ∈ l0, s.size ≤ 200 from fun s hs => by simpa using List.all_eq_true.1 hq0 s hs)
  have HS1 := Lib.hid (show ∀ s ∈ l1, s.size ≤ 200 from fun s hs => by simpa using List.all_eq_true.1 hq1 s hs)
  have HS2 := Lib.hid (show ∀ s ∈ l2, s.size ≤ 200 from fun s hs => by simpa using List.all_eq_true.1 hq2 s hs)
  have H0 := Lib.hid h0
  have H1 := Lib.hid h1
  have H2 := Lib.hid h2
  have HL0 := Lib.hid (show l0.length = n0 by simpa using h0.len1)
  clear h0 h1 h2 hq0 hq1 hq2
  go_enter Try.func3, Try.ntmps3
  repeat go_step
  refine HF0.out.mono ?_
  rintro e w1 ⟨rfl, rfl⟩
  dsimp only
  repeat (first | go_skip | go_guarded | go_step)
  refine HF1.out.mono ?_
  rintro e w1 ⟨rfl, rfl⟩
  dsimp only
  repeat (first | go_skip | go_guarded | go_step)
  refine HF2.out.mono ?_
  rintro e w1 ⟨rfl, rfl⟩
  clear HF0 HF1 HF2
  dsimp only
  repeat (first
    | (at_builtin; refine appS _ rfl (.tmp 33) (.tmp 34) rfl w.heap.size _ 0 0 [] rfl (owSLit0 w _ (Nat.le_refl _)) w.heap.size A0 n0 c0 l0 rfl (H0.out.alloc (Nat.le_refl _) _) (by omega) (by simp) ?_; intro A3 c3 W1 ho1 hg1 _)
    | go_skip | go_guarded | go_step)
  have hb1 := owsBelow ((Below.refl _ _).alloc (Nat.le_refl _) _) (owSLit0 w _ (Nat.le_refl _)) hg1 (by simp)
  rw [Nat.zero_add, List.nil_append] at ho1
  clear hg1
  refine (tOf hmay A3 n0 c3 l0 W1 (Rd.ofOwn ho1) (by omega) (fun s hs => by have := HS0.out s hs; omega)).mono ?_
  rintro e W2 ⟨hb2, hor⟩
  have hbw2 := hb1.trans (hb2.mono hb1.size)
  have hz12 : w.heap.size ≤ W1.heap.size := hb1.size
  clear ho1 hb1 hb2
  rcases hor with ⟨hok, g, F, rfl, htb, hF⟩ | ⟨hbad, rfl⟩
  · dsimp only
    have hgd := ofL_ok l0 [] 0 (Good.nil 0) (by have := HL0.out; omega) hok
    have hFw : ∀ k, F k → w.heap.size ≤ k := fun k hk => Nat.le_trans hz12 (hF k hk)
    repeat (first | go_skip | go_guarded | go_step)
    refine (rOf_any A0 n0 c0 l0 W2 ((H0.out.below hbw2).more hbw2.size) (by omega) (fun s hs => by have := HS0.out s hs; omega)).mono ?_
    rintro e W3 ⟨hb3, hor⟩
    rcases hor with ⟨_, X, rfl, hrt, hX⟩ | ⟨h, _⟩
    · obtain ⟨acc, hac⟩ : ∃ a, (ofL [] l0).1 = a := ⟨_, rfl⟩
      rw [hac] at hgd htb hrt
      have htb3 := htb.later hb3
      have hdis : ∀ k, F k → ¬ Fp1 W2.heap.size X k := fun k h1 h2 => by
        have h3 := htb.lt k h1
        rcases h2 with rfl | h2
        · omega
        · have := hX k h2
          omega
      have hXw : ∀ k, Fp1 W2.heap.size X k → w.heap.size ≤ k := fun k h => by
        rcases h with rfl | h
        · exact hbw2.size
        · exact Nat.le_trans hbw2.size (hX k h)
      have hbw3 := hbw2.trans (hb3.mono hbw2.size)
      have hgd3 : Good 300 acc := hgd.mono (by have := HL0.out; omega)
      obtain ⟨gr, hgr⟩ : ∃ k, k = W2.heap.size := ⟨_, rfl⟩
      rw [← hgr] at hrt hdis hXw ⊢
      clear htb hb3 hF hX hok hac hgd hgr hbw2 hz12
      dsimp only
      repeat (first | go_skip | go_guarded | go_step)
      go_loopw [11] (fun p wr => ∃ (i : Nat) (F : Nat → Prop) (X : Option Nat) (acc : List ByteArray), i ≤ n1 ∧ p = .int .i64 (i : Int) ∧ Good (300 + i) acc ∧ Tb wr g F acc ∧ RT wr gr X acc ∧ (∀ k, F k → ¬ Fp1 gr X k) ∧ (∀ k, F k → w.heap.size ≤ k) ∧ (∀ k, Fp1 gr X k → w.heap.size ≤ k) ∧ Below w.heap.size w wr)
        (fun p _ => n1 - (intOf p).toNat)
      case atStart => exact ⟨0, F, X, acc, by omega, rfl, hgd3, htb3, hrt, hdis, hFw, hXw, hbw3⟩
      case round =>
        clear hgd3 htb3 hrt hdis hFw hXw hbw3
        obtain ⟨i, F, X, acc, hi, rfl, hgd, htb, hrt, hdis, hFw, hXw, hbw⟩ := hrel
        by_cases hlt : i < n1
        · have hci : (i : Int) < (n1 : Int) := by omega
          obtain ⟨b, o, s, hA, hbb, hx, hc⟩ := rdS_at (H1.out.below hbw) hlt
          subst hA
          have hsz := HS1.out s (List.mem_of_getElem? hx)
          have hal := hgd.len
          have HGD := Lib.hid (putL_good s hgd (by omega))
          have HC := Lib.hid ((hbw.cell (p := ⟨b, o + i, none⟩) hbb).symm.trans hc)
          have HDI := Lib.hid hdis
          have HFW := Lib.hid hFw
          have HXW := Lib.hid hXw
          clear hx hgd hdis hFw hXw
          repeat (first | go_skip | go_guarded | go_step)
          refine (tPut g F acc s wr htb (by omega) (by omega) (fun W => hmay s W (by omega))).mono ?_
          rintro e w1 ⟨rfl, F1, htb1, ht1, hF1⟩
          have hrt1 := hrt.turn ht1 (fun k h1 h2 => HDI.out k h2 h1)
          have hbw1 : Below w.heap.size w w1 := hbw.trans (ht1.below (fun k _ hk => HFW.out k hk) hbw.size)
          have HD1 := Lib.hid (show ∀ k, F1 k → ¬ Fp1 gr X k from fun k hk h2 => by
            rcases hF1 k hk with h | h
            · exact HDI.out k h h2
            · have := hrt.lt k h2
              omega)
          have HF1w := Lib.hid (show ∀ k, F1 k → w.heap.size ≤ k from fun k hk => by
            rcases hF1 k hk with h | h
            · exact HFW.out k h
            · exact Nat.le_trans hbw.size h)
          have hc1 : w1.cell? ⟨b, o + i, none⟩ = some (sv s) := (hbw1.cell (p := ⟨b, o + i, none⟩) hbb).trans HC.out
          clear htb hrt ht1 hF1 hbw hc HDI HFW
          dsimp only
          repeat (first | go_skip | go_guarded | go_step)
          refine (rPut_any gr X acc s w1 hrt1 (by omega) (by omega)).mono ?_
          rintro e w2 ⟨rfl, X2, hrt2, ht2, hX2⟩
          have htb2 := htb1.turn ht2 (fun k h1 h2 => HD1.out k h1 h2)
          have hbw2 : Below w.heap.size w w2 := hbw1.trans (ht2.below (fun k _ hk => HXW.out k hk) hbw1.size)
          have HD2 := Lib.hid (show ∀ k, F1 k → ¬ Fp1 gr X2 k from fun k hk h2 => by
            rcases h2 with rfl | h2
            · exact HD1.out _ hk (.inl rfl)
            · rcases hX2 k h2 with h | h
              · exact HD1.out k hk (.inr h)
              · have := htb1.lt k hk
                omega)
          have HX2w := Lib.hid (show ∀ k, Fp1 gr X2 k → w.heap.size ≤ k from fun k hk => by
            rcases hk with rfl | hk
            · exact HXW.out _ (.inl rfl)
            · rcases hX2 k hk with h | h
              · exact HXW.out k (.inr h)
              · exact Nat.le_trans hbw1.size h)
          have HC2 := Lib.hid (show w2.drew.cell? ⟨b, o + i, none⟩ = some (sv s) from (hbw2.cell (p := ⟨b, o + i, none⟩) hbb).trans HC.out)
          have HM := Lib.hid (hmay s w2.drew (by omega))
          have HRM := Lib.hid (rMay_any s w2.drew (by omega))
          have htb3 : Tb w2.drew g F1 _ := htb2
          have hrt3 : RT w2.drew gr X2 _ := hrt2
          have hbw3 : Below w.heap.size w w2.drew := hbw2.drew
          have HT3 := Lib.hid htb3
          have HR3 := Lib.hid hrt3
          have HB3 := Lib.hid hbw3
          clear hrt1 htb1 hbw1 ht2 hX2 hc1 HD1 HXW htb2 hrt2 hbw2 htb3 hrt3 hbw3
          generalize (putL acc s).2.1 = num
          generalize (putL acc s).2.2 = err
          generalize mayB s = mb at *
          dsimp only
          repeat (first | go_skip | go_guarded | go_step)
          cases mb with
          | false =>
            refine wp_region_any (by kernel_rfl) ?_
            try (change wpAny _ _ _ _ _ _ _ (World.drew _))
            refine wpAny_meet (b := ?ad1) (fun V => V = w2.drew) ?cd1 ?rd1
            case rd1 =>
              intro hEnd
              have hf0 : w2.drew = w2.drew := rfl
              refine wpAny_take (i := 0) (oi := ?oid2) (v := ?vd2) ?hod2 (by kernel_rfl) ?hfd2 ?hrd2 ?hQd2 ?hyd2 ?restd2
              case hod2 => (simp only [List.getElem?_toArray, List.getElem?_cons_succ, List.getElem?_cons_zero]; exact rfl)
              case hfd2 => kernel_rfl
              case hrd2 => kernel_rfl
              case hQd2 => exact fun _ _ _ h => h
              case hyd2 =>
                refine Or.inl ⟨by rfl, ?_⟩
                intro w
                go_simp
                (try with_reducible rfl)
              try simp only [Act.put, List.setIfInBounds_toArray, List.set_cons_zero, List.set_cons_succ]
              refine wpAny_take (i := 1) (oi := ?oid3) (v := ?vd3) ?hod3 (by kernel_rfl) ?hfd3 ?hrd3 ?hQd3 ?hyd3 ?restd3
              case hod3 => (simp only [List.getElem?_toArray, List.getElem?_cons_succ, List.getElem?_cons_zero]; exact rfl)
              case hfd3 => kernel_rfl
              case hrd3 => kernel_rfl
              case hQd3 => exact fun _ _ _ h => h
              case hyd3 =>
                refine Or.inl ⟨by rfl, ?_⟩
                intro w
                go_simp
                (try with_reducible rfl)
              try simp only [Act.put, List.setIfInBounds_toArray, List.set_cons_zero, List.set_cons_succ]
              refine wpAny_take (i := 2) (oi := ?oid4) (v := ?vd4) ?hod4 (by kernel_rfl) ?hfd4 ?hrd4 ?hQd4 ?hyd4 ?restd4
              case hod4 => (simp only [List.getElem?_toArray, List.getElem?_cons_succ, List.getElem?_cons_zero]; exact rfl)
              case hfd4 => kernel_rfl
              case hrd4 => kernel_rfl
              case hQd4 => exact fun _ _ _ h => h
              case hyd4 =>
                refine Or.inl ⟨by rfl, ?_⟩
                intro w
                go_simp
                (try with_reducible rfl)
              try simp only [Act.put, List.setIfInBounds_toArray, List.set_cons_zero, List.set_cons_succ]
              refine wpAny_take (i := 3) (oi := ?oid5) (v := ?vd5) ?hod5 (by kernel_rfl) ?hfd5 ?hrd5 ?hQd5 ?hyd5 ?restd5
              case hod5 => (simp only [List.getElem?_toArray, List.getElem?_cons_succ, List.getElem?_cons_zero]; exact rfl)
              case hfd5 => kernel_rfl
              case hrd5 => kernel_rfl
              case hQd5 => exact fun _ _ _ h => h
              case hyd5 =>
                refine Or.inl ⟨by rfl, ?_⟩
                intro w
                go_simp
                (try with_reducible rfl)
              try simp only [Act.put, List.setIfInBounds_toArray, List.set_cons_zero, List.set_cons_succ]
              refine wpAny_take (i := 4) (oi := ?oid6) (v := ?vd6) ?hod6 (by kernel_rfl) ?hfd6 ?hrd6 ?hQd6 ?hyd6 ?restd6
              case hod6 => (simp only [List.getElem?_toArray, List.getElem?_cons_succ, List.getElem?_cons_zero]; exact rfl)
              case hfd6 => kernel_rfl
              case hrd6 => kernel_rfl
              case hQd6 => exact fun _ _ _ h => h
              case hyd6 =>
                refine Or.inl ⟨by rfl, ?_⟩
                intro w
                go_simp
                (try with_reducible rfl)
              try simp only [Act.put, List.setIfInBounds_toArray, List.set_cons_zero, List.set_cons_succ]
              refine wpAny_take (i := 5) (oi := ?oid7) (v := ?vd7) ?hod7 (by kernel_rfl) ?hfd7 ?hrd7 ?hQd7 ?hyd7 ?restd7
              case hod7 => (simp only [List.getElem?_toArray, List.getElem?_cons_succ, List.getElem?_cons_zero]; exact rfl)
              case hfd7 => kernel_rfl
              case hrd7 => kernel_rfl
              case hQd7 => exact fun _ _ _ h => h
              case hyd7 =>
                refine Or.inl ⟨by rfl, ?_⟩
                intro w
                go_simp
                (try with_reducible rfl)
              try simp only [Act.put, List.setIfInBounds_toArray, List.set_cons_zero, List.set_cons_succ]
              refine wpAny_take (i := 6) (oi := ?oid8) (v := ?vd8) ?hod8 (by kernel_rfl) ?hfd8 ?hrd8 ?hQd8 ?hyd8 ?restd8
              case hod8 => (simp only [List.getElem?_toArray, List.getElem?_cons_succ, List.getElem?_cons_zero]; exact rfl)
              case hfd8 => kernel_rfl
              case hrd8 => kernel_rfl
              case hQd8 => exact fun _ _ _ h => h
              case hyd8 =>
                refine Or.inl ⟨by rfl, ?_⟩
                intro w
                go_simp
                (try with_reducible rfl)
              try simp only [Act.put, List.setIfInBounds_toArray, List.set_cons_zero, List.set_cons_succ]
              refine wpAny_take (i := 7) (oi := ?oid9) (v := ?vd9) ?hod9 (by kernel_rfl) ?hfd9 ?hrd9 ?hQd9 ?hyd9 ?restd9
              case hod9 => (simp only [List.getElem?_toArray, List.getElem?_cons_succ, List.getElem?_cons_zero]; exact rfl)
              case hfd9 => kernel_rfl
              case hrd9 => kernel_rfl
              case hQd9 => exact fun _ _ _ h => h
              case hyd9 =>
                refine Or.inl ⟨by rfl, ?_⟩
                intro w
                go_simp
                (try with_reducible rfl)
              try simp only [Act.put, List.setIfInBounds_toArray, List.set_cons_zero, List.set_cons_succ]
              refine wpAny_take (i := 8) (oi := ?oid10) (v := ?vd10) ?hod10 (by kernel_rfl) ?hfd10 ?hrd10 ?hQd10 ?hyd10 ?restd10
              case hod10 => (simp only [List.getElem?_toArray, List.getElem?_cons_succ, List.getElem?_cons_zero]; exact rfl)
              case hfd10 => kernel_rfl
              case hrd10 => kernel_rfl
              case hQd10 => exact fun _ _ _ h => h
              case hyd10 =>
                refine Or.inl ⟨by rfl, ?_⟩
                intro w
                go_simp
                (try with_reducible rfl)
              try simp only [Act.put, List.setIfInBounds_toArray, List.set_cons_zero, List.set_cons_succ]
              refine wpAny_take (i := 9) (oi := ?oid11) (v := ?vd11) ?hod11 (by kernel_rfl) ?hfd11 ?hrd11 ?hQd11 ?hyd11 ?restd11
              case hod11 => (simp only [List.getElem?_toArray, List.getElem?_cons_succ, List.getElem?_cons_zero]; exact rfl)
              case hfd11 => kernel_rfl
              case hrd11 => kernel_rfl
              case hQd11 => exact fun _ _ _ h => h
              case hyd11 =>
                refine Or.inl ⟨by rfl, ?_⟩
                intro w
                go_simp
                (try with_reducible rfl)
              try simp only [Act.put, List.setIfInBounds_toArray, List.set_cons_zero, List.set_cons_succ]
              refine wpAny_take (i := 10) (oi := ?oid12) (v := ?vd12) ?hod12 (by kernel_rfl) ?hfd12 ?hrd12 ?hQd12 ?hyd12 ?restd12
              case hod12 => (simp only [List.getElem?_toArray, List.getElem?_cons_succ, List.getElem?_cons_zero]; exact rfl)
              case hfd12 => kernel_rfl
              case hrd12 => kernel_rfl
              case hQd12 => exact fun _ _ _ h => h
              case hyd12 =>
                refine Or.inl ⟨by rfl, ?_⟩
                intro w
                go_simp
                (try with_reducible rfl)
              try simp only [Act.put, List.setIfInBounds_toArray, List.set_cons_zero, List.set_cons_succ]
              refine wpAny_take (i := 11) (oi := ?oid13) (v := ?vd13) ?hod13 (by kernel_rfl) ?hfd13 ?hrd13 ?hQd13 ?hyd13 ?restd13
              case hod13 => (simp only [List.getElem?_toArray, List.getElem?_cons_succ, List.getElem?_cons_zero]; exact rfl)
              case hfd13 => kernel_rfl
              case hrd13 => kernel_rfl
              case hQd13 => exact fun _ _ _ h => h
              case hyd13 =>
                refine Or.inl ⟨by rfl, ?_⟩
                intro w
                go_simp
                (try with_reducible rfl)
              try simp only [Act.put, List.setIfInBounds_toArray, List.set_cons_zero, List.set_cons_succ]
              refine wpAny_take (i := 14) (oi := ?oid14) (v := ?vd14) ?hod14 (by kernel_rfl) ?hfd14 ?hrd14 ?hQd14 ?hyd14 ?restd14
              case hod14 => (simp only [List.getElem?_toArray, List.getElem?_cons_succ, List.getElem?_cons_zero]; exact rfl)
              case hfd14 => kernel_rfl
              case hrd14 => kernel_rfl
              case hQd14 => exact fun _ _ _ h => h
              case hyd14 =>
                refine Or.inl ⟨by rfl, ?_⟩
                intro w
                go_simp
                (try with_reducible rfl)
              try simp only [Act.put, List.setIfInBounds_toArray, List.set_cons_zero, List.set_cons_succ]
              refine wpAny_take (i := 15) (oi := ?oid15) (v := ?vd15) ?hod15 (by kernel_rfl) ?hfd15 ?hrd15 ?hQd15 ?hyd15 ?restd15
              case hod15 => (simp only [List.getElem?_toArray, List.getElem?_cons_succ, List.getElem?_cons_zero]; exact rfl)
              case hfd15 => kernel_rfl
              case hrd15 => kernel_rfl
              case hQd15 => exact fun _ _ _ h => h
              case hyd15 =>
                refine Or.inl ⟨by rfl, ?_⟩
                intro w
                go_simp
                (try with_reducible rfl)
              try simp only [Act.put, List.setIfInBounds_toArray, List.set_cons_zero, List.set_cons_succ]
              refine wpAny_take (i := 16) (oi := ?oid16) (v := ?vd16) ?hod16 (by kernel_rfl) ?hfd16 ?hrd16 ?hQd16 ?hyd16 ?restd16
              case hod16 => (simp only [List.getElem?_toArray, List.getElem?_cons_succ, List.getElem?_cons_zero]; exact rfl)
              case hfd16 => kernel_rfl
              case hrd16 => kernel_rfl
              case hQd16 => exact fun _ _ _ h => h
              case hyd16 =>
                refine Or.inl ⟨by rfl, ?_⟩
                intro w
                go_simp
                (try with_reducible rfl)
              try simp only [Act.put, List.setIfInBounds_toArray, List.set_cons_zero, List.set_cons_succ]
              refine wpAny_ready (rs := [12, 17]) (by kernel_rfl) (by simp) ?_
              refine AllReady.cons (o := ?od17) ?hod17 (fun K hK => ?kd17) ?md17
              case hod17 => (simp only [List.getElem?_toArray, List.getElem?_cons_succ, List.getElem?_cons_zero]; exact rfl)
              case kd17 =>
                refine anyd_loadStr (by rfl) (.tmp 94) rfl b (o + i) _ (by rfl) HC2.out ?_
                refine hK _ _ ?_
                clear hK K
                try simp only [Act.put, List.setIfInBounds_toArray, List.set_cons_zero, List.set_cons_succ]
                refine wpAny_ready (rs := [13, 17]) (by kernel_rfl) (by simp) ?_
                refine AllReady.cons (o := ?od18) ?hod18 (fun K hK => ?kd18) ?md18
                case hod18 => (simp only [List.getElem?_toArray, List.getElem?_cons_succ, List.getElem?_cons_zero]; exact rfl)
                case kd18 =>
                  go_simp
                  refine HM.out.mono ?_
                  rintro e V ⟨rfl, rfl⟩
                  (try dsimp only)
                  refine hK _ _ ?_
                  clear hK K
                  try simp only [Act.put, List.setIfInBounds_toArray, List.set_cons_zero, List.set_cons_succ]
                  refine wpAny_ready (rs := [17]) (by kernel_rfl) (by simp) ?_
                  refine AllReady.cons (o := ?od19) ?hod19 (fun K hK => ?kd19) ?md19
                  case hod19 => (simp only [List.getElem?_toArray, List.getElem?_cons_succ, List.getElem?_cons_zero]; exact rfl)
                  case kd19 =>
                    refine anyd_loadStr (by rfl) (.tmp 99) rfl b (o + i) _ (by rfl) HC2.out ?_
                    refine hK _ _ ?_
                    clear hK K
                    try simp only [Act.put, List.setIfInBounds_toArray, List.set_cons_zero, List.set_cons_succ]
                    refine wpAny_ready (rs := [18]) (by kernel_rfl) (by simp) ?_
                    refine AllReady.cons (o := ?od20) ?hod20 (fun K hK => ?kd20) ?md20
                    case hod20 => (simp only [List.getElem?_toArray, List.getElem?_cons_succ, List.getElem?_cons_zero]; exact rfl)
                    case kd20 =>
                      go_simp
                      refine HRM.out.mono ?_
                      rintro e V ⟨rfl, rfl⟩
                      (try dsimp only)
                      refine hK _ _ ?_
                      clear hK K
                      try simp only [Act.put, List.setIfInBounds_toArray, List.set_cons_zero, List.set_cons_succ]
                      refine wpAny_take (i := 19) (oi := ?oid21) (v := ?vd21) ?hod21 (by kernel_rfl) ?hfd21 ?hrd21 ?hQd21 ?hyd21 ?restd21
                      case hod21 => (simp only [List.getElem?_toArray, List.getElem?_cons_succ, List.getElem?_cons_zero]; exact rfl)
                      case hfd21 => kernel_rfl
                      case hrd21 => kernel_rfl
                      case hQd21 => exact fun _ _ _ h => h
                      case hyd21 =>
                        refine Or.inl ⟨by rfl, ?_⟩
                        intro w
                        go_simp
                        (try with_reducible rfl)
                      try simp only [Act.put, List.setIfInBounds_toArray, List.set_cons_zero, List.set_cons_succ]
                      refine wpAny_take (i := 20) (oi := ?oid22) (v := ?vd22) ?hod22 (by kernel_rfl) ?hfd22 ?hrd22 ?hQd22 ?hyd22 ?restd22
                      case hod22 => (simp only [List.getElem?_toArray, List.getElem?_cons_succ, List.getElem?_cons_zero]; exact rfl)
                      case hfd22 => kernel_rfl
                      case hrd22 => kernel_rfl
                      case hQd22 => exact fun _ _ _ h => h
                      case hyd22 =>
                        refine Or.inl ⟨by rfl, ?_⟩
                        intro w
                        go_simp
                        (try with_reducible rfl)
                      try simp only [Act.put, List.setIfInBounds_toArray, List.set_cons_zero, List.set_cons_succ]
                      exact wpAny_done (by kernel_rfl) (hEnd _ hf0) _
                    exact AllReady.nil
                  exact AllReady.nil
                refine AllReady.cons (o := ?od23) ?hod23 (fun K hK => ?kd23) ?md23
                case hod23 => (simp only [List.getElem?_toArray, List.getElem?_cons_succ, List.getElem?_cons_zero]; exact rfl)
                case kd23 =>
                  refine anyd_loadStr (by rfl) (.tmp 99) rfl b (o + i) _ (by rfl) HC2.out ?_
                  refine hK _ _ ?_
                  clear hK K
                  try simp only [Act.put, List.setIfInBounds_toArray, List.set_cons_zero, List.set_cons_succ]
                  refine wpAny_ready (rs := [13]) (by kernel_rfl) (by simp) ?_
                  refine AllReady.cons (o := ?od24) ?hod24 (fun K hK => ?kd24) ?md24
                  case hod24 => (simp only [List.getElem?_toArray, List.getElem?_cons_succ, List.getElem?_cons_zero]; exact rfl)
                  case kd24 =>
                    go_simp
                    refine HM.out.mono ?_
                    rintro e V ⟨rfl, rfl⟩
                    (try dsimp only)
                    refine hK _ _ ?_
                    clear hK K
                    try simp only [Act.put, List.setIfInBounds_toArray, List.set_cons_zero, List.set_cons_succ]
                    refine wpAny_ready (rs := [18]) (by kernel_rfl) (by simp) ?_
                    refine AllReady.cons (o := ?od25) ?hod25 (fun K hK => ?kd25) ?md25
                    case hod25 => (simp only [List.getElem?_toArray, List.getElem?_cons_succ, List.getElem?_cons_zero]; exact rfl)
                    case kd25 =>
                      go_simp
                      refine HRM.out.mono ?_
                      rintro e V ⟨rfl, rfl⟩
                      (try dsimp only)
                      refine hK _ _ ?_
                      clear hK K
                      try simp only [Act.put, List.setIfInBounds_toArray, List.set_cons_zero, List.set_cons_succ]
                      refine wpAny_take (i := 19) (oi := ?oid26) (v := ?vd26) ?hod26 (by kernel_rfl) ?hfd26 ?hrd26 ?hQd26 ?hyd26 ?restd26
                      case hod26 => (simp only [List.getElem?_toArray, List.getElem?_cons_succ, List.getElem?_cons_zero]; exact rfl)
                      case hfd26 => kernel_rfl
                      case hrd26 => kernel_rfl
                      case hQd26 => exact fun _ _ _ h => h
                      case hyd26 =>
                        refine Or.inl ⟨by rfl, ?_⟩
                        intro w
                        go_simp
                        (try with_reducible rfl)
                      try simp only [Act.put, List.setIfInBounds_toArray, List.set_cons_zero, List.set_cons_succ]
                      refine wpAny_take (i := 20) (oi := ?oid27) (v := ?vd27) ?hod27 (by kernel_rfl) ?hfd27 ?hrd27 ?hQd27 ?hyd27 ?restd27
                      case hod27 => (simp only [List.getElem?_toArray, List.getElem?_cons_succ, List.getElem?_cons_zero]; exact rfl)
                      case hfd27 => kernel_rfl
                      case hrd27 => kernel_rfl
                      case hQd27 => exact fun _ _ _ h => h
                      case hyd27 =>
                        refine Or.inl ⟨by rfl, ?_⟩
                        intro w
                        go_simp
                        (try with_reducible rfl)
                      try simp only [Act.put, List.setIfInBounds_toArray, List.set_cons_zero, List.set_cons_succ]
                      exact wpAny_done (by kernel_rfl) (hEnd _ hf0) _
                    exact AllReady.nil
                  exact AllReady.nil
                exact AllReady.nil
              refine AllReady.cons (o := ?od28) ?hod28 (fun K hK => ?kd28) ?md28
              case hod28 => (simp only [List.getElem?_toArray, List.getElem?_cons_succ, List.getElem?_cons_zero]; exact rfl)
              case kd28 =>
                refine anyd_loadStr (by rfl) (.tmp 99) rfl b (o + i) _ (by rfl) HC2.out ?_
                refine hK _ _ ?_
                clear hK K
                try simp only [Act.put, List.setIfInBounds_toArray, List.set_cons_zero, List.set_cons_succ]
                refine wpAny_ready (rs := [12]) (by kernel_rfl) (by simp) ?_
                refine AllReady.cons (o := ?od29) ?hod29 (fun K hK => ?kd29) ?md29
                case hod29 => (simp only [List.getElem?_toArray, List.getElem?_cons_succ, List.getElem?_cons_zero]; exact rfl)
                case kd29 =>
                  refine anyd_loadStr (by rfl) (.tmp 94) rfl b (o + i) _ (by rfl) HC2.out ?_
                  refine hK _ _ ?_
                  clear hK K
                  try simp only [Act.put, List.setIfInBounds_toArray, List.set_cons_zero, List.set_cons_succ]
                  refine wpAny_ready (rs := [13]) (by kernel_rfl) (by simp) ?_
                  refine AllReady.cons (o := ?od30) ?hod30 (fun K hK => ?kd30) ?md30
                  case hod30 => (simp only [List.getElem?_toArray, List.getElem?_cons_succ, List.getElem?_cons_zero]; exact rfl)
                  case kd30 =>
                    go_simp
                    refine HM.out.mono ?_
                    rintro e V ⟨rfl, rfl⟩
                    (try dsimp only)
                    refine hK _ _ ?_
                    clear hK K
                    try simp only [Act.put, List.setIfInBounds_toArray, List.set_cons_zero, List.set_cons_succ]
                    refine wpAny_ready (rs := [18]) (by kernel_rfl) (by simp) ?_
                    refine AllReady.cons (o := ?od31) ?hod31 (fun K hK => ?kd31) ?md31
                    case hod31 => (simp only [List.getElem?_toArray, List.getElem?_cons_succ, List.getElem?_cons_zero]; exact rfl)
                    case kd31 =>
                      go_simp
                      refine HRM.out.mono ?_
                      rintro e V ⟨rfl, rfl⟩
                      (try dsimp only)
                      refine hK _ _ ?_
                      clear hK K
                      try simp only [Act.put, List.setIfInBounds_toArray, List.set_cons_zero, List.set_cons_succ]
                      refine wpAny_take (i := 19) (oi := ?oid32) (v := ?vd32) ?hod32 (by kernel_rfl) ?hfd32 ?hrd32 ?hQd32 ?hyd32 ?restd32
                      case hod32 => (simp only [List.getElem?_toArray, List.getElem?_cons_succ, List.getElem?_cons_zero]; exact rfl)
                      case hfd32 => kernel_rfl
                      case hrd32 => kernel_rfl
                      case hQd32 => exact fun _ _ _ h => h
                      case hyd32 =>
                        refine Or.inl ⟨by rfl, ?_⟩
                        intro w
                        go_simp
                        (try with_reducible rfl)
                      try simp only [Act.put, List.setIfInBounds_toArray, List.set_cons_zero, List.set_cons_succ]
                      refine wpAny_take (i := 20) (oi := ?oid33) (v := ?vd33) ?hod33 (by kernel_rfl) ?hfd33 ?hrd33 ?hQd33 ?hyd33 ?restd33
                      case hod33 => (simp only [List.getElem?_toArray, List.getElem?_cons_succ, List.getElem?_cons_zero]; exact rfl)
                      case hfd33 => kernel_rfl
                      case hrd33 => kernel_rfl
                      case hQd33 => exact fun _ _ _ h => h
                      case hyd33 =>
                        refine Or.inl ⟨by rfl, ?_⟩
                        intro w
                        go_simp
                        (try with_reducible rfl)
                      try simp only [Act.put, List.setIfInBounds_toArray, List.set_cons_zero, List.set_cons_succ]
                      exact wpAny_done (by kernel_rfl) (hEnd _ hf0) _
                    exact AllReady.nil
                  exact AllReady.nil
                exact AllReady.nil
              exact AllReady.nil
            case cd1 =>
              rintro V rfl
              repeat (first | go_skip | go_guarded | go_step)
              go_roundw
              case rel => exact ⟨i + 1, F1, X2, _, by omega, by go_num, HGD.out, HT3.out, HR3.out, HD2.out, HF1w.out, HX2w.out, HB3.out⟩
              case measure => simp [intOf]; omega
          | true =>
            refine wp_region_any (by kernel_rfl) ?_
            try (change wpAny _ _ _ _ _ _ _ (World.drew _))
            refine wpAny_meet (b := ?ad34) (fun V => V = w2.drew) ?cd34 ?rd34
            case rd34 =>
              intro hEnd
              have hf0 : w2.drew = w2.drew := rfl
              refine wpAny_take (i := 0) (oi := ?oid35) (v := ?vd35) ?hod35 (by kernel_rfl) ?hfd35 ?hrd35 ?hQd35 ?hyd35 ?restd35
              case hod35 => (simp only [List.getElem?_toArray, List.getElem?_cons_succ, List.getElem?_cons_zero]; exact rfl)
              case hfd35 => kernel_rfl
              case hrd35 => kernel_rfl
              case hQd35 => exact fun _ _ _ h => h
              case hyd35 =>
                refine Or.inl ⟨by rfl, ?_⟩
                intro w
                go_simp
                (try with_reducible rfl)
              try simp only [Act.put, List.setIfInBounds_toArray, List.set_cons_zero, List.set_cons_succ]
              refine wpAny_take (i := 1) (oi := ?oid36) (v := ?vd36) ?hod36 (by kernel_rfl) ?hfd36 ?hrd36 ?hQd36 ?hyd36 ?restd36
              case hod36 => (simp only [List.getElem?_toArray, List.getElem?_cons_succ, List.getElem?_cons_zero]; exact rfl)
              case hfd36 => kernel_rfl
              case hrd36 => kernel_rfl
              case hQd36 => exact fun _ _ _ h => h
              case hyd36 =>
                refine Or.inl ⟨by rfl, ?_⟩
                intro w
                go_simp
                (try with_reducible rfl)
              try simp only [Act.put, List.setIfInBounds_toArray, List.set_cons_zero, List.set_cons_succ]
              refine wpAny_take (i := 2) (oi := ?oid37) (v := ?vd37) ?hod37 (by kernel_rfl) ?hfd37 ?hrd37 ?hQd37 ?hyd37 ?restd37
              case hod37 => (simp only [List.getElem?_toArray, List.getElem?_cons_succ, List.getElem?_cons_zero]; exact rfl)
              case hfd37 => kernel_rfl
              case hrd37 => kernel_rfl
              case hQd37 => exact fun _ _ _ h => h
              case hyd37 =>
                refine Or.inl ⟨by rfl, ?_⟩
                intro w
                go_simp
                (try with_reducible rfl)
              try simp only [Act.put, List.setIfInBounds_toArray, List.set_cons_zero, List.set_cons_succ]
              refine wpAny_take (i := 3) (oi := ?oid38) (v := ?vd38) ?hod38 (by kernel_rfl) ?hfd38 ?hrd38 ?hQd38 ?hyd38 ?restd38
              case hod38 => (simp only [List.getElem?_toArray, List.getElem?_cons_succ, List.getElem?_cons_zero]; exact rfl)
              case hfd38 => kernel_rfl
              case hrd38 => kernel_rfl
              case hQd38 => exact fun _ _ _ h => h
              case hyd38 =>
                refine Or.inl ⟨by rfl, ?_⟩
                intro w
                go_simp
                (try with_reducible rfl)
              try simp only [Act.put, List.setIfInBounds_toArray, List.set_cons_zero, List.set_cons_succ]
              refine wpAny_take (i := 4) (oi := ?oid39) (v := ?vd39) ?hod39 (by kernel_rfl) ?hfd39 ?hrd39 ?hQd39 ?hyd39 ?restd39
              case hod39 => (simp only [List.getElem?_toArray, List.getElem?_cons_succ, List.getElem?_cons_zero]; exact rfl)
              case hfd39 => kernel_rfl
              case hrd39 => kernel_rfl
              case hQd39 => exact fun _ _ _ h => h
              case hyd39 =>
                refine Or.inl ⟨by rfl, ?_⟩
                intro w
                go_simp
                (try with_reducible rfl)
              try simp only [Act.put, List.setIfInBounds_toArray, List.set_cons_zero, List.set_cons_succ]
              refine wpAny_take (i := 5) (oi := ?oid40) (v := ?vd40) ?hod40 (by kernel_rfl) ?hfd40 ?hrd40 ?hQd40 ?hyd40 ?restd40
              case hod40 => (simp only [List.getElem?_toArray, List.getElem?_cons_succ, List.getElem?_cons_zero]; exact rfl)
              case hfd40 => kernel_rfl
              case hrd40 => kernel_rfl
              case hQd40 => exact fun _ _ _ h => h
              case hyd40 =>
                refine Or.inl ⟨by rfl, ?_⟩
                intro w
                go_simp
                (try with_reducible rfl)
              try simp only [Act.put, List.setIfInBounds_toArray, List.set_cons_zero, List.set_cons_succ]
              refine wpAny_take (i := 6) (oi := ?oid41) (v := ?vd41) ?hod41 (by kernel_rfl) ?hfd41 ?hrd41 ?hQd41 ?hyd41 ?restd41
              case hod41 => (simp only [List.getElem?_toArray, List.getElem?_cons_succ, List.getElem?_cons_zero]; exact rfl)
              case hfd41 => kernel_rfl
              case hrd41 => kernel_rfl
              case hQd41 => exact fun _ _ _ h => h
              case hyd41 =>
                refine Or.inl ⟨by rfl, ?_⟩
                intro w
                go_simp
                (try with_reducible rfl)
              try simp only [Act.put, List.setIfInBounds_toArray, List.set_cons_zero, List.set_cons_succ]
              refine wpAny_take (i := 7) (oi := ?oid42) (v := ?vd42) ?hod42 (by kernel_rfl) ?hfd42 ?hrd42 ?hQd42 ?hyd42 ?restd42
              case hod42 => (simp only [List.getElem?_toArray, List.getElem?_cons_succ, List.getElem?_cons_zero]; exact rfl)
              case hfd42 => kernel_rfl
              case hrd42 => kernel_rfl
              case hQd42 => exact fun _ _ _ h => h
              case hyd42 =>
                refine Or.inl ⟨by rfl, ?_⟩
                intro w
                go_simp
                (try with_reducible rfl)
              try simp only [Act.put, List.setIfInBounds_toArray, List.set_cons_zero, List.set_cons_succ]
              refine wpAny_take (i := 8) (oi := ?oid43) (v := ?vd43) ?hod43 (by kernel_rfl) ?hfd43 ?hrd43 ?hQd43 ?hyd43 ?restd43
              case hod43 => (simp only [List.getElem?_toArray, List.getElem?_cons_succ, List.getElem?_cons_zero]; exact rfl)
              case hfd43 => kernel_rfl
              case hrd43 => kernel_rfl
              case hQd43 => exact fun _ _ _ h => h
              case hyd43 =>
                refine Or.inl ⟨by rfl, ?_⟩
                intro w
                go_simp
                (try with_reducible rfl)
              try simp only [Act.put, List.setIfInBounds_toArray, List.set_cons_zero, List.set_cons_succ]
              refine wpAny_take (i := 9) (oi := ?oid44) (v := ?vd44) ?hod44 (by kernel_rfl) ?hfd44 ?hrd44 ?hQd44 ?hyd44 ?restd44
              case hod44 => (simp only [List.getElem?_toArray, List.getElem?_cons_succ, List.getElem?_cons_zero]; exact rfl)
              case hfd44 => kernel_rfl
              case hrd44 => kernel_rfl
              case hQd44 => exact fun _ _ _ h => h
              case hyd44 =>
                refine Or.inl ⟨by rfl, ?_⟩
                intro w
                go_simp
                (try with_reducible rfl)
              try simp only [Act.put, List.setIfInBounds_toArray, List.set_cons_zero, List.set_cons_succ]
              refine wpAny_take (i := 10) (oi := ?oid45) (v := ?vd45) ?hod45 (by kernel_rfl) ?hfd45 ?hrd45 ?hQd45 ?hyd45 ?restd45
              case hod45 => (simp only [List.getElem?_toArray, List.getElem?_cons_succ, List.getElem?_cons_zero]; exact rfl)
              case hfd45 => kernel_rfl
              case hrd45 => kernel_rfl
              case hQd45 => exact fun _ _ _ h => h
              case hyd45 =>
                refine Or.inl ⟨by rfl, ?_⟩
                intro w
                go_simp
                (try with_reducible rfl)
              try simp only [Act.put, List.setIfInBounds_toArray, List.set_cons_zero, List.set_cons_succ]
              refine wpAny_take (i := 11) (oi := ?oid46) (v := ?vd46) ?hod46 (by kernel_rfl) ?hfd46 ?hrd46 ?hQd46 ?hyd46 ?restd46
              case hod46 => (simp only [List.getElem?_toArray, List.getElem?_cons_succ, List.getElem?_cons_zero]; exact rfl)
              case hfd46 => kernel_rfl
              case hrd46 => kernel_rfl
              case hQd46 => exact fun _ _ _ h => h
              case hyd46 =>
                refine Or.inl ⟨by rfl, ?_⟩
                intro w
                go_simp
                (try with_reducible rfl)
              try simp only [Act.put, List.setIfInBounds_toArray, List.set_cons_zero, List.set_cons_succ]
              refine wpAny_take (i := 14) (oi := ?oid47) (v := ?vd47) ?hod47 (by kernel_rfl) ?hfd47 ?hrd47 ?hQd47 ?hyd47 ?restd47
              case hod47 => (simp only [List.getElem?_toArray, List.getElem?_cons_succ, List.getElem?_cons_zero]; exact rfl)
              case hfd47 => kernel_rfl
              case hrd47 => kernel_rfl
              case hQd47 => exact fun _ _ _ h => h
              case hyd47 =>
                refine Or.inl ⟨by rfl, ?_⟩
                intro w
                go_simp
                (try with_reducible rfl)
              try simp only [Act.put, List.setIfInBounds_toArray, List.set_cons_zero, List.set_cons_succ]
              refine wpAny_take (i := 15) (oi := ?oid48) (v := ?vd48) ?hod48 (by kernel_rfl) ?hfd48 ?hrd48 ?hQd48 ?hyd48 ?restd48
              case hod48 => (simp only [List.getElem?_toArray, List.getElem?_cons_succ, List.getElem?_cons_zero]; exact rfl)
              case hfd48 => kernel_rfl
              case hrd48 => kernel_rfl
              case hQd48 => exact fun _ _ _ h => h
              case hyd48 =>
                refine Or.inl ⟨by rfl, ?_⟩
                intro w
                go_simp
                (try with_reducible rfl)
              try simp only [Act.put, List.setIfInBounds_toArray, List.set_cons_zero, List.set_cons_succ]
              refine wpAny_take (i := 16) (oi := ?oid49) (v := ?vd49) ?hod49 (by kernel_rfl) ?hfd49 ?hrd49 ?hQd49 ?hyd49 ?restd49
              case hod49 => (simp only [List.getElem?_toArray, List.getElem?_cons_succ, List.getElem?_cons_zero]; exact rfl)
              case hfd49 => kernel_rfl
              case hrd49 => kernel_rfl
              case hQd49 => exact fun _ _ _ h => h
              case hyd49 =>
                refine Or.inl ⟨by rfl, ?_⟩
                intro w
                go_simp
                (try with_reducible rfl)
              try simp only [Act.put, List.setIfInBounds_toArray, List.set_cons_zero, List.set_cons_succ]
              refine wpAny_ready (rs := [12, 17]) (by kernel_rfl) (by simp) ?_
              refine AllReady.cons (o := ?od50) ?hod50 (fun K hK => ?kd50) ?md50
              case hod50 => (simp only [List.getElem?_toArray, List.getElem?_cons_succ, List.getElem?_cons_zero]; exact rfl)
              case kd50 =>
                refine anyd_loadStr (by rfl) (.tmp 94) rfl b (o + i) _ (by rfl) HC2.out ?_
                refine hK _ _ ?_
                clear hK K
                try simp only [Act.put, List.setIfInBounds_toArray, List.set_cons_zero, List.set_cons_succ]
                refine wpAny_ready (rs := [13, 17]) (by kernel_rfl) (by simp) ?_
                refine AllReady.cons (o := ?od51) ?hod51 (fun K hK => ?kd51) ?md51
                case hod51 => (simp only [List.getElem?_toArray, List.getElem?_cons_succ, List.getElem?_cons_zero]; exact rfl)
                case kd51 =>
                  go_simp
                  refine HM.out.mono ?_
                  rintro e V ⟨rfl, rfl⟩
                  (try dsimp only)
                  refine hK _ _ ?_
                  clear hK K
                  try simp only [Act.put, List.setIfInBounds_toArray, List.set_cons_zero, List.set_cons_succ]
                  refine wpAny_ready (rs := [17]) (by kernel_rfl) (by simp) ?_
                  refine AllReady.cons (o := ?od52) ?hod52 (fun K hK => ?kd52) ?md52
                  case hod52 => (simp only [List.getElem?_toArray, List.getElem?_cons_succ, List.getElem?_cons_zero]; exact rfl)
                  case kd52 =>
                    refine anyd_loadStr (by rfl) (.tmp 99) rfl b (o + i) _ (by rfl) HC2.out ?_
                    refine hK _ _ ?_
                    clear hK K
                    try simp only [Act.put, List.setIfInBounds_toArray, List.set_cons_zero, List.set_cons_succ]
                    refine wpAny_ready (rs := [18]) (by kernel_rfl) (by simp) ?_
                    refine AllReady.cons (o := ?od53) ?hod53 (fun K hK => ?kd53) ?md53
                    case hod53 => (simp only [List.getElem?_toArray, List.getElem?_cons_succ, List.getElem?_cons_zero]; exact rfl)
                    case kd53 =>
                      go_simp
                      refine HRM.out.mono ?_
                      rintro e V ⟨rfl, rfl⟩
                      (try dsimp only)
                      refine hK _ _ ?_
                      clear hK K
                      try simp only [Act.put, List.setIfInBounds_toArray, List.set_cons_zero, List.set_cons_succ]
                      refine wpAny_take (i := 19) (oi := ?oid54) (v := ?vd54) ?hod54 (by kernel_rfl) ?hfd54 ?hrd54 ?hQd54 ?hyd54 ?restd54
                      case hod54 => (simp only [List.getElem?_toArray, List.getElem?_cons_succ, List.getElem?_cons_zero]; exact rfl)
                      case hfd54 => kernel_rfl
                      case hrd54 => kernel_rfl
                      case hQd54 => exact fun _ _ _ h => h
                      case hyd54 =>
                        refine Or.inl ⟨by rfl, ?_⟩
                        intro w
                        go_simp
                        (try with_reducible rfl)
                      try simp only [Act.put, List.setIfInBounds_toArray, List.set_cons_zero, List.set_cons_succ]
                      refine wpAny_take (i := 20) (oi := ?oid55) (v := ?vd55) ?hod55 (by kernel_rfl) ?hfd55 ?hrd55 ?hQd55 ?hyd55 ?restd55
                      case hod55 => (simp only [List.getElem?_toArray, List.getElem?_cons_succ, List.getElem?_cons_zero]; exact rfl)
                      case hfd55 => kernel_rfl
                      case hrd55 => kernel_rfl
                      case hQd55 => exact fun _ _ _ h => h
                      case hyd55 =>
                        refine Or.inl ⟨by rfl, ?_⟩
                        intro w
                        go_simp
                        (try with_reducible rfl)
                      try simp only [Act.put, List.setIfInBounds_toArray, List.set_cons_zero, List.set_cons_succ]
                      exact wpAny_done (by kernel_rfl) (hEnd _ hf0) _
                    exact AllReady.nil
                  exact AllReady.nil
                refine AllReady.cons (o := ?od56) ?hod56 (fun K hK => ?kd56) ?md56
                case hod56 => (simp only [List.getElem?_toArray, List.getElem?_cons_succ, List.getElem?_cons_zero]; exact rfl)
                case kd56 =>
                  refine anyd_loadStr (by rfl) (.tmp 99) rfl b (o + i) _ (by rfl) HC2.out ?_
                  refine hK _ _ ?_
                  clear hK K
                  try simp only [Act.put, List.setIfInBounds_toArray, List.set_cons_zero, List.set_cons_succ]
                  refine wpAny_ready (rs := [13]) (by kernel_rfl) (by simp) ?_
                  refine AllReady.cons (o := ?od57) ?hod57 (fun K hK => ?kd57) ?md57
                  case hod57 => (simp only [List.getElem?_toArray, List.getElem?_cons_succ, List.getElem?_cons_zero]; exact rfl)
                  case kd57 =>
                    go_simp
                    refine HM.out.mono ?_
                    rintro e V ⟨rfl, rfl⟩
                    (try dsimp only)
                    refine hK _ _ ?_
                    clear hK K
                    try simp only [Act.put, List.setIfInBounds_toArray, List.set_cons_zero, List.set_cons_succ]
                    refine wpAny_ready (rs := [18]) (by kernel_rfl) (by simp) ?_
                    refine AllReady.cons (o := ?od58) ?hod58 (fun K hK => ?kd58) ?md58
                    case hod58 => (simp only [List.getElem?_toArray, List.getElem?_cons_succ, List.getElem?_cons_zero]; exact rfl)
                    case kd58 =>
                      go_simp
                      refine HRM.out.mono ?_
                      rintro e V ⟨rfl, rfl⟩
                      (try dsimp only)
                      refine hK _ _ ?_
                      clear hK K
                      try simp only [Act.put, List.setIfInBounds_toArray, List.set_cons_zero, List.set_cons_succ]
                      refine wpAny_take (i := 19) (oi := ?oid59) (v := ?vd59) ?hod59 (by kernel_rfl) ?hfd59 ?hrd59 ?hQd59 ?hyd59 ?restd59
                      case hod59 => (simp only [List.getElem?_toArray, List.getElem?_cons_succ, List.getElem?_cons_zero]; exact rfl)
                      case hfd59 => kernel_rfl
                      case hrd59 => kernel_rfl
                      case hQd59 => exact fun _ _ _ h => h
                      case hyd59 =>
                        refine Or.inl ⟨by rfl, ?_⟩
                        intro w
                        go_simp
                        (try with_reducible rfl)
                      try simp only [Act.put, List.setIfInBounds_toArray, List.set_cons_zero, List.set_cons_succ]
                      refine wpAny_take (i := 20) (oi := ?oid60) (v := ?vd60) ?hod60 (by kernel_rfl) ?hfd60 ?hrd60 ?hQd60 ?hyd60 ?restd60
                      case hod60 => (simp only [List.getElem?_toArray, List.getElem?_cons_succ, List.getElem?_cons_zero]; exact rfl)
                      case hfd60 => kernel_rfl
                      case hrd60 => kernel_rfl
                      case hQd60 => exact fun _ _ _ h => h
                      case hyd60 =>
                        refine Or.inl ⟨by rfl, ?_⟩
                        intro w
                        go_simp
                        (try with_reducible rfl)
                      try simp only [Act.put, List.setIfInBounds_toArray, List.set_cons_zero, List.set_cons_succ]
                      exact wpAny_done (by kernel_rfl) (hEnd _ hf0) _
                    exact AllReady.nil
                  exact AllReady.nil
                exact AllReady.nil
              refine AllReady.cons (o := ?od61) ?hod61 (fun K hK => ?kd61) ?md61
              case hod61 => (simp only [List.getElem?_toArray, List.getElem?_cons_succ, List.getElem?_cons_zero]; exact rfl)
              case kd61 =>
                refine anyd_loadStr (by rfl) (.tmp 99) rfl b (o + i) _ (by rfl) HC2.out ?_
                refine hK _ _ ?_
                clear hK K
                try simp only [Act.put, List.setIfInBounds_toArray, List.set_cons_zero, List.set_cons_succ]
                refine wpAny_ready (rs := [12]) (by kernel_rfl) (by simp) ?_
                refine AllReady.cons (o := ?od62) ?hod62 (fun K hK => ?kd62) ?md62
                case hod62 => (simp only [List.getElem?_toArray, List.getElem?_cons_succ, List.getElem?_cons_zero]; exact rfl)
                case kd62 =>
                  refine anyd_loadStr (by rfl) (.tmp 94) rfl b (o + i) _ (by rfl) HC2.out ?_
                  refine hK _ _ ?_
                  clear hK K
                  try simp only [Act.put, List.setIfInBounds_toArray, List.set_cons_zero, List.set_cons_succ]
                  refine wpAny_ready (rs := [13]) (by kernel_rfl) (by simp) ?_
                  refine AllReady.cons (o := ?od63) ?hod63 (fun K hK => ?kd63) ?md63
                  case hod63 => (simp only [List.getElem?_toArray, List.getElem?_cons_succ, List.getElem?_cons_zero]; exact rfl)
                  case kd63 =>
                    go_simp
                    refine HM.out.mono ?_
                    rintro e V ⟨rfl, rfl⟩
                    (try dsimp only)
                    refine hK _ _ ?_
                    clear hK K
                    try simp only [Act.put, List.setIfInBounds_toArray, List.set_cons_zero, List.set_cons_succ]
                    refine wpAny_ready (rs := [18]) (by kernel_rfl) (by simp) ?_
                    refine AllReady.cons (o := ?od64) ?hod64 (fun K hK => ?kd64) ?md64
                    case hod64 => (simp only [List.getElem?_toArray, List.getElem?_cons_succ, List.getElem?_cons_zero]; exact rfl)
                    case kd64 =>
                      go_simp
                      refine HRM.out.mono ?_
                      rintro e V ⟨rfl, rfl⟩
                      (try dsimp only)
                      refine hK _ _ ?_
                      clear hK K
                      try simp only [Act.put, List.setIfInBounds_toArray, List.set_cons_zero, List.set_cons_succ]
                      refine wpAny_take (i := 19) (oi := ?oid65) (v := ?vd65) ?hod65 (by kernel_rfl) ?hfd65 ?hrd65 ?hQd65 ?hyd65 ?restd65
                      case hod65 => (simp only [List.getElem?_toArray, List.getElem?_cons_succ, List.getElem?_cons_zero]; exact rfl)
                      case hfd65 => kernel_rfl
                      case hrd65 => kernel_rfl
                      case hQd65 => exact fun _ _ _ h => h
                      case hyd65 =>
                        refine Or.inl ⟨by rfl, ?_⟩
                        intro w
                        go_simp
                        (try with_reducible rfl)
                      try simp only [Act.put, List.setIfInBounds_toArray, List.set_cons_zero, List.set_cons_succ]
                      refine wpAny_take (i := 20) (oi := ?oid66) (v := ?vd66) ?hod66 (by kernel_rfl) ?hfd66 ?hrd66 ?hQd66 ?hyd66 ?restd66
                      case hod66 => (simp only [List.getElem?_toArray, List.getElem?_cons_succ, List.getElem?_cons_zero]; exact rfl)
                      case hfd66 => kernel_rfl
                      case hrd66 => kernel_rfl
                      case hQd66 => exact fun _ _ _ h => h
                      case hyd66 =>
                        refine Or.inl ⟨by rfl, ?_⟩
                        intro w
                        go_simp
                        (try with_reducible rfl)
                      try simp only [Act.put, List.setIfInBounds_toArray, List.set_cons_zero, List.set_cons_succ]
                      exact wpAny_done (by kernel_rfl) (hEnd _ hf0) _
                    exact AllReady.nil
                  exact AllReady.nil
                exact AllReady.nil
              exact AllReady.nil
            case cd34 =>
              rintro V rfl
              repeat (first | go_skip | go_guarded | go_step)
              go_roundw
              case rel => exact ⟨i + 1, F1, X2, _, by omega, by go_num, HGD.out, HT3.out, HR3.out, HD2.out, HF1w.out, HX2w.out, HB3.out⟩
              case measure => simp [intOf]; omega
        · obtain rfl : i = n1 := by omega
          rename World => U
          have hal := hgd.len
          repeat (first | go_skip | go_guarded | go_step)
          refine (tList g F acc U htb (by omega)).mono ?_
          rintro e V1 ⟨Ali, cli, rfl, hoi, hb1⟩
          have hbk1 : ∃ cur : Nat → Prop, True := ⟨fun _ => True, trivial⟩
          have hown : ∃ q cur, acc.length ≤ cur.length ∧ (0 < acc.length → Ali = some ⟨q, 0, none⟩ ∧ U.heap.size ≤ q ∧ Bk V1 q 9 cur) := by
            rcases hoi.2 with ⟨hv, h0⟩ | ⟨q, cap, cur, hv, hq, hh, hnc, hcm, hsz, htk⟩
            · exact ⟨0, List.replicate acc.length (.int .i64 0), by simp, fun h => by
                simp only [Value.slice.injEq] at hv
                omega⟩
            · have hA : Ali = some ⟨q, 0, none⟩ := by injection hv
              have hct : cur.toList.length = cap := by rw [Array.length_toList, hsz]; omega
              exact ⟨q, cur.toList, by omega, fun _ => ⟨hA, hq, hh⟩⟩
          obtain ⟨q, cur, hcl, hq⟩ := hown
          clear hbk1 hoi
          have HTB := Lib.hid htb
          have HRT := Lib.hid hrt
          have HGD := Lib.hid hgd
          have HBW := Lib.hid hbw
          clear htb hrt hgd hdis hFw hXw hbw
          dsimp only
          repeat (first | go_skip | go_guarded | go_step)
          go_loopw [17] (fun p wr => ∃ (k : Nat) (cur : List Value), k ≤ acc.length ∧ p = .int .i64 (k : Int) ∧ acc.length ≤ cur.length ∧ (0 < acc.length → Ali = some ⟨q, 0, none⟩ ∧ U.heap.size ≤ q ∧ Bk wr q 9 cur) ∧ Below U.heap.size U wr)
            (fun p _ => acc.length - (intOf p).toNat)
          case atStart => exact ⟨0, cur, by omega, rfl, hcl, hq, hb1⟩
          case round =>
            clear hcl hq hb1
            obtain ⟨k, cur, hk, rfl, hcl, hq, hb⟩ := hrel
            by_cases hlk : k < acc.length
            · have hck : (k : Int) < (acc.length : Int) := by omega
              obtain ⟨rfl, hqU, hbk⟩ := hq (by omega)
              have cu := hbk.cell k
              rw [List.getElem?_eq_getElem (by omega)] at cu
              have fu := hbk.frozen k
              have H2 := Lib.hid (hbk.set_ k (sv ⟨#[63]⟩))
              have H3 := Lib.hid (hb.setCell (p := ⟨q, k, none⟩) hqU (sv ⟨#[63]⟩))
              clear hbk hb hq
              repeat (first | go_skip | go_guarded | go_step)
              go_roundw
              case rel => exact ⟨k + 1, _, by omega, by go_num, by simpa using hcl, fun _ => ⟨by first | rfl | trivial, hqU, H2.out⟩, H3.out⟩
              case measure => simp [intOf]; omega
            · obtain rfl : k = acc.length := by omega
              rename World => V2
              have htb2 := HTB.out.later hb
              have hrt2 := HRT.out.turn (Turn.ofBelow (G := fun _ => False) hb) (fun _ _ h => h)
              have hbw2 := HBW.out.trans (hb.mono HBW.out.size)
              clear hq hb hlk hk
              repeat (first | go_skip | go_guarded | go_step)
              refine (alike_any g gr F X acc l2 A2 n2 c2 V2 htb2 hrt2 (HGD.out.mono (by omega)) ((H2.out.below hbw2).more hbw2.size) hn2 HS2.out).mono ?_
              rintro e V3 ⟨rfl, hb3⟩
              have hbw3 := hbw2.trans (hb3.mono hbw2.size)
              clear htb2 hrt2 hbw2 hb3
              dsimp only
              go_wp2_with (go_at_call 9; refine (works_any hmay _).mono ?_; rintro e w2 ⟨rfl, hb2⟩)
              go_ret
              exact ⟨rfl, hbw3.trans (hb2.mono hbw3.size)⟩
    · exact absurd hok h
  · dsimp only
    repeat (first | go_skip | go_guarded | go_step)
    refine (rOf_any A0 n0 c0 l0 W2 ((H0.out.below hbw2).more hbw2.size) (by omega) (fun s hs => by have := HS0.out s hs; omega)).mono ?_
    rintro e W3 ⟨hb3, hor⟩
    rcases hor with ⟨h, _⟩ | ⟨_, rfl⟩
    · exact absurd h hbad
    · have hbw3 := hbw2.trans (hb3.mono hbw2.size)
      clear hb3 hbw2 hbad
      generalize (ofL [] l0).2 = err
      dsimp only
      repeat (first | go_skip | go_guarded | go_step)
      refine (tNew W3).mono ?_
      rintro e W4 ⟨g, F, rfl, htb, hF⟩
      obtain ⟨hF, hb4⟩ := hF
      have hbw4 := hbw3.trans (hb4.mono hbw3.size)
      obtain ⟨W5, hW5, hbk, hb5⟩ : ∃ W5, W5 = W4.alloc (.cells #[.slice none 0 0] 34) ∧ Bk W5 W4.heap.size 34 [.slice none 0 0] ∧ Below W4.heap.size W4 W5 :=
        ⟨_, rfl, Bk.new W4 _ _, (Below.refl _ _).alloc (Nat.le_refl _) _⟩
      have HW5 := Lib.hid hW5
      have hrt : RT W5 W4.heap.size none [] := ⟨none, 0, hbk, World.ownsRow_nil _ _ _ _, rfl, by simp⟩
      have htb3 := htb.later hb5
      have hdis : ∀ k, F k → ¬ Fp1 W4.heap.size none k := fun k h1 h2 => by
        have h3 := htb.lt k h1
        rcases h2 with rfl | h2
        · omega
        · cases h2
      have hXw : ∀ k, Fp1 W4.heap.size none k → w.heap.size ≤ k := fun k h => by
        rcases h with rfl | h
        · exact hbw4.size
        · cases h
      have hFw : ∀ k, F k → w.heap.size ≤ k := fun k hk => Nat.le_trans hbw3.size (hF k hk)
      have hgd3 : Good 300 [] := Good.nil _
      have hbw5 := hbw4.trans (hb5.mono hbw4.size)
      clear hbw3
      have hbw3 := hbw5
      obtain ⟨gr, hgr⟩ : ∃ k, k = W4.heap.size := ⟨_, rfl⟩
      clear htb hF hb4 hb5 hbk hW5 hbw5
      dsimp only
      repeat (first | go_skip | go_guarded | go_step)
      rw [← HW5.out]
      rw [← hgr] at hrt hdis hXw ⊢
      clear hgr hbw4
      generalize hacc : ([] : List ByteArray) = acc at hrt htb3 hgd3
      clear hacc
      obtain ⟨X, hXe⟩ : ∃ X : Option Nat, X = none := ⟨_, rfl⟩
      rw [← hXe] at hrt hdis hXw
      clear hXe
      generalize W5 = W3' at *
      go_loopw [11] (fun p wr => ∃ (i : Nat) (F : Nat → Prop) (X : Option Nat) (acc : List ByteArray), i ≤ n1 ∧ p = .int .i64 (i : Int) ∧ Good (300 + i) acc ∧ Tb wr g F acc ∧ RT wr gr X acc ∧ (∀ k, F k → ¬ Fp1 gr X k) ∧ (∀ k, F k → w.heap.size ≤ k) ∧ (∀ k, Fp1 gr X k → w.heap.size ≤ k) ∧ Below w.heap.size w wr)
        (fun p _ => n1 - (intOf p).toNat)
      case atStart => exact ⟨0, F, X, acc, by omega, rfl, hgd3, htb3, hrt, hdis, hFw, hXw, hbw3⟩
      case round =>
        clear hgd3 htb3 hrt hdis hFw hXw hbw3
        obtain ⟨i, F, X, acc, hi, rfl, hgd, htb, hrt, hdis, hFw, hXw, hbw⟩ := hrel
        by_cases hlt : i < n1
        · have hci : (i : Int) < (n1 : Int) := by omega
          obtain ⟨b, o, s, hA, hbb, hx, hc⟩ := rdS_at (H1.out.below hbw) hlt
          subst hA
          have hsz := HS1.out s (List.mem_of_getElem? hx)
          have hal := hgd.len
          have HGD := Lib.hid (putL_good s hgd (by omega))
          have HC := Lib.hid ((hbw.cell (p := ⟨b, o + i, none⟩) hbb).symm.trans hc)
          have HDI := Lib.hid hdis
          have HFW := Lib.hid hFw
          have HXW := Lib.hid hXw
          clear hx hgd hdis hFw hXw
          repeat (first | go_skip | go_guarded | go_step)
          refine (tPut g F acc s wr htb (by omega) (by omega) (fun W => hmay s W (by omega))).mono ?_
          rintro e w1 ⟨rfl, F1, htb1, ht1, hF1⟩
          have hrt1 := hrt.turn ht1 (fun k h1 h2 => HDI.out k h2 h1)
          have hbw1 : Below w.heap.size w w1 := hbw.trans (ht1.below (fun k _ hk => HFW.out k hk) hbw.size)
          have HD1 := Lib.hid (show ∀ k, F1 k → ¬ Fp1 gr X k from fun k hk h2 => by
            rcases hF1 k hk with h | h
            · exact HDI.out k h h2
            · have := hrt.lt k h2
              omega)
          have HF1w := Lib.hid (show ∀ k, F1 k → w.heap.size ≤ k from fun k hk => by
            rcases hF1 k hk with h | h
            · exact HFW.out k h
            · exact Nat.le_trans hbw.size h)
          have hc1 : w1.cell? ⟨b, o + i, none⟩ = some (sv s) := (hbw1.cell (p := ⟨b, o + i, none⟩) hbb).trans HC.out
          clear htb hrt ht1 hF1 hbw hc HDI HFW
          dsimp only
          repeat (first | go_skip | go_guarded | go_step)
          refine (rPut_any gr X acc s w1 hrt1 (by omega) (by omega)).mono ?_
          rintro e w2 ⟨rfl, X2, hrt2, ht2, hX2⟩
          have htb2 := htb1.turn ht2 (fun k h1 h2 => HD1.out k h1 h2)
          have hbw2 : Below w.heap.size w w2 := hbw1.trans (ht2.below (fun k _ hk => HXW.out k hk) hbw1.size)
          have HD2 := Lib.hid (show ∀ k, F1 k → ¬ Fp1 gr X2 k from fun k hk h2 => by
            rcases h2 with rfl | h2
            · exact HD1.out _ hk (.inl rfl)
            · rcases hX2 k h2 with h | h
              · exact HD1.out k hk (.inr h)
              · have := htb1.lt k hk
                omega)
          have HX2w := Lib.hid (show ∀ k, Fp1 gr X2 k → w.heap.size ≤ k from fun k hk => by
            rcases hk with rfl | hk
            · exact HXW.out _ (.inl rfl)
            · rcases hX2 k hk with h | h
              · exact HXW.out k (.inr h)
              · exact Nat.le_trans hbw1.size h)
          have HC2 := Lib.hid (show w2.drew.cell? ⟨b, o + i, none⟩ = some (sv s) from (hbw2.cell (p := ⟨b, o + i, none⟩) hbb).trans HC.out)
          have HM := Lib.hid (hmay s w2.drew (by omega))
          have HRM := Lib.hid (rMay_any s w2.drew (by omega))
          have htb3 : Tb w2.drew g F1 _ := htb2
          have hrt3 : RT w2.drew gr X2 _ := hrt2
          have hbw3 : Below w.heap.size w w2.drew := hbw2.drew
          have HT3 := Lib.hid htb3
          have HR3 := Lib.hid hrt3
          have HB3 := Lib.hid hbw3
          clear hrt1 htb1 hbw1 ht2 hX2 hc1 HD1 HXW htb2 hrt2 hbw2 htb3 hrt3 hbw3
          generalize (putL acc s).2.1 = num
          generalize (putL acc s).2.2 = err
          generalize mayB s = mb at *
          dsimp only
          repeat (first | go_skip | go_guarded | go_step)
          cases mb with
          | false =>
            refine wp_region_any (by kernel_rfl) ?_
            try (change wpAny _ _ _ _ _ _ _ (World.drew _))
            refine wpAny_meet (b := ?ad67) (fun V => V = w2.drew) ?cd67 ?rd67
            case rd67 =>
              intro hEnd
              have hf0 : w2.drew = w2.drew := rfl
              refine wpAny_take (i := 0) (oi := ?oid68) (v := ?vd68) ?hod68 (by kernel_rfl) ?hfd68 ?hrd68 ?hQd68 ?hyd68 ?restd68
              case hod68 => (simp only [List.getElem?_toArray, List.getElem?_cons_succ, List.getElem?_cons_zero]; exact rfl)
              case hfd68 => kernel_rfl
              case hrd68 => kernel_rfl
              case hQd68 => exact fun _ _ _ h => h
              case hyd68 =>
                refine Or.inl ⟨by rfl, ?_⟩
                intro w
                go_simp
                (try with_reducible rfl)
              try simp only [Act.put, List.setIfInBounds_toArray, List.set_cons_zero, List.set_cons_succ]
              refine wpAny_take (i := 1) (oi := ?oid69) (v := ?vd69) ?hod69 (by kernel_rfl) ?hfd69 ?hrd69 ?hQd69 ?hyd69 ?restd69
              case hod69 => (simp only [List.getElem?_toArray, List.getElem?_cons_succ, List.getElem?_cons_zero]; exact rfl)
              case hfd69 => kernel_rfl
              case hrd69 => kernel_rfl
              case hQd69 => exact fun _ _ _ h => h
              case hyd69 =>
                refine Or.inl ⟨by rfl, ?_⟩
                intro w
                go_simp
                (try with_reducible rfl)
              try simp only [Act.put, List.setIfInBounds_toArray, List.set_cons_zero, List.set_cons_succ]
              refine wpAny_take (i := 2) (oi := ?oid70) (v := ?vd70) ?hod70 (by kernel_rfl) ?hfd70 ?hrd70 ?hQd70 ?hyd70 ?restd70
              case hod70 => (simp only [List.getElem?_toArray, List.getElem?_cons_succ, List.getElem?_cons_zero]; exact rfl)
              case hfd70 => kernel_rfl
              case hrd70 => kernel_rfl
              case hQd70 => exact fun _ _ _ h => h
              case hyd70 =>
                refine Or.inl ⟨by rfl, ?_⟩
                intro w
                go_simp
                (try with_reducible rfl)
              try simp only [Act.put, List.setIfInBounds_toArray, List.set_cons_zero, List.set_cons_succ]
              refine wpAny_take (i := 3) (oi := ?oid71) (v := ?vd71) ?hod71 (by kernel_rfl) ?hfd71 ?hrd71 ?hQd71 ?hyd71 ?restd71
              case hod71 => (simp only [List.getElem?_toArray, List.getElem?_cons_succ, List.getElem?_cons_zero]; exact rfl)
              case hfd71 => kernel_rfl
              case hrd71 => kernel_rfl
              case hQd71 => exact fun _ _ _ h => h
              case hyd71 =>
                refine Or.inl ⟨by rfl, ?_⟩
                intro w
                go_simp
                (try with_reducible rfl)
              try simp only [Act.put, List.setIfInBounds_toArray, List.set_cons_zero, List.set_cons_succ]
              refine wpAny_take (i := 4) (oi := ?oid72) (v := ?vd72) ?hod72 (by kernel_rfl) ?hfd72 ?hrd72 ?hQd72 ?hyd72 ?restd72
              case hod72 => (simp only [List.getElem?_toArray, List.getElem?_cons_succ, List.getElem?_cons_zero]; exact rfl)
              case hfd72 => kernel_rfl
              case hrd72 => kernel_rfl
              case hQd72 => exact fun _ _ _ h => h
              case hyd72 =>
                refine Or.inl ⟨by rfl, ?_⟩
                intro w
                go_simp
                (try with_reducible rfl)
              try simp only [Act.put, List.setIfInBounds_toArray, List.set_cons_zero, List.set_cons_succ]
              refine wpAny_take (i := 5) (oi := ?oid73) (v := ?vd73) ?hod73 (by kernel_rfl) ?hfd73 ?hrd73 ?hQd73 ?hyd73 ?restd73
              case hod73 => (simp only [List.getElem?_toArray, List.getElem?_cons_succ, List.getElem?_cons_zero]; exact rfl)
              case hfd73 => kernel_rfl
              case hrd73 => kernel_rfl
              case hQd73 => exact fun _ _ _ h => h
              case hyd73 =>
                refine Or.inl ⟨by rfl, ?_⟩
                intro w
                go_simp
                (try with_reducible rfl)
              try simp only [Act.put, List.setIfInBounds_toArray, List.set_cons_zero, List.set_cons_succ]
              refine wpAny_take (i := 6) (oi := ?oid74) (v := ?vd74) ?hod74 (by kernel_rfl) ?hfd74 ?hrd74 ?hQd74 ?hyd74 ?restd74
              case hod74 => (simp only [List.getElem?_toArray, List.getElem?_cons_succ, List.getElem?_cons_zero]; exact rfl)
              case hfd74 => kernel_rfl
              case hrd74 => kernel_rfl
              case hQd74 => exact fun _ _ _ h => h
              case hyd74 =>
                refine Or.inl ⟨by rfl, ?_⟩
                intro w
                go_simp
                (try with_reducible rfl)
              try simp only [Act.put, List.setIfInBounds_toArray, List.set_cons_zero, List.set_cons_succ]
              refine wpAny_take (i := 7) (oi := ?oid75) (v := ?vd75) ?hod75 (by kernel_rfl) ?hfd75 ?hrd75 ?hQd75 ?hyd75 ?restd75
              case hod75 => (simp only [List.getElem?_toArray, List.getElem?_cons_succ, List.getElem?_cons_zero]; exact rfl)
              case hfd75 => kernel_rfl
              case hrd75 => kernel_rfl
              case hQd75 => exact fun _ _ _ h => h
              case hyd75 =>
                refine Or.inl ⟨by rfl, ?_⟩
                intro w
                go_simp
                (try with_reducible rfl)
              try simp only [Act.put, List.setIfInBounds_toArray, List.set_cons_zero, List.set_cons_succ]
              refine wpAny_take (i := 8) (oi := ?oid76) (v := ?vd76) ?hod76 (by kernel_rfl) ?hfd76 ?hrd76 ?hQd76 ?hyd76 ?restd76
              case hod76 => (simp only [List.getElem?_toArray, List.getElem?_cons_succ, List.getElem?_cons_zero]; exact rfl)
              case hfd76 => kernel_rfl
              case hrd76 => kernel_rfl
              case hQd76 => exact fun _ _ _ h => h
              case hyd76 =>
                refine Or.inl ⟨by rfl, ?_⟩
                intro w
                go_simp
                (try with_reducible rfl)
              try simp only [Act.put, List.setIfInBounds_toArray, List.set_cons_zero, List.set_cons_succ]
              refine wpAny_take (i := 9) (oi := ?oid77) (v := ?vd77) ?hod77 (by kernel_rfl) ?hfd77 ?hrd77 ?hQd77 ?hyd77 ?restd77
              case hod77 => (simp only [List.getElem?_toArray, List.getElem?_cons_succ, List.getElem?_cons_zero]; exact rfl)
              case hfd77 => kernel_rfl
              case hrd77 => kernel_rfl
              case hQd77 => exact fun _ _ _ h => h
              case hyd77 =>
                refine Or.inl ⟨by rfl, ?_⟩
                intro w
                go_simp
                (try with_reducible rfl)
              try simp only [Act.put, List.setIfInBounds_toArray, List.set_cons_zero, List.set_cons_succ]
              refine wpAny_take (i := 10) (oi := ?oid78) (v := ?vd78) ?hod78 (by kernel_rfl) ?hfd78 ?hrd78 ?hQd78 ?hyd78 ?restd78
              case hod78 => (simp only [List.getElem?_toArray, List.getElem?_cons_succ, List.getElem?_cons_zero]; exact rfl)
              case hfd78 => kernel_rfl
              case hrd78 => kernel_rfl
              case hQd78 => exact fun _ _ _ h => h
              case hyd78 =>
                refine Or.inl ⟨by rfl, ?_⟩
                intro w
                go_simp
                (try with_reducible rfl)
              try simp only [Act.put, List.setIfInBounds_toArray, List.set_cons_zero, List.set_cons_succ]
              refine wpAny_take (i := 11) (oi := ?oid79) (v := ?vd79) ?hod79 (by kernel_rfl) ?hfd79 ?hrd79 ?hQd79 ?hyd79 ?restd79
              case hod79 => (simp only [List.getElem?_toArray, List.getElem?_cons_succ, List.getElem?_cons_zero]; exact rfl)
              case hfd79 => kernel_rfl
              case hrd79 => kernel_rfl
              case hQd79 => exact fun _ _ _ h => h
              case hyd79 =>
                refine Or.inl ⟨by rfl, ?_⟩
                intro w
                go_simp
                (try with_reducible rfl)
              try simp only [Act.put, List.setIfInBounds_toArray, List.set_cons_zero, List.set_cons_succ]
              refine wpAny_take (i := 14) (oi := ?oid80) (v := ?vd80) ?hod80 (by kernel_rfl) ?hfd80 ?hrd80 ?hQd80 ?hyd80 ?restd80
              case hod80 => (simp only [List.getElem?_toArray, List.getElem?_cons_succ, List.getElem?_cons_zero]; exact rfl)
              case hfd80 => kernel_rfl
              case hrd80 => kernel_rfl
              case hQd80 => exact fun _ _ _ h => h
              case hyd80 =>
                refine Or.inl ⟨by rfl, ?_⟩
                intro w
                go_simp
                (try with_reducible rfl)
              try simp only [Act.put, List.setIfInBounds_toArray, List.set_cons_zero, List.set_cons_succ]
              refine wpAny_take (i := 15) (oi := ?oid81) (v := ?vd81) ?hod81 (by kernel_rfl) ?hfd81 ?hrd81 ?hQd81 ?hyd81 ?restd81
              case hod81 => (simp only [List.getElem?_toArray, List.getElem?_cons_succ, List.getElem?_cons_zero]; exact rfl)
              case hfd81 => kernel_rfl
              case hrd81 => kernel_rfl
              case hQd81 => exact fun _ _ _ h => h
              case hyd81 =>
                refine Or.inl ⟨by rfl, ?_⟩
                intro w
                go_simp
                (try with_reducible rfl)
              try simp only [Act.put, List.setIfInBounds_toArray, List.set_cons_zero, List.set_cons_succ]
              refine wpAny_take (i := 16) (oi := ?oid82) (v := ?vd82) ?hod82 (by kernel_rfl) ?hfd82 ?hrd82 ?hQd82 ?hyd82 ?restd82
              case hod82 => (simp only [List.getElem?_toArray, List.getElem?_cons_succ, List.getElem?_cons_zero]; exact rfl)
              case hfd82 => kernel_rfl
              case hrd82 => kernel_rfl
              case hQd82 => exact fun _ _ _ h => h
              case hyd82 =>
                refine Or.inl ⟨by rfl, ?_⟩
                intro w
                go_simp
                (try with_reducible rfl)
              try simp only [Act.put, List.setIfInBounds_toArray, List.set_cons_zero, List.set_cons_succ]
              refine wpAny_ready (rs := [12, 17]) (by kernel_rfl) (by simp) ?_
              refine AllReady.cons (o := ?od83) ?hod83 (fun K hK => ?kd83) ?md83
              case hod83 => (simp only [List.getElem?_toArray, List.getElem?_cons_succ, List.getElem?_cons_zero]; exact rfl)
              case kd83 =>
                refine anyd_loadStr (by rfl) (.tmp 94) rfl b (o + i) _ (by rfl) HC2.out ?_
                refine hK _ _ ?_
                clear hK K
                try simp only [Act.put, List.setIfInBounds_toArray, List.set_cons_zero, List.set_cons_succ]
                refine wpAny_ready (rs := [13, 17]) (by kernel_rfl) (by simp) ?_
                refine AllReady.cons (o := ?od84) ?hod84 (fun K hK => ?kd84) ?md84
                case hod84 => (simp only [List.getElem?_toArray, List.getElem?_cons_succ, List.getElem?_cons_zero]; exact rfl)
                case kd84 =>
                  go_simp
                  refine HM.out.mono ?_
                  rintro e V ⟨rfl, rfl⟩
                  (try dsimp only)
                  refine hK _ _ ?_
                  clear hK K
                  try simp only [Act.put, List.setIfInBounds_toArray, List.set_cons_zero, List.set_cons_succ]
                  refine wpAny_ready (rs := [17]) (by kernel_rfl) (by simp) ?_
                  refine AllReady.cons (o := ?od85) ?hod85 (fun K hK => ?kd85) ?md85
                  case hod85 => (simp only [List.getElem?_toArray, List.getElem?_cons_succ, List.getElem?_cons_zero]; exact rfl)
                  case kd85 =>
                    refine anyd_loadStr (by rfl) (.tmp 99) rfl b (o + i) _ (by rfl) HC2.out ?_
                    refine hK _ _ ?_
                    clear hK K
                    try simp only [Act.put, List.setIfInBounds_toArray, List.set_cons_zero, List.set_cons_succ]
                    refine wpAny_ready (rs := [18]) (by kernel_rfl) (by simp) ?_
                    refine AllReady.cons (o := ?od86) ?hod86 (fun K hK => ?kd86) ?md86
                    case hod86 => (simp only [List.getElem?_toArray, List.getElem?_cons_succ, List.getElem?_cons_zero]; exact rfl)
                    case kd86 =>
                      go_simp
                      refine HRM.out.mono ?_
                      rintro e V ⟨rfl, rfl⟩
                      (try dsimp only)
                      refine hK _ _ ?_
                      clear hK K
                      try simp only [Act.put, List.setIfInBounds_toArray, List.set_cons_zero, List.set_cons_succ]
                      refine wpAny_take (i := 19) (oi := ?oid87) (v := ?vd87) ?hod87 (by kernel_rfl) ?hfd87 ?hrd87 ?hQd87 ?hyd87 ?restd87
                      case hod87 => (simp only [List.getElem?_toArray, List.getElem?_cons_succ, List.getElem?_cons_zero]; exact rfl)
                      case hfd87 => kernel_rfl
                      case hrd87 => kernel_rfl
                      case hQd87 => exact fun _ _ _ h => h
                      case hyd87 =>
                        refine Or.inl ⟨by rfl, ?_⟩
                        intro w
                        go_simp
                        (try with_reducible rfl)
                      try simp only [Act.put, List.setIfInBounds_toArray, List.set_cons_zero, List.set_cons_succ]
                      refine wpAny_take (i := 20) (oi := ?oid88) (v := ?vd88) ?hod88 (by kernel_rfl) ?hfd88 ?hrd88 ?hQd88 ?hyd88 ?restd88
                      case hod88 => (simp only [List.getElem?_toArray, List.getElem?_cons_succ, List.getElem?_cons_zero]; exact rfl)
                      case hfd88 => kernel_rfl
                      case hrd88 => kernel_rfl
                      case hQd88 => exact fun _ _ _ h => h
                      case hyd88 =>
                        refine Or.inl ⟨by rfl, ?_⟩
                        intro w
                        go_simp
                        (try with_reducible rfl)
                      try simp only [Act.put, List.setIfInBounds_toArray, List.set_cons_zero, List.set_cons_succ]
                      exact wpAny_done (by kernel_rfl) (hEnd _ hf0) _
                    exact AllReady.nil
                  exact AllReady.nil
                refine AllReady.cons (o := ?od89) ?hod89 (fun K hK => ?kd89) ?md89
                case hod89 => (simp only [List.getElem?_toArray, List.getElem?_cons_succ, List.getElem?_cons_zero]; exact rfl)
                case kd89 =>
                  refine anyd_loadStr (by rfl) (.tmp 99) rfl b (o + i) _ (by rfl) HC2.out ?_
                  refine hK _ _ ?_
                  clear hK K
                  try simp only [Act.put, List.setIfInBounds_toArray, List.set_cons_zero, List.set_cons_succ]
                  refine wpAny_ready (rs := [13]) (by kernel_rfl) (by simp) ?_
                  refine AllReady.cons (o := ?od90) ?hod90 (fun K hK => ?kd90) ?md90
                  case hod90 => (simp only [List.getElem?_toArray, List.getElem?_cons_succ, List.getElem?_cons_zero]; exact rfl)
                  case kd90 =>
                    go_simp
                    refine HM.out.mono ?_
                    rintro e V ⟨rfl, rfl⟩
                    (try dsimp only)
                    refine hK _ _ ?_
                    clear hK K
                    try simp only [Act.put, List.setIfInBounds_toArray, List.set_cons_zero, List.set_cons_succ]
                    refine wpAny_ready (rs := [18]) (by kernel_rfl) (by simp) ?_
                    refine AllReady.cons (o := ?od91) ?hod91 (fun K hK => ?kd91) ?md91
                    case hod91 => (simp only [List.getElem?_toArray, List.getElem?_cons_succ, List.getElem?_cons_zero]; exact rfl)
                    case kd91 =>
                      go_simp
                      refine HRM.out.mono ?_
                      rintro e V ⟨rfl, rfl⟩
                      (try dsimp only)
                      refine hK _ _ ?_
                      clear hK K
                      try simp only [Act.put, List.setIfInBounds_toArray, List.set_cons_zero, List.set_cons_succ]
                      refine wpAny_take (i := 19) (oi := ?oid92) (v := ?vd92) ?hod92 (by kernel_rfl) ?hfd92 ?hrd92 ?hQd92 ?hyd92 ?restd92
                      case hod92 => (simp only [List.getElem?_toArray, List.getElem?_cons_succ, List.getElem?_cons_zero]; exact rfl)
                      case hfd92 => kernel_rfl
                      case hrd92 => kernel_rfl
                      case hQd92 => exact fun _ _ _ h => h
                      case hyd92 =>
                        refine Or.inl ⟨by rfl, ?_⟩
                        intro w
                        go_simp
                        (try with_reducible rfl)
                      try simp only [Act.put, List.setIfInBounds_toArray, List.set_cons_zero, List.set_cons_succ]
                      refine wpAny_take (i := 20) (oi := ?oid93) (v := ?vd93) ?hod93 (by kernel_rfl) ?hfd93 ?hrd93 ?hQd93 ?hyd93 ?restd93
                      case hod93 => (simp only [List.getElem?_toArray, List.getElem?_cons_succ, List.getElem?_cons_zero]; exact rfl)
                      case hfd93 => kernel_rfl
                      case hrd93 => kernel_rfl
                      case hQd93 => exact fun _ _ _ h => h
                      case hyd93 =>
                        refine Or.inl ⟨by rfl, ?_⟩
                        intro w
                        go_simp
                        (try with_reducible rfl)
                      try simp only [Act.put, List.setIfInBounds_toArray, List.set_cons_zero, List.set_cons_succ]
                      exact wpAny_done (by kernel_rfl) (hEnd _ hf0) _
                    exact AllReady.nil
                  exact AllReady.nil
                exact AllReady.nil
              refine AllReady.cons (o := ?od94) ?hod94 (fun K hK => ?kd94) ?md94
              case hod94 => (simp only [List.getElem?_toArray, List.getElem?_cons_succ, List.getElem?_cons_zero]; exact rfl)
              case kd94 =>
                refine anyd_loadStr (by rfl) (.tmp 99) rfl b (o + i) _ (by rfl) HC2.out ?_
                refine hK _ _ ?_
                clear hK K
                try simp only [Act.put, List.setIfInBounds_toArray, List.set_cons_zero, List.set_cons_succ]
                refine wpAny_ready (rs := [12]) (by kernel_rfl) (by simp) ?_
                refine AllReady.cons (o := ?od95) ?hod95 (fun K hK => ?kd95) ?md95
                case hod95 => (simp only [List.getElem?_toArray, List.getElem?_cons_succ, List.getElem?_cons_zero]; exact rfl)
                case kd95 =>
                  refine anyd_loadStr (by rfl) (.tmp 94) rfl b (o + i) _ (by rfl) HC2.out ?_
                  refine hK _ _ ?_
                  clear hK K
                  try simp only [Act.put, List.setIfInBounds_toArray, List.set_cons_zero, List.set_cons_succ]
                  refine wpAny_ready (rs := [13]) (by kernel_rfl) (by simp) ?_
                  refine AllReady.cons (o := ?od96) ?hod96 (fun K hK => ?kd96) ?md96
                  case hod96 => (simp only [List.getElem?_toArray, List.getElem?_cons_succ, List.getElem?_cons_zero]; exact rfl)
                  case kd96 =>
                    go_simp
                    refine HM.out.mono ?_
                    rintro e V ⟨rfl, rfl⟩
                    (try dsimp only)
                    refine hK _ _ ?_
                    clear hK K
                    try simp only [Act.put, List.setIfInBounds_toArray, List.set_cons_zero, List.set_cons_succ]
                    refine wpAny_ready (rs := [18]) (by kernel_rfl) (by simp) ?_
                    refine AllReady.cons (o := ?od97) ?hod97 (fun K hK => ?kd97) ?md97
                    case hod97 => (simp only [List.getElem?_toArray, List.getElem?_cons_succ, List.getElem?_cons_zero]; exact rfl)
                    case kd97 =>
                      go_simp
                      refine HRM.out.mono ?_
                      rintro e V ⟨rfl, rfl⟩
                      (try dsimp only)
                      refine hK _ _ ?_
                      clear hK K
                      try simp only [Act.put, List.setIfInBounds_toArray, List.set_cons_zero, List.set_cons_succ]
                      refine wpAny_take (i := 19) (oi := ?oid98) (v := ?vd98) ?hod98 (by kernel_rfl) ?hfd98 ?hrd98 ?hQd98 ?hyd98 ?restd98
                      case hod98 => (simp only [List.getElem?_toArray, List.getElem?_cons_succ, List.getElem?_cons_zero]; exact rfl)
                      case hfd98 => kernel_rfl
                      case hrd98 => kernel_rfl
                      case hQd98 => exact fun _ _ _ h => h
                      case hyd98 =>
                        refine Or.inl ⟨by rfl, ?_⟩
                        intro w
                        go_simp
                        (try with_reducible rfl)
                      try simp only [Act.put, List.setIfInBounds_toArray, List.set_cons_zero, List.set_cons_succ]
                      refine wpAny_take (i := 20) (oi := ?oid99) (v := ?vd99) ?hod99 (by kernel_rfl) ?hfd99 ?hrd99 ?hQd99 ?hyd99 ?restd99
                      case hod99 => (simp only [List.getElem?_toArray, List.getElem?_cons_succ, List.getElem?_cons_zero]; exact rfl)
                      case hfd99 => kernel_rfl
                      case hrd99 => kernel_rfl
                      case hQd99 => exact fun _ _ _ h => h
                      case hyd99 =>
                        refine Or.inl ⟨by rfl, ?_⟩
                        intro w
                        go_simp
                        (try with_reducible rfl)
                      try simp only [Act.put, List.setIfInBounds_toArray, List.set_cons_zero, List.set_cons_succ]
                      exact wpAny_done (by kernel_rfl) (hEnd _ hf0) _
                    exact AllReady.nil
                  exact AllReady.nil
                exact AllReady.nil
              exact AllReady.nil
            case cd67 =>
              rintro V rfl
              repeat (first | go_skip | go_guarded | go_step)
              go_roundw
              case rel => exact ⟨i + 1, F1, X2, _, by omega, by go_num, HGD.out, HT3.out, HR3.out, HD2.out, HF1w.out, HX2w.out, HB3.out⟩
              case measure => simp [intOf]; omega
          | true =>
            refine wp_region_any (by kernel_rfl) ?_
            try (change wpAny _ _ _ _ _ _ _ (World.drew _))
            refine wpAny_meet (b := ?ad100) (fun V => V = w2.drew) ?cd100 ?rd100
            case rd100 =>
              intro hEnd
              have hf0 : w2.drew = w2.drew := rfl
              refine wpAny_take (i := 0) (oi := ?oid101) (v := ?vd101) ?hod101 (by kernel_rfl) ?hfd101 ?hrd101 ?hQd101 ?hyd101 ?restd101
              case hod101 => (simp only [List.getElem?_toArray, List.getElem?_cons_succ, List.getElem?_cons_zero]; exact rfl)
              case hfd101 => kernel_rfl
              case hrd101 => kernel_rfl
              case hQd101 => exact fun _ _ _ h => h
              case hyd101 =>
                refine Or.inl ⟨by rfl, ?_⟩
                intro w
                go_simp
                (try with_reducible rfl)
              try simp only [Act.put, List.setIfInBounds_toArray, List.set_cons_zero, List.set_cons_succ]
              refine wpAny_take (i := 1) (oi := ?oid102) (v := ?vd102) ?hod102 (by kernel_rfl) ?hfd102 ?hrd102 ?hQd102 ?hyd102 ?restd102
              case hod102 => (simp only [List.getElem?_toArray, List.getElem?_cons_succ, List.getElem?_cons_zero]; exact rfl)
              case hfd102 => kernel_rfl
              case hrd102 => kernel_rfl
              case hQd102 => exact fun _ _ _ h => h
              case hyd102 =>
                refine Or.inl ⟨by rfl, ?_⟩
                intro w
                go_simp
                (try with_reducible rfl)
              try simp only [Act.put, List.setIfInBounds_toArray, List.set_cons_zero, List.set_cons_succ]
              refine wpAny_take (i := 2) (oi := ?oid103) (v := ?vd103) ?hod103 (by kernel_rfl) ?hfd103 ?hrd103 ?hQd103 ?hyd103 ?restd103
              case hod103 => (simp only [List.getElem?_toArray, List.getElem?_cons_succ, List.getElem?_cons_zero]; exact rfl)
              case hfd103 => kernel_rfl
              case hrd103 => kernel_rfl
              case hQd103 => exact fun _ _ _ h => h
              case hyd103 =>
                refine Or.inl ⟨by rfl, ?_⟩
                intro w
                go_simp
                (try with_reducible rfl)
              try simp only [Act.put, List.setIfInBounds_toArray, List.set_cons_zero, List.set_cons_succ]
              refine wpAny_take (i := 3) (oi := ?oid104) (v := ?vd104) ?hod104 (by kernel_rfl) ?hfd104 ?hrd104 ?hQd104 ?hyd104 ?restd104
              case hod104 => (simp only [List.getElem?_toArray, List.getElem?_cons_succ, List.getElem?_cons_zero]; exact rfl)
              case hfd104 => kernel_rfl
              case hrd104 => kernel_rfl
              case hQd104 => exact fun _ _ _ h => h
              case hyd104 =>
                refine Or.inl ⟨by rfl, ?_⟩
                intro w
                go_simp
                (try with_reducible rfl)
              try simp only [Act.put, List.setIfInBounds_toArray, List.set_cons_zero, List.set_cons_succ]
              refine wpAny_take (i := 4) (oi := ?oid105) (v := ?vd105) ?hod105 (by kernel_rfl) ?hfd105 ?hrd105 ?hQd105 ?hyd105 ?restd105
              case hod105 => (simp only [List.getElem?_toArray, List.getElem?_cons_succ, List.getElem?_cons_zero]; exact rfl)
              case hfd105 => kernel_rfl
              case hrd105 => kernel_rfl
              case hQd105 => exact fun _ _ _ h => h
              case hyd105 =>
                refine Or.inl ⟨by rfl, ?_⟩
                intro w
                go_simp
                (try with_reducible rfl)
              try simp only [Act.put, List.setIfInBounds_toArray, List.set_cons_zero, List.set_cons_succ]
              refine wpAny_take (i := 5) (oi := ?oid106) (v := ?vd106) ?hod106 (by kernel_rfl) ?hfd106 ?hrd106 ?hQd106 ?hyd106 ?restd106
              case hod106 => (simp only [List.getElem?_toArray, List.getElem?_cons_succ, List.getElem?_cons_zero]; exact rfl)
              case hfd106 => kernel_rfl
              case hrd106 => kernel_rfl
              case hQd106 => exact fun _ _ _ h => h
              case hyd106 =>
                refine Or.inl ⟨by rfl, ?_⟩
                intro w
                go_simp
                (try with_reducible rfl)
              try simp only [Act.put, List.setIfInBounds_toArray, List.set_cons_zero, List.set_cons_succ]
              refine wpAny_take (i := 6) (oi := ?oid107) (v := ?vd107) ?hod107 (by kernel_rfl) ?hfd107 ?hrd107 ?hQd107 ?hyd107 ?restd107
              case hod107 => (simp only [List.getElem?_toArray, List.getElem?_cons_succ, List.getElem?_cons_zero]; exact rfl)
              case hfd107 => kernel_rfl
              case hrd107 => kernel_rfl
              case hQd107 => exact fun _ _ _ h => h
              case hyd107 =>
                refine Or.inl ⟨by rfl, ?_⟩
                intro w
                go_simp
                (try with_reducible rfl)
              try simp only [Act.put, List.setIfInBounds_toArray, List.set_cons_zero, List.set_cons_succ]
              refine wpAny_take (i := 7) (oi := ?oid108) (v := ?vd108) ?hod108 (by kernel_rfl) ?hfd108 ?hrd108 ?hQd108 ?hyd108 ?restd108
              case hod108 => (simp only [List.getElem?_toArray, List.getElem?_cons_succ, List.getElem?_cons_zero]; exact rfl)
              case hfd108 => kernel_rfl
              case hrd108 => kernel_rfl
              case hQd108 => exact fun _ _ _ h => h
              case hyd108 =>
                refine Or.inl ⟨by rfl, ?_⟩
                intro w
                go_simp
                (try with_reducible rfl)
              try simp only [Act.put, List.setIfInBounds_toArray, List.set_cons_zero, List.set_cons_succ]
              refine wpAny_take (i := 8) (oi := ?oid109) (v := ?vd109) ?hod109 (by kernel_rfl) ?hfd109 ?hrd109 ?hQd109 ?hyd109 ?restd109
              case hod109 => (simp only [List.getElem?_toArray, List.getElem?_cons_succ, List.getElem?_cons_zero]; exact rfl)
              case hfd109 => kernel_rfl
              case hrd109 => kernel_rfl
              case hQd109 => exact fun _ _ _ h => h
              case hyd109 =>
                refine Or.inl ⟨by rfl, ?_⟩
                intro w
                go_simp
                (try with_reducible rfl)
              try simp only [Act.put, List.setIfInBounds_toArray, List.set_cons_zero, List.set_cons_succ]
              refine wpAny_take (i := 9) (oi := ?oid110) (v := ?vd110) ?hod110 (by kernel_rfl) ?hfd110 ?hrd110 ?hQd110 ?hyd110 ?restd110
              case hod110 => (simp only [List.getElem?_toArray, List.getElem?_cons_succ, List.getElem?_cons_zero]; exact rfl)
              case hfd110 => kernel_rfl
              case hrd110 => kernel_rfl
              case hQd110 => exact fun _ _ _ h => h
              case hyd110 =>
                refine Or.inl ⟨by rfl, ?_⟩
                intro w
                go_simp
                (try with_reducible rfl)
              try simp only [Act.put, List.setIfInBounds_toArray, List.set_cons_zero, List.set_cons_succ]
              refine wpAny_take (i := 10) (oi := ?oid111) (v := ?vd111) ?hod111 (by kernel_rfl) ?hfd111 ?hrd111 ?hQd111 ?hyd111 ?restd111
              case hod111 => (simp only [List.getElem?_toArray, List.getElem?_cons_succ, List.getElem?_cons_zero]; exact rfl)
              case hfd111 => kernel_rfl
              case hrd111 => kernel_rfl
              case hQd111 => exact fun _ _ _ h => h
              case hyd111 =>
                refine Or.inl ⟨by rfl, ?_⟩
                intro w
                go_simp
                (try with_reducible rfl)
              try simp only [Act.put, List.setIfInBounds_toArray, List.set_cons_zero, List.set_cons_succ]
              refine wpAny_take (i := 11) (oi := ?oid112) (v := ?vd112) ?hod112 (by kernel_rfl) ?hfd112 ?hrd112 ?hQd112 ?hyd112 ?restd112
              case hod112 => (simp only [List.getElem?_toArray, List.getElem?_cons_succ, List.getElem?_cons_zero]; exact rfl)
              case hfd112 => kernel_rfl
              case hrd112 => kernel_rfl
              case hQd112 => exact fun _ _ _ h => h
              case hyd112 =>
                refine Or.inl ⟨by rfl, ?_⟩
                intro w
                go_simp
                (try with_reducible rfl)
              try simp only [Act.put, List.setIfInBounds_toArray, List.set_cons_zero, List.set_cons_succ]
              refine wpAny_take (i := 14) (oi := ?oid113) (v := ?vd113) ?hod113 (by kernel_rfl) ?hfd113 ?hrd113 ?hQd113 ?hyd113 ?restd113
              case hod113 => (simp only [List.getElem?_toArray, List.getElem?_cons_succ, List.getElem?_cons_zero]; exact rfl)
              case hfd113 => kernel_rfl
              case hrd113 => kernel_rfl
              case hQd113 => exact fun _ _ _ h => h
              case hyd113 =>
                refine Or.inl ⟨by rfl, ?_⟩
                intro w
                go_simp
                (try with_reducible rfl)
              try simp only [Act.put, List.setIfInBounds_toArray, List.set_cons_zero, List.set_cons_succ]
              refine wpAny_take (i := 15) (oi := ?oid114) (v := ?vd114) ?hod114 (by kernel_rfl) ?hfd114 ?hrd114 ?hQd114 ?hyd114 ?restd114
              case hod114 => (simp only [List.getElem?_toArray, List.getElem?_cons_succ, List.getElem?_cons_zero]; exact rfl)
              case hfd114 => kernel_rfl
              case hrd114 => kernel_rfl
              case hQd114 => exact fun _ _ _ h => h
              case hyd114 =>
                refine Or.inl ⟨by rfl, ?_⟩
                intro w
                go_simp
                (try with_reducible rfl)
              try simp only [Act.put, List.setIfInBounds_toArray, List.set_cons_zero, List.set_cons_succ]
              refine wpAny_take (i := 16) (oi := ?oid115) (v := ?vd115) ?hod115 (by kernel_rfl) ?hfd115 ?hrd115 ?hQd115 ?hyd115 ?restd115
              case hod115 => (simp only [List.getElem?_toArray, List.getElem?_cons_succ, List.getElem?_cons_zero]; exact rfl)
              case hfd115 => kernel_rfl
              case hrd115 => kernel_rfl
              case hQd115 => exact fun _ _ _ h => h
              case hyd115 =>
                refine Or.inl ⟨by rfl, ?_⟩
                intro w
                go_simp
                (try with_reducible rfl)
              try simp only [Act.put, List.setIfInBounds_toArray, List.set_cons_zero, List.set_cons_succ]
              refine wpAny_ready (rs := [12, 17]) (by kernel_rfl) (by simp) ?_
              refine AllReady.cons (o := ?od116) ?hod116 (fun K hK => ?kd116) ?md116
              case hod116 => (simp only [List.getElem?_toArray, List.getElem?_cons_succ, List.getElem?_cons_zero]; exact rfl)
              case kd116 =>
                refine anyd_loadStr (by rfl) (.tmp 94) rfl b (o + i) _ (by rfl) HC2.out ?_
                refine hK _ _ ?_
                clear hK K
                try simp only [Act.put, List.setIfInBounds_toArray, List.set_cons_zero, List.set_cons_succ]
                refine wpAny_ready (rs := [13, 17]) (by kernel_rfl) (by simp) ?_
                refine AllReady.cons (o := ?od117) ?hod117 (fun K hK => ?kd117) ?md117
                case hod117 => (simp only [List.getElem?_toArray, List.getElem?_cons_succ, List.getElem?_cons_zero]; exact rfl)
                case kd117 =>
                  go_simp
                  refine HM.out.mono ?_
                  rintro e V ⟨rfl, rfl⟩
                  (try dsimp only)
                  refine hK _ _ ?_
                  clear hK K
                  try simp only [Act.put, List.setIfInBounds_toArray, List.set_cons_zero, List.set_cons_succ]
                  refine wpAny_ready (rs := [17]) (by kernel_rfl) (by simp) ?_
                  refine AllReady.cons (o := ?od118) ?hod118 (fun K hK => ?kd118) ?md118
                  case hod118 => (simp only [List.getElem?_toArray, List.getElem?_cons_succ, List.getElem?_cons_zero]; exact rfl)
                  case kd118 =>
                    refine anyd_loadStr (by rfl) (.tmp 99) rfl b (o + i) _ (by rfl) HC2.out ?_
                    refine hK _ _ ?_
                    clear hK K
                    try simp only [Act.put, List.setIfInBounds_toArray, List.set_cons_zero, List.set_cons_succ]
                    refine wpAny_ready (rs := [18]) (by kernel_rfl) (by simp) ?_
                    refine AllReady.cons (o := ?od119) ?hod119 (fun K hK => ?kd119) ?md119
                    case hod119 => (simp only [List.getElem?_toArray, List.getElem?_cons_succ, List.getElem?_cons_zero]; exact rfl)
                    case kd119 =>
                      go_simp
                      refine HRM.out.mono ?_
                      rintro e V ⟨rfl, rfl⟩
                      (try dsimp only)
                      refine hK _ _ ?_
                      clear hK K
                      try simp only [Act.put, List.setIfInBounds_toArray, List.set_cons_zero, List.set_cons_succ]
                      refine wpAny_take (i := 19) (oi := ?oid120) (v := ?vd120) ?hod120 (by kernel_rfl) ?hfd120 ?hrd120 ?hQd120 ?hyd120 ?restd120
                      case hod120 => (simp only [List.getElem?_toArray, List.getElem?_cons_succ, List.getElem?_cons_zero]; exact rfl)
                      case hfd120 => kernel_rfl
                      case hrd120 => kernel_rfl
                      case hQd120 => exact fun _ _ _ h => h
                      case hyd120 =>
                        refine Or.inl ⟨by rfl, ?_⟩
                        intro w
                        go_simp
                        (try with_reducible rfl)
                      try simp only [Act.put, List.setIfInBounds_toArray, List.set_cons_zero, List.set_cons_succ]
                      refine wpAny_take (i := 20) (oi := ?oid121) (v := ?vd121) ?hod121 (by kernel_rfl) ?hfd121 ?hrd121 ?hQd121 ?hyd121 ?restd121
                      case hod121 => (simp only [List.getElem?_toArray, List.getElem?_cons_succ, List.getElem?_cons_zero]; exact rfl)
                      case hfd121 => kernel_rfl
                      case hrd121 => kernel_rfl
                      case hQd121 => exact fun _ _ _ h => h
                      case hyd121 =>
                        refine Or.inl ⟨by rfl, ?_⟩
                        intro w
                        go_simp
                        (try with_reducible rfl)
                      try simp only [Act.put, List.setIfInBounds_toArray, List.set_cons_zero, List.set_cons_succ]
                      exact wpAny_done (by kernel_rfl) (hEnd _ hf0) _
                    exact AllReady.nil
                  exact AllReady.nil
                refine AllReady.cons (o := ?od122) ?hod122 (fun K hK => ?kd122) ?md122
                case hod122 => (simp only [List.getElem?_toArray, List.getElem?_cons_succ, List.getElem?_cons_zero]; exact rfl)
                case kd122 =>
                  refine anyd_loadStr (by rfl) (.tmp 99) rfl b (o + i) _ (by rfl) HC2.out ?_
                  refine hK _ _ ?_
                  clear hK K
                  try simp only [Act.put, List.setIfInBounds_toArray, List.set_cons_zero, List.set_cons_succ]
                  refine wpAny_ready (rs := [13]) (by kernel_rfl) (by simp) ?_
                  refine AllReady.cons (o := ?od123) ?hod123 (fun K hK => ?kd123) ?md123
                  case hod123 => (simp only [List.getElem?_toArray, List.getElem?_cons_succ, List.getElem?_cons_zero]; exact rfl)
                  case kd123 =>
                    go_simp
                    refine HM.out.mono ?_
                    rintro e V ⟨rfl, rfl⟩
                    (try dsimp only)
                    refine hK _ _ ?_
                    clear hK K
                    try simp only [Act.put, List.setIfInBounds_toArray, List.set_cons_zero, List.set_cons_succ]
                    refine wpAny_ready (rs := [18]) (by kernel_rfl) (by simp) ?_
                    refine AllReady.cons (o := ?od124) ?hod124 (fun K hK => ?kd124) ?md124
                    case hod124 => (simp only [List.getElem?_toArray, List.getElem?_cons_succ, List.getElem?_cons_zero]; exact rfl)
                    case kd124 =>
                      go_simp
                      refine HRM.out.mono ?_
                      rintro e V ⟨rfl, rfl⟩
                      (try dsimp only)
                      refine hK _ _ ?_
                      clear hK K
                      try simp only [Act.put, List.setIfInBounds_toArray, List.set_cons_zero, List.set_cons_succ]
                      refine wpAny_take (i := 19) (oi := ?oid125) (v := ?vd125) ?hod125 (by kernel_rfl) ?hfd125 ?hrd125 ?hQd125 ?hyd125 ?restd125
                      case hod125 => (simp only [List.getElem?_toArray, List.getElem?_cons_succ, List.getElem?_cons_zero]; exact rfl)
                      case hfd125 => kernel_rfl
                      case hrd125 => kernel_rfl
                      case hQd125 => exact fun _ _ _ h => h
                      case hyd125 =>
                        refine Or.inl ⟨by rfl, ?_⟩
                        intro w
                        go_simp
                        (try with_reducible rfl)
                      try simp only [Act.put, List.setIfInBounds_toArray, List.set_cons_zero, List.set_cons_succ]
                      refine wpAny_take (i := 20) (oi := ?oid126) (v := ?vd126) ?hod126 (by kernel_rfl) ?hfd126 ?hrd126 ?hQd126 ?hyd126 ?restd126
                      case hod126 => (simp only [List.getElem?_toArray, List.getElem?_cons_succ, List.getElem?_cons_zero]; exact rfl)
                      case hfd126 => kernel_rfl
                      case hrd126 => kernel_rfl
                      case hQd126 => exact fun _ _ _ h => h
                      case hyd126 =>
                        refine Or.inl ⟨by rfl, ?_⟩
                        intro w
                        go_simp
                        (try with_reducible rfl)
                      try simp only [Act.put, List.setIfInBounds_toArray, List.set_cons_zero, List.set_cons_succ]
                      exact wpAny_done (by kernel_rfl) (hEnd _ hf0) _
                    exact AllReady.nil
                  exact AllReady.nil
                exact AllReady.nil
              refine AllReady.cons (o := ?od127) ?hod127 (fun K hK => ?kd127) ?md127
              case hod127 => (simp only [List.getElem?_toArray, List.getElem?_cons_succ, List.getElem?_cons_zero]; exact rfl)
              case kd127 =>
                refine anyd_loadStr (by rfl) (.tmp 99) rfl b (o + i) _ (by rfl) HC2.out ?_
                refine hK _ _ ?_
                clear hK K
                try simp only [Act.put, List.setIfInBounds_toArray, List.set_cons_zero, List.set_cons_succ]
                refine wpAny_ready (rs := [12]) (by kernel_rfl) (by simp) ?_
                refine AllReady.cons (o := ?od128) ?hod128 (fun K hK => ?kd128) ?md128
                case hod128 => (simp only [List.getElem?_toArray, List.getElem?_cons_succ, List.getElem?_cons_zero]; exact rfl)
                case kd128 =>
                  refine anyd_loadStr (by rfl) (.tmp 94) rfl b (o + i) _ (by rfl) HC2.out ?_
                  refine hK _ _ ?_
                  clear hK K
                  try simp only [Act.put, List.setIfInBounds_toArray, List.set_cons_zero, List.set_cons_succ]
                  refine wpAny_ready (rs := [13]) (by kernel_rfl) (by simp) ?_
                  refine AllReady.cons (o := ?od129) ?hod129 (fun K hK => ?kd129) ?md129
                  case hod129 => (simp only [List.getElem?_toArray, List.getElem?_cons_succ, List.getElem?_cons_zero]; exact rfl)
                  case kd129 =>
                    go_simp
                    refine HM.out.mono ?_
                    rintro e V ⟨rfl, rfl⟩
                    (try dsimp only)
                    refine hK _ _ ?_
                    clear hK K
                    try simp only [Act.put, List.setIfInBounds_toArray, List.set_cons_zero, List.set_cons_succ]
                    refine wpAny_ready (rs := [18]) (by kernel_rfl) (by simp) ?_
                    refine AllReady.cons (o := ?od130) ?hod130 (fun K hK => ?kd130) ?md130
                    case hod130 => (simp only [List.getElem?_toArray, List.getElem?_cons_succ, List.getElem?_cons_zero]; exact rfl)
                    case kd130 =>
                      go_simp
                      refine HRM.out.mono ?_
                      rintro e V ⟨rfl, rfl⟩
                      (try dsimp only)
                      refine hK _ _ ?_
                      clear hK K
                      try simp only [Act.put, List.setIfInBounds_toArray, List.set_cons_zero, List.set_cons_succ]
                      refine wpAny_take (i := 19) (oi := ?oid131) (v := ?vd131) ?hod131 (by kernel_rfl) ?hfd131 ?hrd131 ?hQd131 ?hyd131 ?restd131
                      case hod131 => (simp only [List.getElem?_toArray, List.getElem?_cons_succ, List.getElem?_cons_zero]; exact rfl)
                      case hfd131 => kernel_rfl
                      case hrd131 => kernel_rfl
                      case hQd131 => exact fun _ _ _ h => h
                      case hyd131 =>
                        refine Or.inl ⟨by rfl, ?_⟩
                        intro w
                        go_simp
                        (try with_reducible rfl)
                      try simp only [Act.put, List.setIfInBounds_toArray, List.set_cons_zero, List.set_cons_succ]
                      refine wpAny_take (i := 20) (oi := ?oid132) (v := ?vd132) ?hod132 (by kernel_rfl) ?hfd132 ?hrd132 ?hQd132 ?hyd132 ?restd132
                      case hod132 => (simp only [List.getElem?_toArray, List.getElem?_cons_succ, List.getElem?_cons_zero]; exact rfl)
                      case hfd132 => kernel_rfl
                      case hrd132 => kernel_rfl
                      case hQd132 => exact fun _ _ _ h => h
                      case hyd132 =>
                        refine Or.inl ⟨by rfl, ?_⟩
                        intro w
                        go_simp
                        (try with_reducible rfl)
                      try simp only [Act.put, List.setIfInBounds_toArray, List.set_cons_zero, List.set_cons_succ]
                      exact wpAny_done (by kernel_rfl) (hEnd _ hf0) _
                    exact AllReady.nil
                  exact AllReady.nil
                exact AllReady.nil
              exact AllReady.nil
            case cd100 =>
              rintro V rfl
              repeat (first | go_skip | go_guarded | go_step)
              go_roundw
              case rel => exact ⟨i + 1, F1, X2, _, by omega, by go_num, HGD.out, HT3.out, HR3.out, HD2.out, HF1w.out, HX2w.out, HB3.out⟩
              case measure => simp [intOf]; omega
        · obtain rfl : i = n1 := by omega
          rename World => U
          have hal := hgd.len
          repeat (first | go_skip | go_guarded | go_step)
          refine (tList g F acc U htb (by omega)).mono ?_
          rintro e V1 ⟨Ali, cli, rfl, hoi, hb1⟩
          have hbk1 : ∃ cur : Nat → Prop, True := ⟨fun _ => True, trivial⟩
          have hown : ∃ q cur, acc.length ≤ cur.length ∧ (0 < acc.length → Ali = some ⟨q, 0, none⟩ ∧ U.heap.size ≤ q ∧ Bk V1 q 9 cur) := by
            rcases hoi.2 with ⟨hv, h0⟩ | ⟨q, cap, cur, hv, hq, hh, hnc, hcm, hsz, htk⟩
            · exact ⟨0, List.replicate acc.length (.int .i64 0), by simp, fun h => by
                simp only [Value.slice.injEq] at hv
                omega⟩
            · have hA : Ali = some ⟨q, 0, none⟩ := by injection hv
              have hct : cur.toList.length = cap := by rw [Array.length_toList, hsz]; omega
              exact ⟨q, cur.toList, by omega, fun _ => ⟨hA, hq, hh⟩⟩
          obtain ⟨q, cur, hcl, hq⟩ := hown
          clear hbk1 hoi
          have HTB := Lib.hid htb
          have HRT := Lib.hid hrt
          have HGD := Lib.hid hgd
          have HBW := Lib.hid hbw
          clear htb hrt hgd hdis hFw hXw hbw
          dsimp only
          repeat (first | go_skip | go_guarded | go_step)
          go_loopw [17] (fun p wr => ∃ (k : Nat) (cur : List Value), k ≤ acc.length ∧ p = .int .i64 (k : Int) ∧ acc.length ≤ cur.length ∧ (0 < acc.length → Ali = some ⟨q, 0, none⟩ ∧ U.heap.size ≤ q ∧ Bk wr q 9 cur) ∧ Below U.heap.size U wr)
            (fun p _ => acc.length - (intOf p).toNat)
          case atStart => exact ⟨0, cur, by omega, rfl, hcl, hq, hb1⟩
          case round =>
            clear hcl hq hb1
            obtain ⟨k, cur, hk, rfl, hcl, hq, hb⟩ := hrel
            by_cases hlk : k < acc.length
            · have hck : (k : Int) < (acc.length : Int) := by omega
              obtain ⟨rfl, hqU, hbk⟩ := hq (by omega)
              have cu := hbk.cell k
              rw [List.getElem?_eq_getElem (by omega)] at cu
              have fu := hbk.frozen k
              have H2 := Lib.hid (hbk.set_ k (sv ⟨#[63]⟩))
              have H3 := Lib.hid (hb.setCell (p := ⟨q, k, none⟩) hqU (sv ⟨#[63]⟩))
              clear hbk hb hq
              repeat (first | go_skip | go_guarded | go_step)
              go_roundw
              case rel => exact ⟨k + 1, _, by omega, by go_num, by simpa using hcl, fun _ => ⟨by first | rfl | trivial, hqU, H2.out⟩, H3.out⟩
              case measure => simp [intOf]; omega
            · obtain rfl : k = acc.length := by omega
              rename World => V2
              have htb2 := HTB.out.later hb
              have hrt2 := HRT.out.turn (Turn.ofBelow (G := fun _ => False) hb) (fun _ _ h => h)
              have hbw2 := HBW.out.trans (hb.mono HBW.out.size)
              clear hq hb hlk hk
              repeat (first | go_skip | go_guarded | go_step)
              refine (alike_any g gr F X acc l2 A2 n2 c2 V2 htb2 hrt2 (HGD.out.mono (by omega)) ((H2.out.below hbw2).more hbw2.size) hn2 HS2.out).mono ?_
              rintro e V3 ⟨rfl, hb3⟩
              have hbw3 := hbw2.trans (hb3.mono hbw2.size)
              clear htb2 hrt2 hbw2 hb3
              dsimp only
              go_wp2_with (go_at_call 9; refine (works_any hmay _).mono ?_; rintro e w2 ⟨rfl, hb2⟩)
              go_ret
              exact ⟨rfl, hbw3.trans (hb2.mono hbw3.size)⟩

set_option maxRecDepth 100000 in
theorem lifted (os : Os) (started : os.Started) (H : Type) (enc : TypeId × Value → H) :
    ReturnsInHanded {} Try.checked os 3 .any (Rows.symsPlaysSpec.pre6 enc Try.prog Try.f3 Rows.symsPlaysRow.domain false) (Rows.symsPlaysSpec.post enc Try.prog Try.f3 false true false false) := by
  refine returnsInHanded_of_change_sized (C := Try.checked) ownK started (by kernel_rfl) Try.func3
    (ChangeSpec.witness6 (enc := enc) (C := Try.checked) false ⟨#[], #[.slice none 0 0, .slice none 0 0, .slice none 0 0], []⟩ 8 (by kernel_rfl) (by kernel_rfl) (by kernel_rfl) (by kernel_rfl)) ?_
  intro W base args ds gs before hval0 hW hcnd hsz0 _
  have hsz : (DataW.weightsEach Try.prog (Try.f3.params.toList ++ Rows.symsPlaysSpec.plain.varTypes Try.prog) (ds ++ gs)).all (· ≤ reachBytes) = true := hsz0
  have hval : ∀ (j : Nat) t v, Try.f3.params[j]? = some t → args[j]? = some v → Value.okWide Try.prog W .any base t v := hval0
  have hlt : ∀ x ∈ before, x.block < W.heap.size := fun x hx => by simpa using hW.lt x hx
  have hW' := hW
  obtain ⟨p, q, hA0, hV, rfl, hfz, hnd⟩ := hW
  have hA : DataW.TrodAll enc Try.prog W 0 (fun _ => true) true Try.f3.params.toList args.toList ds p := hA0
  rw [Try.params3] at hA hval hsz
  obtain ⟨v0, vs0, d0, ds0, p0, q0, hargs, rfl, rfl, h0, r0⟩ := trodAll_cons hA
  obtain ⟨v1, vs1, d1, ds1, p1, q1, rfl, rfl, rfl, h1, r1⟩ := trodAll_cons r0
  obtain ⟨v2, vs2, d2, ds2, p2, q2, rfl, rfl, rfl, h2, r2⟩ := trodAll_cons r1
  obtain ⟨rfl, rfl, rfl⟩ := trodAll_nil r2
  obtain rfl : args = #[v0, v1, v2] := by cases args; simp_all
  obtain ⟨rfl, rfl⟩ := trodVars_none hV
  obtain ⟨A2, n2, c2, l2, rfl, hk2, hm2, hr2, hz2⟩ := open_names (hval 2 22 v2 rfl rfl) h2 (fun x hx => hlt x (by simp [hx]))
  obtain ⟨A1, n1, c1, l1, rfl, hk1, hm1, hr1, hz1⟩ := open_names (hval 1 22 v1 rfl rfl) h1 (fun x hx => hlt x (by simp [hx]))
  obtain ⟨A0, n0, c0, l0, rfl, hk0, hm0, hr0, hz0⟩ := open_names (hval 0 22 v0 rfl rfl) h0 (fun x hx => hlt x (by simp [hx]))
  have main : Calls Try.prog 3 #[.slice A0 n0 c0, .slice A1 n1 c1, .slice A2 n2 c2] W fun e w' => e = .returned (.bool true) ∧ Below W.heap.size W w' := by
    by_cases hb : (decide (n0 ≤ 300) && fewB l0) = true ∧ (decide (n1 ≤ 300) && fewB l1) = true ∧ (decide (n2 ≤ 300) && fewB l2) = true
    · exact walk may_ok A0 A1 A2 n0 c0 n1 c1 n2 c2 l0 l1 l2 W hr0 hr1 hr2 hb.1 hb.2.1 hb.2.2
    · exact walkBig may_ok A0 A1 A2 n0 c0 n1 c1 n2 c2 l0 l1 l2 W hr0 hr1 hr2 hb
  refine main.mono fun e W' ⟨he, hg⟩ => ?_
  subst he
  exact ⟨_, rfl, post_law laidOut rfl (by kernel_rfl) hW' hg rfl Try.underlying4 rfl rfl rfl⟩

theorem proved : Rows.SymsPlaysSaid :=
  OpenClaim.holds_of_wide 3 Try.f3 rfl rfl rfl rfl rfl rfl rfl ⟨rfl, rfl, rfl, rfl, rfl⟩ rfl rfl rfl rfl rfl (by kernel_rfl) Try.func3 (by kernel_rfl)
    (of_decide_eq_true (by kernel_rfl)) (by unfold Func.isWrapper; first | (rw [if_pos (by decide +kernel)]; kernel_rfl) | (rw [if_neg (by decide +kernel)]; exact ⟨rfl, rfl⟩))
    (fun os started H enc _ => lifted os started H enc)
#print axioms proved
end Go.Proofs.Ytaejidchoaejkaa.symsPlays
