/- Layer 18 (ring), the document's ring: Put. -/
import Derived.Test.YtedgigoelhcfnaaRnA
import Derived.StillTailTactics
import Derived.Deep.Cut
import Derived.RegionTactic
set_option linter.unusedVariables false
set_option linter.unusedSimpArgs false
namespace Go.Proofs.Ytedgigoelhcfnaa
open Go Go.RowKit

theorem shE_at {X : List RgE} {t : Nat} {g : RgE} (ht : t ≤ X.length) {i : Nat} (hi : i < t) : (X.take t ++ g :: X.drop t)[i]? = X[i]? := by
  rw [List.getElem?_append_left (by rw [List.length_take]; omega), List.getElem?_take, if_pos hi]
theorem shE_len {X : List RgE} {t : Nat} {g : RgE} (ht : t ≤ X.length) : (X.take t ++ g :: X.drop t).length = X.length + 1 := by
  rw [List.length_append, List.length_take, List.length_cons, List.length_drop]; omega
theorem shE_set {X : List RgE} {t : Nat} {g y : RgE} (ht : t ≤ X.length) : (X.take t ++ g :: X.drop t).set t y = X.take t ++ y :: X.drop t := by
  rw [List.set_append_right _ _ (by rw [List.length_take]; omega), List.length_take, Nat.min_eq_left ht, Nat.sub_self, List.set_cons_zero]
theorem shE_step {X : List RgE} {t : Nat} {x : RgE} (hx : X[t]? = some x) : X.take (t + 1) ++ x :: X.drop (t + 1) = X.take t ++ x :: X.drop t := by
  obtain ⟨ht, e⟩ := List.getElem?_eq_some_iff.1 hx
  rw [List.take_add_one, hx, List.drop_eq_getElem_cons ht, e]
  simp
theorem litEn0 (w : World) : RdEn (w.alloc (.cells #[.int .u32 0, .string ByteArray.empty] 43)) (w.heap.size + 1) (some ⟨w.heap.size, 0, none⟩) 1 [((0 : UInt32), ([] : List UInt8))] :=
  ⟨rfl, fun _ => ⟨_, _, rfl, by omega, fun j u hu => by
    rw [Nat.zero_add, cell_of_row _ _ j #[.int .u32 0, .string ByteArray.empty] 43 (0, 0) (heap_alloc_new w _)]
    have e : #[(.int .u32 0 : Value), .string ByteArray.empty][j]? = (([((0 : UInt32), ([] : List UInt8))] : List RgE).flatMap enC)[j]? := by simp [enC, bsOf, nr]; rfl
    rw [e]
    exact hu⟩⟩
theorem turnDrewR {G : Nat → Prop} {a w : World} (h : Turn G a w) (n : Nat) : Turn G a (w.drewN n) := ⟨h.os, h.tape, h.output, h.size, h.block⟩
/-- What lies ahead rises, so it is all less. -/
theorem rise_below {K : List RgE} (h : (K.map (·.1)).Pairwise (· < ·)) {s : Nat} {x : RgE} {u : UInt32} (hx : K[s]? = some x) (hlt : x.1 < u) : ∀ e ∈ K.take (s + 1), e.1 < u := by
  intro e he
  obtain ⟨i, hi⟩ := List.mem_iff_getElem?.1 he
  rw [List.getElem?_take] at hi
  split at hi
  · rename_i his
    obtain ⟨a1, a2⟩ := List.getElem?_eq_some_iff.1 hi
    obtain ⟨b1, b2⟩ := List.getElem?_eq_some_iff.1 hx
    rcases Nat.lt_or_eq_of_le (Nat.le_of_lt_succ his) with k | k
    · have := List.pairwise_iff_getElem.1 h i s (by simpa using a1) (by simpa using b1) k
      rw [List.getElem_map, List.getElem_map, a2, b2] at this
      exact UInt32.lt_trans this hlt
    · subst k
      rw [a2] at b2
      rw [b2]
      exact hlt
  · cases hi
set_option maxRecDepth 100000 in
set_option maxHeartbeats 8000000 in
theorem rPut_any (base b : Nat) (A : Option Addr) (c : Nat) (K : List RgE) (u : UInt32) (Ak : Option Addr) (n ck : Nat) (k : List UInt8) (w : World) (h : Rf w base b A c K) (hg : RgGood K)
    (hr : Rd w base 1 Ak n (k.map bv)) (hn : n ≤ 1000000) (hbw : base ≤ w.heap.size) :
    Calls Try.prog 12 #[.pointer (some ⟨b, 0, none⟩), nr u, .slice Ak n ck] w fun e w' => ∃ (A' : Option Addr) (c' : Nat), e = .returned (.int .i64 ((rgPut K u k).1 : Int)) ∧ Rf w' base b A' c' (rgPut K u k).2 ∧ Turn (fun x => x = b ∨ A.map (·.block) = some x) w w' ∧ (∀ x, A'.map (·.block) = some x → A.map (·.block) = some x ∨ w.heap.size ≤ x) := by
  have hkl : k.length = n := by have := hr.len1; simpa using this
  have HKL := Lib.hid hkl
  have HRF := Lib.hid h
  have hsame : ∀ er : Nat, ∃ (A' : Option Addr) (c' : Nat), Ending.returned (.int .i64 (er : Int)) = .returned (.int .i64 (er : Int)) ∧ Rf w base b A' c' K ∧ Turn (fun x => x = b ∨ A.map (·.block) = some x) w w ∧ (∀ x, A'.map (·.block) = some x → A.map (·.block) = some x ∨ w.heap.size ≤ x) :=
    fun er => ⟨A, c, rfl, h, Turn.refl _ _, fun x hx => .inl hx⟩
  have HSAME := Lib.hid hsame
  have hpl := rPlace_any base b A c K u w h (Nat.le_trans hg.len (by omega))
  have k0 := h.box.cell 0
  simp only [List.getElem?_cons_zero] at k0
  have f0 := h.box.frozen 0
  obtain ⟨m, hm⟩ : ∃ m, m = K.length := ⟨_, rfl⟩
  rw [← hm] at k0
  have hm32 : m ≤ 32 := by rw [hm]; exact hg.len
  have HM := Lib.hid hm
  have HG := Lib.hid hg
  have HR := Lib.hid hr
  clear h hg hr hkl hsame hm
  by_cases h1 : n < 1
  · have h1i : (n : Int) < 1 := by omega
    have HP := Lib.hid (show rgPut K u k = (1, K) by unfold rgPut; rw [if_pos (by have := HKL.out; omega)])
    clear hpl
    go_enter Try.func12, Try.ntmps12
    repeat (first | go_skip | go_guarded | go_step)
    go_ret
    rw [HP.out]
    exact HSAME.out 1
  have h1i : ¬ (n : Int) < 1 := by omega
  by_cases h2 : 64 < n
  · have h2i : (64 : Int) < (n : Int) := by omega
    have h2d : decide (64 < n) = true := decide_eq_true h2
    have HP := Lib.hid (show rgPut K u k = (1, K) by unfold rgPut; rw [if_pos (by have := HKL.out; omega)])
    clear hpl
    go_enter Try.func12, Try.ntmps12
    repeat (first | go_skip | go_guarded | go_step)
    go_ret
    rw [HP.out]
    exact HSAME.out 1
  have h2i : ¬ (64 : Int) < (n : Int) := by omega
  have h2d : decide (64 < n) = false := decide_eq_false h2
  rcases rgIx_cases K u with ⟨hix, hat⟩ | ⟨j, x, _, _, hix, hat⟩
  · rw [hix] at hpl
    by_cases h3 : 32 ≤ m
    · have h3i : (32 : Int) ≤ (m : Int) := by omega
      have HP := Lib.hid (show rgPut K u k = (7, K) by unfold rgPut; rw [if_neg (by have := HKL.out; omega), hat, if_neg (by simp), if_pos (by rw [← HM.out]; exact h3)])
      clear hix hat
      go_enter Try.func12, Try.ntmps12
      repeat (first | go_skip | go_guarded | go_step)
      refine hpl.mono ?_
      rintro e w2 ⟨rfl, hw⟩
      rw [hw]
      clear hw hpl
      dsimp only
      repeat (first | go_skip | go_guarded | go_step)
      go_ret
      rw [HP.out]
      exact HSAME.out 7
    · have h3i : ¬ (32 : Int) ≤ (m : Int) := by omega
      have HP := Lib.hid (show rgPut K u k = (0, rgIns K u k) by unfold rgPut; rw [if_neg (by have := HKL.out; omega), hat, if_neg (by simp), if_neg (by rw [← HM.out]; exact h3)])
      have HNO := Lib.hid (rgAt_none.1 hat)
      clear hix hat HSAME
      have hZ : Below w.heap.size w (w.alloc (.cells #[.int .u32 0, .string ByteArray.empty] 43)) := (Below.refl _ _).alloc (Nat.le_refl _) _
      have HOZ := Lib.hid (show OwEn (w.alloc (.cells #[.int .u32 0, .string ByteArray.empty] 43)) base A c m K by have := HRF.out.own.later hZ; rwa [← HM.out] at this)
      have HBZ := Lib.hid (HRF.out.box.later hZ)
      have HZ := Lib.hid hZ
      have HLIT := Lib.hid (litEn0 w)
      clear hZ
      go_enter Try.func12, Try.ntmps12
      repeat (first | go_skip | go_guarded | go_step)
      refine hpl.mono ?_
      rintro e w2 ⟨rfl, hw⟩
      rw [hw]
      clear hw hpl
      dsimp only
      repeat (first
        | (at_builtin
           refine appEn _ rfl (.tmp 35) (.tmp 37) rfl base A c m K rfl HOZ.out _ _ 1 1 [((0 : UInt32), ([] : List UInt8))] rfl HLIT.out (by omega) (Nat.le_trans hbw HZ.out.size) ?_
           intro A6 c6 w6 ho6 ht6 hg6
           have hbk6 := ht6.bk HBZ.out HRF.out.ne
           have f6 := hbk6.frozen 0
           have k6 := hbk6.cell 0
           simp only [List.getElem?_cons_zero] at k6
           have HO6 := Lib.hid ho6
           have HT6 := Lib.hid ht6
           have HG6 := Lib.hid hg6
           have HK6 := Lib.hid hbk6
           clear ho6 ht6 hg6 hbk6)
        | go_skip | go_guarded | go_step)
      have hb6 : b < w.heap.size := HRF.out.box.lt
      obtain ⟨V, hV, hkV, hoV, htV⟩ : ∃ V, V = w6.setCell ⟨b, 0, none⟩ (.slice A6 (m + 1) c6) ∧ Bk V b 30 [.slice A6 (m + 1) c6] ∧ OwEn V base A6 c6 (m + 1) (K ++ [(0, [])]) ∧ Turn (fun x => x = b ∨ A.map (·.block) = some x) w V :=
        ⟨_, rfl, HK6.out.set_ 0 _, ((Turn.refl (fun k => k = b) w6).setCell (p := ⟨b, 0, none⟩) (fun _ => rfl) _).own HO6.out (fun x hx e => by
          rw [ownBlkR] at hx
          have e' : x = b := e
          rcases HG6.out with q | q
          · exact HRF.out.ne (by rw [← q, hx, e'])
          · have e2 : (w.alloc (.cells #[.int .u32 0, .string ByteArray.empty] 43)).heap.size = x := Option.some.inj (q.symm.trans hx)
            have := HZ.out.size
            omega), ((Turn.ofBelow HZ.out).trans (HT6.out.mono fun k _ hk => .inr hk)).setCell (p := ⟨b, 0, none⟩) (fun _ => .inl rfl) _⟩
      rw [← hV]
      have HKV := Lib.hid hkV
      have HOV := Lib.hid hoV
      have HTV := Lib.hid htV
      have HA6 := Lib.hid (show ∀ x, A6.map (·.block) = some x → A.map (·.block) = some x ∨ w.heap.size ≤ x from fun x hx => by
        rcases HG6.out with q | q
        · exact .inl (by rw [← q]; exact hx)
        · have e2 : (w.alloc (.cells #[.int .u32 0, .string ByteArray.empty] 43)).heap.size = x := Option.some.inj (q.symm.trans hx)
          have := HZ.out.size
          exact .inr (by omega))
      have HN6 := Lib.hid (show ¬ A6.map (·.block) = some b from fun e => by
        rcases HA6.out b e with q | q
        · exact HRF.out.ne q
        · omega)
      clear hV hkV hoV htV k6 f6 k0 f0
      go_loopw [7] (fun q wr => ∃ (t : Nat) (g : RgE), t ≤ m ∧ q = .int .i64 (t : Int) ∧ OwEn wr base A6 c6 (m + 1) (K.take t ++ g :: K.drop t) ∧ (∀ x ∈ K.drop t, u < x.1) ∧ Bk wr b 30 [.slice A6 (m + 1) c6] ∧ Turn (fun x => x = b ∨ A.map (·.block) = some x) w wr) (fun q _ => (intOf q).toNat)
      case atStart => exact ⟨m, (0, []), by omega, rfl, by
        rw [List.take_of_length_le (by rw [← HM.out]; exact Nat.le_refl _), List.drop_of_length_le (by rw [← HM.out]; exact Nat.le_refl _)]
        exact HOV.out, by
        rw [List.drop_of_length_le (by rw [← HM.out]; exact Nat.le_refl _)]
        simp, HKV.out, HTV.out⟩
      case round =>
        rename World => wr
        obtain ⟨t, g, ht, rfl, how, hgt, hkr, htr⟩ := hrel
        have HOW := Lib.hid how
        have HGT := Lib.hid hgt
        have HKR := Lib.hid hkr
        have HTR := Lib.hid htr
        have k0 := hkr.cell 0
        simp only [List.getElem?_cons_zero] at k0
        obtain ⟨bt, ot, xt, hAt, hbt, hxt, ht0, ht1⟩ := rdEn_at how.rd (i := t) (by omega)
        obtain ⟨gb, hgA, hgb, hgl, hsf0, hsf1, hset, hT⟩ := how.set2 (i := t) (by omega) (u, k)
        rw [hgA] at hAt
        simp only [Option.some.injEq, Addr.mk.injEq, and_true] at hAt
        obtain ⟨rfl, rfl⟩ := hAt
        rw [Nat.zero_add] at ht0 ht1
        have htm1 : (t : Int) < (m : Int) + 1 := by omega
        have ht00 : (0 : Int) ≤ (t : Int) := by omega
        have HCONV := Lib.hid (show ∀ q, (convert 32 9 (.slice Ak n ck)).run Try.prog (wr.drewN q) = .ok (.string (bsOf k)) (wr.drewN q) from fun q =>
          run_conv_str (P := Try.prog) (wr.drewN q) 32 9 5 Try.underlying32 Try.underlying5 Try.underlying9 base Ak n ck k (HR.out.below ((turnDrewR HTR.out q).below (B := base) (fun x _ e => by
            rcases e with e | e
            · rw [e]; exact HRF.out.hb
            · exact (HRF.out.own.low e).1) hbw)))
        have HFIN := Lib.hid (show (∀ e ∈ K.take t, e.1 < u) → ∃ (A' : Option Addr) (c' : Nat), Ending.returned (.int .i64 ((0 : Nat) : Int)) = .returned (.int .i64 ((0 : Nat) : Int)) ∧ Rf (((wr.setCell ⟨gb, t * 2, none⟩ (nr u)).setCell ⟨gb, t * 2 + 1, none⟩ (.string (bsOf k))).drew) base b A' c' (rgIns K u k) ∧ Turn (fun x => x = b ∨ A.map (·.block) = some x) w (((wr.setCell ⟨gb, t * 2, none⟩ (nr u)).setCell ⟨gb, t * 2 + 1, none⟩ (.string (bsOf k))).drew) ∧ (∀ x, A'.map (·.block) = some x → A.map (·.block) = some x ∨ w.heap.size ≤ x) from fun hle => by
          have hgbb : ¬ gb = b := fun e => HN6.out (by rw [hgA, ← e]; rfl)
          have hrow := hset
          dsimp only at hrow
          rw [shE_set (by rw [← HM.out]; exact ht), ← rgIns_split hle hgt] at hrow
          have hlen : (rgIns K u k).length = m + 1 := by rw [rgIns_len, ← HM.out]
          refine ⟨A6, c6, rfl, ⟨?_, ?_, HRF.out.hb, HN6.out⟩, (htr.then_ hT fun x hx e => .inr ?_).drew, HA6.out⟩
          · rw [hlen]
            exact (hT.bk hkr (fun e => hgbb e.symm)).drew
          · rw [hlen]
            exact hrow.later (belowDrews (Below.refl _ _) 1)
          · rw [e]
            rcases HA6.out gb (by rw [hgA]; rfl) with q | q
            · exact q
            · have e2 : x = gb := e
              omega)
        clear how hgt hkr htr hbt hxt hset hT
        by_cases ht0' : t = 0
        · have hneg : ¬ (0 : Int) < (t : Int) := by omega
          have hneg2 : decide (0 < t) = false := by rw [decide_eq_false_iff_not]; omega
          have c1 : (convert 32 9 (.slice Ak n ck)).run Try.prog wr.drew = .ok (.string (bsOf k)) wr.drew := HCONV.out 1
          have HLE := Lib.hid (show ∀ e ∈ K.take t, e.1 < u by rw [ht0']; simp)
          clear ht0'
          go_upto_region 12 with (fail)
          go_region
          repeat (first | go_skip | go_guarded | go_step)
          go_ret
          rw [HP.out]
          exact HFIN.out HLE.out
        · obtain ⟨s, hs⟩ : ∃ s, s + 1 = t := ⟨t - 1, by omega⟩
          have hpos : (0 : Int) < (t : Int) := by omega
          have hpos2 : decide (0 < t) = true := by rw [decide_eq_true_iff]; omega
          have hw1 : IntKind.i64.wrap ((t : Int) - 1) = (s : Int) := by rw [IntKind.wrap_i64]; omega
          have hw2 : (t : Int) - 1 = (s : Int) := by omega
          have hsm1 : (s : Int) < (m : Int) + 1 := by omega
          have hs0' : (0 : Int) ≤ (s : Int) := by omega
          obtain ⟨x, hx⟩ : ∃ x, K[s]? = some x := ⟨_, List.getElem?_eq_getElem (by rw [← HM.out]; omega)⟩
          obtain ⟨b6, o6, x', hA6', hb6', hx', s0, s1⟩ := rdEn_at HOW.out.rd (i := s) (by omega)
          have hxx : x' = x := by
            rw [shE_at (by rw [← HM.out]; omega) (by omega), hx] at hx'
            exact (Option.some.inj hx').symm
          subst hxx
          rw [hgA] at hA6'
          simp only [Option.some.injEq, Addr.mk.injEq, and_true] at hA6'
          obtain ⟨rfl, rfl⟩ := hA6'
          rw [Nat.zero_add] at s0 s1
          obtain ⟨px, kx⟩ := x'
          dsimp only at s0 s1
          have HXS := Lib.hid hx
          have HSS := Lib.hid hs
          by_cases hgtp : u.toNat < px.toNat
          · have hg1 : (u.toNat : Int) < (px.toNat : Int) := by omega
            have hg2 : decide (u.toNat < px.toNat) = true := decide_eq_true hgtp
            obtain ⟨gb2, hgA2, hgb2, hgl2, hsf2, hsf3, hset2, hT2⟩ := HOW.out.set2 (i := t) (by omega) (px, kx)
            rw [hgA] at hgA2
            simp only [Option.some.injEq, Addr.mk.injEq, and_true, true_and] at hgA2
            subst hgA2
            dsimp only at hset2 hT2
            have HS2 := Lib.hid (show OwEn (((wr.setCell ⟨gb, t * 2, none⟩ (nr px)).setCell ⟨gb, t * 2 + 1, none⟩ (.string (bsOf kx))).drew) base A6 c6 (m + 1) (K.take s ++ (px, kx) :: K.drop s) by
              have h := hset2
              rw [shE_set (by rw [← HM.out]; exact ht)] at h
              have e : K.take t ++ (px, kx) :: K.drop t = K.take s ++ (px, kx) :: K.drop s := by rw [← hs]; exact shE_step hx
              rw [e] at h
              exact h.later (belowDrews (Below.refl _ _) 1))
            have HK2 := Lib.hid (show Bk (((wr.setCell ⟨gb, t * 2, none⟩ (nr px)).setCell ⟨gb, t * 2 + 1, none⟩ (.string (bsOf kx))).drew) b 30 [.slice A6 (m + 1) c6] from (hT2.bk HKR.out (fun e => HN6.out (by rw [hgA, ← e]; rfl))).drew)
            have HT2 := Lib.hid (show Turn (fun x => x = b ∨ A.map (·.block) = some x) w (((wr.setCell ⟨gb, t * 2, none⟩ (nr px)).setCell ⟨gb, t * 2 + 1, none⟩ (.string (bsOf kx))).drew) from (HTR.out.then_ hT2 fun x hx e => .inr (by
              have e2 : x = gb := e
              rw [e2]
              rcases HA6.out gb (by rw [hgA]; rfl) with q | q
              · exact q
              · omega)).drew)
            have HGT2 := Lib.hid (show ∀ y ∈ K.drop s, u < y.1 by
              obtain ⟨q1, q2⟩ := List.getElem?_eq_some_iff.1 hx
              intro y hy
              rw [List.drop_eq_getElem_cons q1, q2] at hy
              rcases List.mem_cons.1 hy with rfl | hy
              · exact UInt32.lt_iff_toNat_lt.2 hgtp
              · exact HGT.out y (by rw [← hs]; exact hy))
            clear hx hx' hs hset2 hT2 hb6' hgtp
            go_upto_region 10 with (fail)
            go_region
            repeat (first | go_skip | go_guarded | go_step)
            go_roundw
            case rel => exact ⟨s, (px, kx), by omega, by go_num, HS2.out, HGT2.out, HK2.out, HT2.out⟩
            case measure =>
              have := HSS.out
              simp [intOf]
              omega
          · have hg1 : ¬ (u.toNat : Int) < (px.toNat : Int) := by omega
            have hg2 : decide (u.toNat < px.toNat) = false := decide_eq_false hgtp
            have c1 : (convert 32 9 (.slice Ak n ck)).run Try.prog wr.drew = .ok (.string (bsOf k)) wr.drew := HCONV.out 1
            have HLE := Lib.hid (show ∀ e ∈ K.take t, e.1 < u by
              rw [← hs]
              refine rise_below HG.out.rise hx (UInt32.lt_iff_toNat_lt.2 ?_)
              have hne : px ≠ u := fun e => HNO.out (by rw [← e]; exact List.mem_map.2 ⟨_, List.mem_of_getElem? hx, rfl⟩)
              have : px.toNat ≠ u.toNat := fun e => hne (UInt32.toNat_inj.1 e)
              show px.toNat < u.toNat
              omega)
            clear hx hx' hs hb6' hgtp
            go_upto_region 12 with (fail)
            go_region
            repeat (first | go_skip | go_guarded | go_step)
            go_ret
            rw [HP.out]
            exact HFIN.out HLE.out
  · rw [hix] at hpl
    have HP := Lib.hid (show rgPut K u k = (13, K) by unfold rgPut; rw [if_neg (by have := HKL.out; omega), hat]; rfl)
    clear hix hat
    have hj0 : (0 : Int) ≤ (j : Int) := by omega
    go_enter Try.func12, Try.ntmps12
    repeat (first | go_skip | go_guarded | go_step)
    refine hpl.mono ?_
    rintro e w2 ⟨rfl, hw⟩
    rw [hw]
    clear hw hpl
    dsimp only
    repeat (first | go_skip | go_guarded | go_step)
    go_ret
    rw [HP.out]
    exact HSAME.out 13
end Go.Proofs.Ytedgigoelhcfnaa
