/- Layer 18 (ring), the document's ring: Drop. -/
import Derived.Test.YtedgigoelhcfnaaRnB
set_option linter.unusedVariables false
set_option linter.unusedSimpArgs false
namespace Go.Proofs.Ytedgigoelhcfnaa
open Go Go.RowKit

theorem appEn0 {ops : Array Oper} {rest : List Oper} {o : Oper} {a : Act} {Q : Exit → Act → World → Prop} (w : World) (hgd : o.guard = none) (p x : Operand)
    (ho : o.op = .call { callee := .builtin .append, args := #[p, x], argTypes := #[28, 28] })
    (base : Nat) (hv : a.eval p = .slice none 0 0)
    (B : Nat) (A : Option Addr) (m c : Nat) (Y : List RgE) (hx : a.eval x = .slice A m c) (hr : RdEn w B A m Y) (hb : m ≤ 1000000000) (hbase : base ≤ w.heap.size)
    (h : ∀ A' c' w', OwEn w' base A' c' m Y → Below w.heap.size w w' → (∀ x, A'.map (·.block) = some x → w.heap.size ≤ x) → wpList Try.prog ops Q rest (a.put o.dst (.slice A' m c')) w') : wpList Try.prog ops Q (o :: rest) a w := by
  refine appEn w hgd p x ho base none 0 0 [] hv (World.ownsRow_nil _ _ _ _) B A m c Y hx hr (by omega) hbase ?_
  intro A' c' w' h1 h2 h3
  rw [Nat.zero_add, List.nil_append] at h1
  rw [Nat.zero_add]
  refine h A' c' w' h1 (h2.below (fun k _ e => by cases e) (Nat.le_refl _)) (fun x hx => ?_)
  rcases h3 with q | q
  · rw [q] at hx; cases hx
  · exact Nat.le_of_eq (Option.some.inj (q.symm.trans hx))
theorem rdEn_take {w : World} {B n k : Nat} {A : Option Addr} {K : List RgE} (h : RdEn w B A n K) (hk : k ≤ n) : RdEn w B A k (K.take k) := by
  have hl := rdEn_len h
  refine ⟨by rw [enC_len, List.length_take]; omega, fun hp => ?_⟩
  obtain ⟨b, o, e, hb, hc⟩ := h.2 (by omega)
  refine ⟨b, o, e, hb, fun j u hu => hc j u ?_⟩
  have hpre : K.flatMap enC = (K.take k).flatMap enC ++ (K.drop k).flatMap enC := by rw [← List.flatMap_append, List.take_append_drop]
  rw [hpre, List.getElem?_append_left (List.getElem?_eq_some_iff.1 hu).1]
  exact hu
theorem rdEn_drop {w : World} {B n k g : Nat} {K : List RgE} (h : RdEn w B (some ⟨g, 0, none⟩) n K) (hk : k ≤ n) : RdEn w B (some ⟨g, k * 2, none⟩) (n - k) (K.drop k) := by
  have hl := rdEn_len h
  refine ⟨by rw [enC_len, List.length_drop]; omega, fun hp => ?_⟩
  obtain ⟨b, o, e, hb, hc⟩ := h.2 (by omega)
  cases e
  refine ⟨g, k * 2, rfl, hb, fun j u hu => ?_⟩
  have hpre : K.flatMap enC = (K.take k).flatMap enC ++ (K.drop k).flatMap enC := by rw [← List.flatMap_append, List.take_append_drop]
  have := hc (k * 2 + j) u (by
    rw [hpre, List.getElem?_append_right (by rw [enC_len, List.length_take]; omega), enC_len, List.length_take, Nat.min_eq_left (by omega), show k * 2 + j - k * 2 = j by omega]
    exact hu)
  rwa [Nat.zero_add] at this
theorem rdEn_none {w : World} {B : Nat} {A : Option Addr} : RdEn w B A 0 [] := ⟨rfl, fun h => absurd h (by omega)⟩
set_option maxRecDepth 100000 in
set_option maxHeartbeats 8000000 in
theorem rDrop_any (base b : Nat) (A : Option Addr) (c : Nat) (K : List RgE) (u : UInt32) (w : World) (h : Rf w base b A c K) (hg : RgGood K) (hbw : base ≤ w.heap.size) :
    Calls Try.prog 10 #[.pointer (some ⟨b, 0, none⟩), nr u] w fun e w' => ∃ (A' : Option Addr) (c' : Nat), e = .returned (.int .i64 ((rgDrop K u).1 : Int)) ∧ Rf w' base b A' c' (rgDrop K u).2 ∧ Turn (fun x => x = b ∨ A.map (·.block) = some x) w w' ∧ (∀ x, A'.map (·.block) = some x → A.map (·.block) = some x ∨ w.heap.size ≤ x) := by
  have HRF := Lib.hid h
  have hpl := rPlace_any base b A c K u w h (Nat.le_trans hg.len (by omega))
  have k0 := h.box.cell 0
  simp only [List.getElem?_cons_zero] at k0
  have f0 := h.box.frozen 0
  obtain ⟨m, hm⟩ : ∃ m, m = K.length := ⟨_, rfl⟩
  rw [← hm] at k0
  have hm32 : m ≤ 32 := by rw [hm]; exact hg.len
  have HM := Lib.hid hm
  rcases rgIx_cases K u with ⟨hix, hat⟩ | ⟨j, x, hx, hxu, hix, hat⟩
  · rw [hix] at hpl
    have HP := Lib.hid (show rgDrop K u = (4, K) by unfold rgDrop; rw [hat]; rfl)
    clear hix hat h hg hm
    go_enter Try.func10, Try.ntmps10
    repeat (first | go_skip | go_guarded | go_step)
    refine hpl.mono ?_
    rintro e w2 ⟨rfl, hw⟩
    rw [hw]
    clear hw hpl
    dsimp only
    repeat (first | go_skip | go_guarded | go_step)
    go_ret
    rw [HP.out]
    exact ⟨A, c, rfl, HRF.out, Turn.refl _ _, fun x hx => .inl hx⟩
  · rw [hix] at hpl
    have hjm : j < m := by rw [hm]; exact (List.getElem?_eq_some_iff.1 hx).1
    have HP := Lib.hid (show rgDrop K u = (0, K.take j ++ K.drop (j + 1)) by unfold rgDrop; rw [hat, ← rgCut_split hg.rise hx hxu]; rfl)
    have hown := h.own
    rw [← hm] at hown
    have hcap := hown.cap
    obtain ⟨g, rest, hA, hbg, _, hcm, _, hbk⟩ := hown.block (by omega)
    subst hA
    have HOW := Lib.hid hown
    have hgl : g < w.heap.size := hbk.lt
    have hj0 : ¬ (j : Int) < 0 := by omega
    have hj1 : (0 : Int) ≤ (j : Int) := by omega
    have hjc : (j : Int) ≤ (c : Int) := by omega
    have hjm1 : (j : Int) ≤ (m : Int) := by omega
    have hwr : IntKind.i64.wrap ((j : Int) + 1) = (j : Int) + 1 := by rw [IntKind.wrap_i64]; omega
    have hj4 : (0 : Int) ≤ (j : Int) + 1 := by omega
    have hj2 : (j : Int) + 1 ≤ (m : Int) := by omega
    have hj3 : (j : Int) + 1 ≤ (c : Int) := by omega
    have HB := Lib.hid (show ¬ g = b from fun e => h.ne (by rw [e]; rfl))
    clear hix hat h hg hm hx hxu hown hbk
    go_enter Try.func10, Try.ntmps10
    repeat (first | go_skip | go_guarded | go_step)
    refine hpl.mono ?_
    rintro e w2 ⟨rfl, hw⟩
    rw [hw]
    clear hw hpl
    dsimp only
    go_upto_region 6 with (first
      | (at_builtin
         refine appEn0 _ rfl (.tmp 12) (.tmp 18) rfl base rfl _ _ j c (K.take j) rfl (rdEn_take HOW.out.rd (by omega)) (by omega) hbw ?_
         intro A5 c5 w5 ho5 hb5 hn5
         have HO5 := Lib.hid ho5
         have HB5 := Lib.hid hb5
         have HN5 := Lib.hid hn5
         have hbx5 := HRF.out.box.later hb5
         have k5 := hbx5.cell 0
         simp only [List.getElem?_cons_zero] at k5
         rw [← HM.out] at k5
         have f5 := hbx5.frozen 0
         have HBX5 := Lib.hid hbx5
         clear ho5 hb5 hn5 hbx5)
      | fail)
    by_cases hcj : c = j + 1
    · have hcji : (c : Int) = (j : Int) + 1 := by omega
      have hmj : m = j + 1 := by omega
      have HRD := Lib.hid (show RdEn w5 w5.heap.size (some ⟨g, 0, none⟩) (m - (j + 1)) (K.drop (j + 1)) by
        rw [List.drop_of_length_le (by rw [← HM.out]; omega), show m - (j + 1) = 0 by omega]
        exact rdEn_none)
      have HMJ := Lib.hid hmj
      have HCJ := Lib.hid hcj
      clear hmj hcj
      repeat (first
        | (at_builtin
           refine appEn _ rfl (.tmp 21) (.tmp 28) rfl base A5 c5 j (K.take j) rfl HO5.out _ (some ⟨g, 0, none⟩) (m - (j + 1)) _ (K.drop (j + 1)) rfl HRD.out (by omega) (Nat.le_trans hbw HB5.out.size) ?_
           intro A6 c6 w6 ho6 ht6 hg6
           have hbx6 := ht6.bk HBX5.out (fun e => by have := HN5.out b e; have := HRF.out.box.lt; omega)
           have k6 := hbx6.cell 0
           simp only [List.getElem?_cons_zero] at k6
           have f6 := hbx6.frozen 0
           have HO6 := Lib.hid ho6
           have HT6 := Lib.hid ht6
           have HG6 := Lib.hid hg6
           have HK6 := Lib.hid hbx6
           clear ho6 ht6 hg6 hbx6)
        | go_skip | go_guarded | go_step)
      go_ret
      rw [HP.out]
      have hlen : (K.take j ++ K.drop (j + 1)).length = j + (m - (j + 1)) := by rw [List.length_append, List.length_take, List.length_drop, ← HM.out]; omega
      have hbl : b < w.heap.size := HRF.out.box.lt
      have hnew : ∀ x, A6.map (·.block) = some x → w.heap.size ≤ x := fun x hx => by
        rcases HG6.out with q | q
        · exact HN5.out x (by rw [← q]; exact hx)
        · have := Option.some.inj (q.symm.trans hx)
          have := HB5.out.size
          omega
      refine ⟨A6, c6, rfl, ⟨?_, ?_, HRF.out.hb, fun e => by have := hnew b e; omega⟩, ?_, fun x hx => .inr (hnew x hx)⟩
      · rw [hlen]
        exact HK6.out.set_ 0 _
      · rw [hlen]
        exact ((Turn.refl (fun k => k = b) w6).setCell (p := ⟨b, 0, none⟩) (fun _ => rfl) _).own HO6.out (fun x hx e => by
          rw [ownBlkR] at hx
          have e' : x = b := e
          have := hnew x hx
          omega)
      · exact ((Turn.ofBelow HB5.out).then_ HT6.out fun x hx e => by have := HN5.out x e; omega).setCell (p := ⟨b, 0, none⟩) (fun _ => .inl rfl) _
    · have hcji : ¬ (c : Int) = (j : Int) + 1 := by omega
      have hcjn : ¬ c = j + 1 := by omega
      have HRD := Lib.hid (show RdEn w5 w5.heap.size (some ⟨g, (j + 1) * 2, none⟩) (m - (j + 1)) (K.drop (j + 1)) from (Rd.below (rdEn_drop HOW.out.rd (by omega)) HB5.out).more HB5.out.size)
      repeat (first
        | (at_builtin
           refine appEn _ rfl (.tmp 21) (.tmp 28) rfl base A5 c5 j (K.take j) rfl HO5.out _ (some ⟨g, (j + 1) * 2, none⟩) (m - (j + 1)) _ (K.drop (j + 1)) rfl HRD.out (by omega) (Nat.le_trans hbw HB5.out.size) ?_
           intro A6 c6 w6 ho6 ht6 hg6
           have hbx6 := ht6.bk HBX5.out (fun e => by have := HN5.out b e; have := HRF.out.box.lt; omega)
           have k6 := hbx6.cell 0
           simp only [List.getElem?_cons_zero] at k6
           have f6 := hbx6.frozen 0
           have HO6 := Lib.hid ho6
           have HT6 := Lib.hid ht6
           have HG6 := Lib.hid hg6
           have HK6 := Lib.hid hbx6
           clear ho6 ht6 hg6 hbx6)
        | go_skip | go_guarded | go_step)
      go_ret
      rw [HP.out]
      have hlen : (K.take j ++ K.drop (j + 1)).length = j + (m - (j + 1)) := by rw [List.length_append, List.length_take, List.length_drop, ← HM.out]; omega
      have hbl : b < w.heap.size := HRF.out.box.lt
      have hnew : ∀ x, A6.map (·.block) = some x → w.heap.size ≤ x := fun x hx => by
        rcases HG6.out with q | q
        · exact HN5.out x (by rw [← q]; exact hx)
        · have := Option.some.inj (q.symm.trans hx)
          have := HB5.out.size
          omega
      refine ⟨A6, c6, rfl, ⟨?_, ?_, HRF.out.hb, fun e => by have := hnew b e; omega⟩, ?_, fun x hx => .inr (hnew x hx)⟩
      · rw [hlen]
        exact HK6.out.set_ 0 _
      · rw [hlen]
        exact ((Turn.refl (fun k => k = b) w6).setCell (p := ⟨b, 0, none⟩) (fun _ => rfl) _).own HO6.out (fun x hx e => by
          rw [ownBlkR] at hx
          have e' : x = b := e
          have := hnew x hx
          omega)
      · exact ((Turn.ofBelow HB5.out).then_ HT6.out fun x hx e => by have := HN5.out x e; omega).setCell (p := ⟨b, 0, none⟩) (fun _ => .inl rfl) _
end Go.Proofs.Ytedgigoelhcfnaa
