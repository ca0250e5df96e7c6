/- Layer 18 (ring), the landed program: New, Put, Drop, Key, List; what is asked of the program holds. -/
import Derived.Test.YtedgigoelhcfnaaRqE
set_option linter.unusedVariables false
set_option linter.unusedSimpArgs false
namespace Go.Proofs.Ytedgigoelhcfnaa
open Go Go.RowKit Go.Maps

/-- The ring at block a: its map's block and its keys' blocks are of G. -/
def RgW (w : World) (a : Nat) (G : Nat → Prop) (K : List RgE) : Prop :=
  RgGood K ∧ (∀ k, G k → k < w.heap.size) ∧ G a ∧ ∃ (mb : Option Nat) (O : Nat → Prop), Bk w a 48 [.map mb] ∧ MapN w mb O K ∧ (∀ x, O x → G x ∧ x ≠ a)
theorem MapN.turn {H : Nat → Prop} {w w' : World} {mb : Option Nat} {O : Nat → Prop} {K : List RgE} (h : MapN w mb O K) (ht : Turn H w w') (hO : ∀ x, O x → ¬ H x) (hl : ∀ x, O x → x < w.heap.size) : MapN w' mb O K := by
  cases mb with
  | none => exact h
  | some b => exact ⟨h.1, h.2.turn ht (hO b h.1) hO hl⟩
theorem RgW.keep {w w' : World} {a : Nat} {G H : Nat → Prop} {K : List RgE} (h : RgW w a G K) (ht : Turn H w w') (hn : ∀ k, G k → ¬ H k) : RgW w' a G K := by
  obtain ⟨h1, h2, h3, mb, O, h4, h5, h6⟩ := h
  exact ⟨h1, fun k hk => Nat.lt_of_lt_of_le (h2 k hk) ht.size, h3, mb, O, ht.bk h4 (hn a h3), h5.turn ht (fun x hx => hn x (h6 x hx).1) (fun x hx => h2 x (h6 x hx).1), h6⟩
theorem rqNew_any (w : World) : Calls Try.prog 8 #[] w fun e w' => ∃ a G, e = .returned (rp a) ∧ RgW w' a G [] ∧ (∀ k, G k → w.heap.size ≤ k) ∧ Below w.heap.size w w' := by
  go_enter Try.func8, Try.ntmps8
  repeat (first | go_skip | go_guarded | go_step)
  go_ret
  exact ⟨w.heap.size, fun k => k = w.heap.size, rfl, ⟨rgGood_nil, fun k e => by simp; omega, rfl, none, fun _ => False, Bk.new w _ _, rfl, fun x h => h.elim⟩, fun k e => by omega, (Below.refl _ _).alloc (Nat.le_refl _) _⟩
set_option maxRecDepth 100000 in
set_option maxHeartbeats 4000000 in
theorem rqPut_any (w : World) (a : Nat) (G : Nat → Prop) (K : List RgE) (u : UInt32) (A : Option Addr) (n c B : Nat) (k : List UInt8) (h : RgW w a G K) (hrd0 : Rd w B 1 A n (k.map bv)) (hB : B ≤ w.heap.size) (hnc : n ≤ c) (hn6 : n ≤ 1000000) (hA : 0 < n → ∀ x, A.map (·.block) = some x → ¬ G x) :
    Calls Try.prog 11 #[rp a, nr u, .slice A n c] w fun e w' => ∃ G', e = .returned (.int .i64 ((rgPut K u k).1 : Int)) ∧ RgW w' a G' (rgPut K u k).2 ∧ Turn G w w' ∧ (∀ x, G' x → G x ∨ w.heap.size ≤ x) := by
  have hkl : k.length = n := by have := hrd0.len1; simpa using this
  have hrd := hrd0.more hB
  have HGD := Lib.hid (rgPut_good h.1 u k)
  have HH := Lib.hid h
  obtain ⟨h1, h2, h3, mb, O, h4, h5, h6⟩ := h
  have hhas := rHas_any a mb O K u w h4 h5
  have k0 := h4.cell 0
  simp only [List.getElem?_cons_zero] at k0
  have hm32 := h1.len
  obtain ⟨m, hm⟩ : ∃ m, m = K.length := ⟨_, rfl⟩
  have HM := Lib.hid hm
  have HMN := Lib.hid h5
  have HR := Lib.hid h1.rise
  by_cases hb : n < 1 ∨ 64 < n
  · have HP := Lib.hid (show rgPut K u k = (1, K) by unfold rgPut; rw [hkl, if_pos hb])
    clear h4 h5 hm hhas HGD hrd hrd0 hkl
    by_cases hb1 : n < 1
    · have hb1i : (n : Int) < 1 := by omega
      go_enter Try.func11, Try.ntmps11
      repeat (first | go_skip | go_guarded | go_step)
      go_ret
      exact ⟨G, by rw [HP.out]; rfl, by rw [HP.out]; exact HH.out, Turn.refl _ _, fun x hx => .inl hx⟩
    · have hb1i : ¬ (n : Int) < 1 := by omega
      have hb2i : (64 : Int) < (n : Int) := by omega
      go_enter Try.func11, Try.ntmps11
      repeat (first | go_skip | go_guarded | go_step)
      go_ret
      exact ⟨G, by rw [HP.out]; rfl, by rw [HP.out]; exact HH.out, Turn.refl _ _, fun x hx => .inl hx⟩
  · have hb1i : ¬ (n : Int) < 1 := by omega
    have hb2i : ¬ (64 : Int) < (n : Int) := by omega
    cases hf : rgAt K u with
    | some k2 =>
      rw [hf] at hhas
      have HP := Lib.hid (show rgPut K u k = (13, K) by unfold rgPut; rw [hkl, if_neg hb, hf, if_pos (by rfl)])
      clear h4 h5 hm HGD hrd hrd0 hf hkl
      go_enter Try.func11, Try.ntmps11
      repeat (first | go_skip | go_guarded | go_step)
      refine hhas.mono ?_
      rintro e w2 ⟨rfl, hw⟩
      rw [hw]
      clear hw hhas
      dsimp only [Option.isSome]
      repeat (first | go_skip | go_guarded | go_step)
      go_ret
      exact ⟨G, by rw [HP.out]; rfl, by rw [HP.out]; exact HH.out, Turn.refl _ _, fun x hx => .inl hx⟩
    | none =>
      rw [hf] at hhas
      by_cases hfull : 32 ≤ m
      · have hfi : (32 : Int) ≤ (m : Int) := by omega
        have HP := Lib.hid (show rgPut K u k = (7, K) by unfold rgPut; rw [hkl, if_neg hb, hf, if_neg (by simp), if_pos (by omega)])
        clear h4 h5 hm HGD hrd hrd0 hf hkl
        go_enter Try.func11, Try.ntmps11
        repeat (first | go_skip | go_guarded | go_step)
        refine hhas.mono ?_
        rintro e w2 ⟨rfl, hw⟩
        rw [hw]
        clear hw hhas
        dsimp only [Option.isSome]
        repeat (first | (at_len; refine lenR _ rfl _ rfl mb O K rfl HMN.out HR.out ?_; rw [← HM.out]) | go_skip | go_guarded | go_step)
        go_ret
        exact ⟨G, by rw [HP.out]; rfl, by rw [HP.out]; exact HH.out, Turn.refl _ _, fun x hx => .inl hx⟩
      · have hfi : ¬ (32 : Int) ≤ (m : Int) := by omega
        have HP := Lib.hid (show rgPut K u k = (0, rgIns K u k) by unfold rgPut; rw [hkl, if_neg hb, hf, if_neg (by simp), if_neg (by omega)])
        subst hkl
        have hadd := rAdd_any a mb O K u A c k w h4 h5 (fun x hx => ⟨h2 x (h6 x hx).1, (h6 x hx).2⟩) HR.out (by omega) hf hrd (fun x hx => ⟨fun e => hA (by omega) x hx (by rw [e]; exact h3), fun e => hA (by omega) x hx (h6 x e).1⟩) hnc (by omega) hn6
        obtain ⟨n, hn⟩ : ∃ n, n = k.length := ⟨_, rfl⟩
        rw [← hn] at hadd hb1i hb2i ⊢
        clear hm hrd hrd0 hf hb hA hnc hn6 hn
        go_enter Try.func11, Try.ntmps11
        repeat (first | go_skip | go_guarded | go_step)
        refine hhas.mono ?_
        rintro e w2 ⟨rfl, hw⟩
        rw [hw]
        clear hw hhas
        dsimp only [Option.isSome]
        repeat (first | (at_len; refine lenR _ rfl _ rfl mb O K rfl HMN.out HR.out ?_; rw [← HM.out]) | go_skip | go_guarded | go_step)
        refine hadd.mono ?_
        rintro e w2 ⟨rfl, b, O', g1, g2, g3, g4, g5⟩
        have G5 := Lib.hid g5
        have G3 := Lib.hid g3
        clear hadd k0 g5 g3
        dsimp only
        repeat (first | go_skip | go_guarded | go_step)
        go_ret
        refine ⟨fun x => G x ∨ (w.heap.size ≤ x ∧ x < w2.heap.size), by rw [HP.out]; rfl, ?_, G5.out.mono fun x _ hx => ?_, fun x hx => hx.elim .inl fun q => .inr q.1⟩
        · have hgd := HGD.out
          rw [HP.out] at hgd ⊢
          have hs := G5.out.size
          have ha := h4.lt
          exact ⟨hgd, fun x hx => hx.elim (fun q => Nat.lt_of_lt_of_le (h2 x q) hs) (fun q => q.2), .inl h3, some b, O', g1, ⟨g2, G3.out⟩, fun x hx => (g4 x hx).elim (fun q => ⟨.inl (h6 x q).1, (h6 x q).2⟩) (fun q => ⟨.inr q, by omega⟩)⟩
        · rcases hx with e | e
          · rw [e]; exact h3
          · exact (h6 x e).1
set_option maxRecDepth 100000 in
theorem rqDrop_any (w : World) (a : Nat) (G : Nat → Prop) (K : List RgE) (u : UInt32) (h : RgW w a G K) :
    Calls Try.prog 9 #[rp a, nr u] w fun e w' => ∃ G', e = .returned (.int .i64 ((rgDrop K u).1 : Int)) ∧ RgW w' a G' (rgDrop K u).2 ∧ Turn G w w' ∧ (∀ x, G' x → G x ∨ w.heap.size ≤ x) := by
  have HGD := Lib.hid (rgDrop_good h.1 u)
  have HH := Lib.hid h
  obtain ⟨h1, h2, h3, mb, O, h4, h5, h6⟩ := h
  have hhas := rHas_any a mb O K u w h4 h5
  have k0 := h4.cell 0
  simp only [List.getElem?_cons_zero] at k0
  cases hf : rgAt K u with
  | none =>
    rw [hf] at hhas
    have HP := Lib.hid (show rgDrop K u = (4, K) by unfold rgDrop; rw [hf, if_neg (by simp)])
    clear h4 h5 HGD hf
    go_enter Try.func9, Try.ntmps9
    repeat (first | go_skip | go_guarded | go_step)
    refine hhas.mono ?_
    rintro e w2 ⟨rfl, hw⟩
    rw [hw]
    clear hw hhas
    dsimp only [Option.isSome]
    repeat (first | go_skip | go_guarded | go_step)
    go_ret
    exact ⟨G, by rw [HP.out]; rfl, by rw [HP.out]; exact HH.out, Turn.refl _ _, fun x hx => .inl hx⟩
  | some k2 =>
    rw [hf] at hhas
    have HP := Lib.hid (show rgDrop K u = (0, rgCut K u) by unfold rgDrop; rw [hf, if_pos (by rfl)])
    cases mb with
    | none =>
      have h0 : K = [] := h5
      subst h0
      simp [rgAt] at hf
    | some b =>
      obtain ⟨hOb, hmk⟩ := h5
      have HMK := Lib.hid hmk
      have hOl : ∀ x, O x → x < w.heap.size := fun x hx => h2 x (h6 x hx).1
      have H4 := Lib.hid h4
      clear hf hmk h4
      go_enter Try.func9, Try.ntmps9
      repeat (first | go_skip | go_guarded | go_step)
      refine hhas.mono ?_
      rintro e w2 ⟨rfl, hw⟩
      rw [hw]
      clear hw hhas
      dsimp only [Option.isSome]
      repeat (first | (at_delete; refine cutR _ rfl _ _ rfl b O K u rfl rfl HMK.out h1.rise hOl ?_; intro w3 hm3 hg3; have HM3 := Lib.hid hm3; have HG3 := Lib.hid hg3; clear hm3 hg3) | go_skip | go_guarded | go_step)
      go_ret
      have ht : Turn (fun x => x = b) w w3 := Turn.ofGrown HG3.out fun k e => by cases e; rfl
      have hgd := HGD.out
      rw [HP.out] at hgd ⊢
      exact ⟨G, rfl, ⟨hgd, fun x hx => Nat.lt_of_lt_of_le (h2 x hx) ht.size, h3, some b, O, ht.bk H4.out (fun e => (h6 b hOb).2 e.symm), ⟨hOb, HM3.out⟩, h6⟩, ht.mono fun x _ e => by rw [show x = b from e]; exact (h6 b hOb).1, fun x hx => .inl hx⟩
set_option maxRecDepth 100000 in
theorem rqKey_any (w : World) (a : Nat) (G : Nat → Prop) (K : List RgE) (u : UInt32) (h : RgW w a G K) :
    Calls Try.prog 13 #[rp a, nr u] w fun e w' => ∃ (G' : Nat → Prop) (A : Option Addr) (n c : Nat), e = .returned (.tuple #[.slice A n c, .bool (rgAt K u).isSome]) ∧ Rd w' w'.heap.size 1 A n ((rgKey K u).map bv) ∧ (∀ x, A.map (·.block) = some x → ¬ G' x) ∧ RgW w' a G' K ∧ Turn G w w' ∧ (∀ x, G' x → G x ∨ w.heap.size ≤ x) := by
  have HH := Lib.hid h
  obtain ⟨h1, h2, h3, mb, O, h4, h5, h6⟩ := h
  have k0 := h4.cell 0
  simp only [List.getElem?_cons_zero] at k0
  have HMN := Lib.hid h5
  clear h4 h5
  cases hf : rgAt K u with
  | none =>
    have HF := Lib.hid hf
    have hcl := rClone_nil w
    clear hf
    go_enter Try.func13, Try.ntmps13
    repeat (first | (at_lookup; refine lookR_not _ rfl _ _ rfl mb O K u rfl rfl HMN.out HF.out ?_) | go_skip | go_guarded | go_step)
    refine hcl.mono ?_
    rintro e w2 ⟨rfl, hw⟩
    rw [hw]
    clear hw hcl
    dsimp only
    repeat (first | go_skip | go_guarded | go_step)
    go_ret2
    exact ⟨G, none, 0, 0, rfl, by unfold rgKey; rw [HF.out]; exact Rd.nil, fun x hx => (by cases hx), HH.out, Turn.refl _ _, fun x hx => .inl hx⟩
  | some k =>
    have HF := Lib.hid hf
    have hkk := h1.key _ (rgAt_mem hf)
    dsimp only at hkk
    have hcl := fun A c => rClone_any A c k w
    obtain ⟨n, hn⟩ : ∃ n, n = k.length := ⟨_, rfl⟩
    have HN := Lib.hid hn
    clear hf
    go_enter Try.func13, Try.ntmps13
    repeat (first | (at_lookup; refine lookR_is _ rfl _ _ rfl mb O K u k rfl rfl HMN.out HF.out ?_; intro A c hc hrd hA) | go_skip | go_guarded | go_step)
    refine (hcl A c hrd hc hkk.1 (by omega)).mono ?_
    rintro e w2 ⟨A2, c2, rfl, hc2, hrd2, hA2, hb2⟩
    have HRD2 := Lib.hid hrd2
    clear hcl hrd2 hrd
    dsimp only
    repeat (first | go_skip | go_guarded | go_step)
    go_ret2
    exact ⟨G, A2, k.length, c2, rfl, by unfold rgKey; rw [HF.out]; exact HRD2.out, fun x hx g => by have := h2 x g; have := (hA2 x hx).1; omega, HH.out.keep (Turn.ofBelow (G := fun _ => False) hb2) (fun _ _ => id), Turn.ofBelow hb2, fun x hx => .inl hx⟩
set_option maxRecDepth 100000 in
theorem rqList_any (w : World) (a : Nat) (G : Nat → Prop) (K : List RgE) (h : RgW w a G K) :
    Calls Try.prog 15 #[rp a] w fun e w' => ∃ (G' : Nat → Prop) (A : Option Addr) (n c : Nat), e = .returned (.slice A n c) ∧ Rd w' w'.heap.size 1 A n ((K.map (·.1)).map nr) ∧ (∀ x, A.map (·.block) = some x → ¬ G' x) ∧ RgW w' a G' K ∧ Turn G w w' ∧ (∀ x, G' x → G x ∨ w.heap.size ≤ x) := by
  have HH := Lib.hid h
  obtain ⟨h1, h2, h3, mb, O, h4, h5, h6⟩ := h
  have k0 := h4.cell 0
  simp only [List.getElem?_cons_zero] at k0
  obtain ⟨W, hW, hbW, bW⟩ : ∃ W, W = w.alloc (.cells #[.map mb] 46) ∧ Below w.heap.size w W ∧ Bk W w.heap.size 46 [.map mb] := ⟨_, rfl, (Below.refl _ _).alloc (Nat.le_refl _) _, Bk.new w _ _⟩
  have hWs : W.heap.size = w.heap.size + 1 := by rw [hW]; simp
  have hkeys := rKeys_any mb w
  have b0 := bW.cell 0
  simp only [List.getElem?_cons_zero] at b0
  have hsorted := rSorted_any mb O K h1.rise (by have := h1.len; omega) w.heap.size W bW.lt b0 (h5.turn (H := fun _ => False) (Turn.ofBelow hbW) (fun _ _ => id) (fun x hx => h2 x (h6 x hx).1)) (fun x hx => by have := h2 x (h6 x hx).1; omega)
  rw [← hW] at hkeys
  have HBW := Lib.hid hbW
  clear h4 h5 hW bW b0 hbW
  go_enter Try.func15, Try.ntmps15
  repeat (first | go_skip | go_guarded | go_step)
  refine hkeys.mono ?_
  rintro e w2 ⟨rfl, hw⟩
  rw [hw]
  clear hw hkeys
  dsimp only
  repeat (first | go_skip | go_guarded | go_step)
  refine hsorted.mono ?_
  rintro e w3 ⟨A, c, rfl, ho3, hb3⟩
  have HO3 := Lib.hid ho3
  clear ho3 hsorted
  dsimp only
  repeat (first | go_skip | go_guarded | go_step)
  go_ret
  have hb : Below w.heap.size w w3 := HBW.out.trans (hb3.mono HBW.out.size)
  exact ⟨G, A, K.length, c, rfl, Rd.ofOwn HO3.out, fun x hx g => by
    have := h2 x g
    have := (World.ownsRow.lt HO3.out x (by rw [ownBlkR]; exact hx)).1
    omega, HH.out.keep (Turn.ofBelow (G := fun _ => False) hb) (fun _ _ => id), Turn.ofBelow hb, fun x hx => .inl hx⟩
theorem rPutN_any (w : World) (u : UInt32) (A : Option Addr) (n c : Nat) : Calls Try.prog 11 #[.pointer none, nr u, .slice A n c] w fun e w' => e = .returned (.int .i64 2) ∧ Below w.heap.size w w' := by
  go_enter Try.func11, Try.ntmps11
  repeat (first | go_skip | go_guarded | go_step)
  go_ret
  exact ⟨rfl, Below.refl _ _⟩
theorem rDropN_any (w : World) (u : UInt32) : Calls Try.prog 9 #[.pointer none, nr u] w fun e w' => e = .returned (.int .i64 2) ∧ Below w.heap.size w w' := by
  go_enter Try.func9, Try.ntmps9
  repeat (first | go_skip | go_guarded | go_step)
  go_ret
  exact ⟨rfl, Below.refl _ _⟩
theorem rKeyN_any (w : World) (u : UInt32) : Calls Try.prog 13 #[.pointer none, nr u] w fun e w' => ∃ A c, e = .returned (.tuple #[.slice A 0 c, .bool false]) ∧ Below w.heap.size w w' := by
  go_enter Try.func13, Try.ntmps13
  repeat (first | go_skip | go_guarded | go_step)
  go_ret2
  exact ⟨none, 0, rfl, Below.refl _ _⟩
theorem rListN_any (w : World) : Calls Try.prog 15 #[.pointer none] w fun e w' => ∃ A c, e = .returned (.slice A 0 c) ∧ Below w.heap.size w w' := by
  go_enter Try.func15, Try.ntmps15
  repeat (first | go_skip | go_guarded | go_step)
  go_ret
  exact ⟨none, 0, rfl, Below.refl _ _⟩
theorem ring_ok : RingOk RgW where
  good h := h.1
  keep h ht hn := h.keep ht hn
  low h := h.2.1
  new_ := rqNew_any
  put w a G K u A n c B k h hrd hB hnc hn hA := rqPut_any w a G K u A n c B k h hrd hB hnc hn hA
  drop := rqDrop_any
  key := rqKey_any
  list := rqList_any
  putN := rPutN_any
  dropN := rDropN_any
  keyN := rKeyN_any
  listN := rListN_any
end Go.Proofs.Ytedgigoelhcfnaa
