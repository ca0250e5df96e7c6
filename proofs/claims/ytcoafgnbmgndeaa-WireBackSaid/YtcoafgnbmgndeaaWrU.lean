/- Layer 6 (wire), the document's taker: an atom, a say. -/
import Derived.Test.YtcoafgnbmgndeaaWrT
import Derived.Test.YtcoafgnbmgndeaaWrAt
import Derived.Deep.Cut
set_option linter.unusedVariables false
set_option linter.unusedSimpArgs false
namespace Go.Proofs.Ytcoafgnbmgndeaa
open Go Go.RowKit

/-- As After; of what is answered where they said nothing, nothing. -/
def AfterW {α : Type} (a : Option (α × List UInt8)) (bs : List UInt8) (k : Nat) (bad : Bool) (x : α) : Prop :=
  match a with
  | none => bad = true
  | some (y, r) => bad = false ∧ x = y ∧ r = bs.drop k
section
variable {α β : Type} {p : Rdr α} {q : Rdr β} {o : Option (List UInt8)} {bs : List UInt8} {k k1 k2 : Nat} {bad b1 b2 : Bool}
theorem After.weak {a : Option (α × List UInt8)} {x z : α} (h : After a bs k bad x z) : AfterW a bs k bad x := by
  cases a with
  | none => exact h.1
  | some y => exact h
theorem AfterW.map {v : α} (f : α → β) (h : AfterW (o.bind p) bs k bad v) : AfterW (o.bind (rMap p f)) bs k bad (f v) := by
  cases o with
  | none => exact h
  | some l =>
    have h : AfterW (p l) bs k bad v := h
    show AfterW ((p l).map fun q => (f q.1, q.2)) bs k bad (f v)
    cases hp : p l with
    | none => rw [hp] at h; exact h
    | some q => rw [hp] at h; exact ⟨h.1, congrArg f h.2.1, h.2.2⟩
theorem AfterW.seq {x : α} {y : β} (h : AfterW (o.bind p) bs k1 b1 x) (h2 : AfterW ((rest bs k1 b1).bind q) bs k2 b2 y) : AfterW (o.bind (rSeq p q)) bs k2 b2 (x, y) := by
  cases o with
  | none =>
    have h : b1 = true := h
    subst h
    exact h2
  | some l =>
    have h : AfterW (p l) bs k1 b1 x := h
    show AfterW (rSeq p q l) bs k2 b2 (x, y)
    unfold rSeq
    cases hp : p l with
    | none =>
      rw [hp] at h
      have h : b1 = true := h
      subst h
      exact h2
    | some z =>
      obtain ⟨x', r⟩ := z
      rw [hp] at h
      obtain ⟨rfl, rfl, rfl⟩ := h
      have h2 : AfterW (q (bs.drop k1)) bs k2 b2 y := h2
      dsimp only
      cases hq : q (bs.drop k1) with
      | none => rw [hq] at h2; exact h2
      | some z2 => rw [hq] at h2; exact ⟨h2.1, by rw [h2.2.1], h2.2.2⟩
theorem AfterW.row {most N : Nat} {L : List α} (h : AfterW (o.bind (rByte most)) bs k1 b1 N) (h2 : AfterW ((rest bs k1 b1).bind (rMany p N)) bs k2 b2 L) : AfterW (o.bind (rRow most p)) bs k2 b2 L := by
  cases o with
  | none =>
    have h : b1 = true := h
    subst h
    exact h2
  | some l =>
    have h : AfterW (rByte most l) bs k1 b1 N := h
    show AfterW (rRow most p l) bs k2 b2 L
    unfold rRow
    cases hp : rByte most l with
    | none =>
      rw [hp] at h
      have h : b1 = true := h
      subst h
      exact h2
    | some z =>
      obtain ⟨x', r⟩ := z
      rw [hp] at h
      obtain ⟨rfl, rfl, rfl⟩ := h
      exact h2
theorem AfterW.none0 {x : List α} (hx : x = []) : AfterW ((rest bs k bad).bind (rMany p 0)) bs k bad x := by
  cases bad
  · exact ⟨rfl, hx, rfl⟩
  · rfl
theorem AfterW.snoc {i : Nat} {L : List α} {x : α} (h : AfterW (o.bind (rMany p i)) bs k1 b1 L) (h2 : AfterW ((rest bs k1 b1).bind p) bs k2 b2 x) : AfterW (o.bind (rMany p (i + 1))) bs k2 b2 (L ++ [x]) := by
  cases o with
  | none =>
    have h : b1 = true := h
    subst h
    exact h2
  | some l =>
    have h : AfterW (rMany p i l) bs k1 b1 L := h
    show AfterW (rMany p (i + 1) l) bs k2 b2 (L ++ [x])
    rw [rMany_snoc]
    cases hp : rMany p i l with
    | none =>
      rw [hp] at h
      have h : b1 = true := h
      subst h
      exact h2
    | some z =>
      obtain ⟨x', r⟩ := z
      rw [hp] at h
      obtain ⟨rfl, rfl, rfl⟩ := h
      have h2 : AfterW (p (bs.drop k1)) bs k2 b2 x := h2
      dsimp only
      cases hq : p (bs.drop k1) with
      | none => rw [hq] at h2; exact h2
      | some z2 => rw [hq] at h2; exact ⟨h2.1, by rw [h2.2.1], h2.2.2⟩
theorem After.mostB {most v : Nat} (h : After (o.bind (rByte most)) bs k bad v 0) : v ≤ most := by
  cases o with
  | none => rw [h.2]; omega
  | some l =>
    have h : After (rByte most l) bs k bad v 0 := h
    cases l with
    | nil => have h : bad = true ∧ v = 0 := h; omega
    | cons c l =>
      unfold rByte at h
      dsimp only at h
      split at h
      · rename_i hle
        rw [h.2.1]; exact hle
      · rw [h.2]; omega
end
theorem ownLower {w : World} {base base' s n : Nat} {e : TypeId} {v : Value} {xs : List Value} (h : w.ownsRow base e s v n xs) (hb : base' ≤ base) : w.ownsRow base' e s v n xs := by
  refine ⟨h.1, ?_⟩
  rcases h.2 with h0 | ⟨g, cap, cur, h1, h2, h3⟩
  · exact .inl h0
  · exact .inr ⟨g, cap, cur, h1, Nat.le_trans hb h2, h3⟩
abbrev tmW (t : Tm) : Value := .agg #[.bool t.1, nv t.2]
theorem run_litW1 (t0 : Tm) (w : World) : (Instr.buildSlice 40 1 #[(0, tmW t0)]).run Try.prog w = .ok (.slice (some ⟨w.heap.size, 0, none⟩) 1 1) (w.alloc (.cells (tmCs [t0]).toArray 54)) := by
  obtain ⟨i0, hi, hz0, hz1, hz2⟩ := info_parts termInfo
  simp [Instr.buildSlice, run_underlying Try.underlying40, sizeOf, typeInfo, zeroValue, hi, hz0, hz1, newRow, Instr.fill]
  kernel_rfl
theorem litW_rd (w : World) (l : List Tm) (n : Nat) (hn : l.length = n) : RdT (w.alloc (.cells (tmCs l).toArray 54)) (w.heap.size + 1) (some ⟨w.heap.size, 0, none⟩) n l := by
  have hb := Bk.new w 54 (tmCs l)
  refine ⟨by rw [tmCs_len, hn], fun _ => ⟨w.heap.size, 0, rfl, by omega, fun j u hu => ?_⟩⟩
  rw [Nat.zero_add, hb.cell]
  exact hu

set_option maxRecDepth 100000 in
set_option maxHeartbeats 4000000 in
theorem rAtom_any (g : Nat) (A : Option Addr) (n c k : Nat) (bad : Bool) (bs : List UInt8) (w : World) (hk0 : Tk w g A n c k bad) (hr : Rd w g 1 A n (bs.map bv)) (hc : n ≤ c) (hm : n ≤ 140737488355328) (hk : k ≤ n) :
    Calls Try.prog 52 #[.pointer (some ⟨g, 0, none⟩)] w fun e w' => ∃ (p : UInt32) (A' : Option Addr) (m c' : Nat) (L : List Tm) (k' : Nat) (bad' : Bool), e = .returned (.agg #[nv p, .slice A' m c']) ∧ OwT w' w.heap.size A' c' m L ∧ m ≤ 6 ∧ Tk w' g A n c k' bad' ∧ k' ≤ n ∧ Turn (fun i => i = g) w w' ∧ AfterW ((rest bs k bad).bind rAtom) bs k' bad' (p, L) := by
  have hlt := Bk.lt hk0
  obtain ⟨U, hU, hT, hH, hbU⟩ : ∃ U, U = w.alloc (.cells #[.int .u32 0, .slice none 0 0] 42) ∧ Tk U g A n c k bad ∧ Bk U w.heap.size 42 [.int .u32 0, .slice none 0 0] ∧ Below w.heap.size w U :=
    ⟨_, rfl, Bk.alloc hk0 _, Bk.new w _ _, (Below.refl _ _).alloc (Nat.le_refl _) _⟩
  have HU := Lib.hid hU
  have HT := Lib.hid hT
  have HH := Lib.hid hH
  have HB := Lib.hid hbU
  have HR := Lib.hid hr
  have HG := Lib.hid hlt
  have HHL := Lib.hid hH.lt
  clear hU hT hH hbU hk0 hr hlt
  go_enter Try.func52, Try.ntmps52
  go_upto_region 1 with (fail)
  rw [← HU.out]
  clear HU
  generalize hh2 : w.heap.size = h2 at HH HB HG HHL ⊢
  repeat (first | go_skip | go_guarded | go_step)
  refine (rNumber_any g A n c k 4294967295 bad bs U HT.out (HR.out.below (HB.out.mono (by have := HG.out; omega))) hc hm hk (by omega)).mono ?_
  rintro e V ⟨v, k1, b1, rfl, hT, hk1, ht, ha⟩
  have hv := ha.most
  have HA1 := Lib.hid (ha.weak.map UInt32.ofNat)
  have HH := Lib.hid (ht.bk HH.out (fun e => by have := HG.out; omega))
  have HR := Lib.hid (ht.rd (HR.out.below (HB.out.mono (by have := HG.out; omega))) (by have := HHL.out; have := HG.out; omega) (fun k hk e => by omega))
  have HWV := Lib.hid ((Turn.ofBelow (G := fun i => i = g) (show Below w.heap.size w U by rw [hh2]; exact HB.out)).trans ht)
  have HT := Lib.hid hT
  have HVS := Lib.hid (show h2 < V.heap.size from HH.out.lt)
  have e7 : IntKind.u32.wrap (v : Int) = (v : Int) := by rw [IntKind.wrap_u32] <;> omega
  clear hT ht ha HB HHL
  dsimp only
  go_upto_region 2 with (fail)
  obtain ⟨p, hp⟩ : ∃ p, p = UInt32.ofNat v := ⟨_, rfl⟩
  have hnv : Value.int .u32 (v : Int) = nv p := by
    rw [hp]; unfold nv
    rw [toNat32 hv]
  obtain ⟨Z, hZ, hZa, hZw⟩ : ∃ Z, Z = V.alloc (.cells #[.int .u32 (v : Int), .slice none 0 0] 42) ∧ Bk Z V.heap.size 42 [.int .u32 (v : Int), .slice none 0 0] ∧ Below V.heap.size V Z := ⟨_, rfl, Bk.new V _ _, (Below.refl _ _).alloc (Nat.le_refl _) _⟩
  rw [← hZ]
  clear hZ
  rw [hnv] at hZa
  have HZA := Lib.hid hZa
  have HT := Lib.hid (Bk.later HT.out hZw)
  have HH := Lib.hid (HH.out.later hZw)
  have HGV := Lib.hid (show g < V.heap.size by have := HG.out; have := HVS.out; omega)
  have HR := Lib.hid (HR.out.below (hZw.mono (Nat.le_of_lt HGV.out)))
  have HWZ := Lib.hid (HWV.out.trans (Turn.ofBelow (G := fun i => i = g) hZw))
  have HAZ := Lib.hid hZa.lt
  rw [← hp] at HA1
  clear hZa hZw hnv hp hv e7 HWV
  generalize V.heap.size = a at HZA HGV HVS HAZ ⊢
  repeat (first | go_skip | go_guarded | go_step)
  refine (rOctet_any g A n c k1 6 b1 bs Z HT.out HR.out hc hm hk1).mono ?_
  rintro e Y ⟨N, k2, b2, rfl, hT, hk2, ht, ha⟩
  have hN := ha.mostB
  have HA2 := Lib.hid ha.weak
  have HZA := Lib.hid (ht.bk HZA.out (fun e => by have := HGV.out; omega))
  have HH := Lib.hid (ht.bk HH.out (fun e => by have := HG.out; omega))
  have HR := Lib.hid (ht.rd HR.out (by have := HGV.out; have := HAZ.out; omega) (fun k hk e => by omega))
  have HWY := Lib.hid (HWZ.out.trans ht)
  have HT := Lib.hid hT
  have HYS := Lib.hid (show a < Y.heap.size from HZA.out.lt)
  clear hT ht ha HWZ HAZ
  dsimp only
  repeat (first | go_skip | go_guarded | go_step)
  go_loopw [5] (fun p' wr => ∃ (i : Nat) (A' : Option Addr) (c' : Nat) (L : List Tm) (k3 : Nat) (b3 : Bool), i ≤ N ∧ p' = .int .i64 (i : Int) ∧ Bk wr a 42 [nv p, .slice A' i c'] ∧ OwT wr Y.heap.size A' c' i L ∧ Tk wr g A n c k3 b3 ∧ k3 ≤ n ∧ Bk wr h2 42 [.int .u32 0, .slice none 0 0] ∧ Turn (fun i => i = g ∨ i = a) Y wr ∧ AfterW ((rest bs k2 b2).bind (rMany rTerm i)) bs k3 b3 L) (fun p _ => N - (intOf p).toNat)
  case atStart => exact ⟨0, none, 0, [], k2, b2, Nat.zero_le _, rfl, HZA.out, World.ownsRow_nil _ _ _ _, HT.out, hk2, HH.out, Turn.refl _ _, AfterW.none0 rfl⟩
  case round =>
    obtain ⟨i, A', c', L, k3, b3, hi, rfl, hba, ho, hT3, hk3, hbh, htu, haf⟩ := hrel
    have hys := htu.size
    by_cases hlt : i < N
    · have hci : (i : Int) < (N : Int) := by omega
      have HBA := Lib.hid hba
      have HO := Lib.hid ho
      have HT3 := Lib.hid hT3
      have HBH := Lib.hid hbh
      have HTU := Lib.hid htu
      have HAF := Lib.hid haf
      have hR3 := htu.rd HR.out (by have := HGV.out; have := HYS.out; omega) (fun k hk e => by have := HGV.out; omega)
      have HR3 := Lib.hid hR3
      clear hba ho hT3 hbh htu haf hR3
      repeat (first | go_skip | go_guarded | go_step)
      refine (rTerm_any g A n c k3 b3 bs wr HT3.out HR3.out hc hm hk3).mono ?_
      rintro e V1 ⟨x, k4, b4, rfl, hT4, hk4, ht4, ha4⟩
      have HA4 := Lib.hid ha4.weak
      have HT4 := Lib.hid hT4
      have HU4 := Lib.hid ht4
      clear hT4 ht4 ha4
      dsimp only
      go_upto_region 7 with (fail)
      obtain ⟨Z7, hZ7, hX, hZw⟩ : ∃ Z7, Z7 = V1.alloc (.cells #[.bool x.1, nv x.2] 54) ∧ Bk Z7 V1.heap.size 54 [.bool x.1, nv x.2] ∧ Below V1.heap.size V1 Z7 := ⟨_, rfl, Bk.new V1 _ _, (Below.refl _ _).alloc (Nat.le_refl _) _⟩
      rw [← hZ7]
      clear hZ7
      have hs1 := HU4.out.size
      have hs7 := hZw.size
      have hga := HGV.out
      have hay := HYS.out
      have HBA7 := Lib.hid ((HU4.out.bk HBA.out (fun e => by omega)).later hZw)
      have HBH7 := Lib.hid ((HU4.out.bk HBH.out (fun e => by have := HG.out; omega)).later hZw)
      have HT7 := Lib.hid (Bk.later HT4.out hZw)
      have HO7 := Lib.hid (ownBelow (HU4.out.own HO.out (fun k hk e => by have := (World.ownsRow.lt HO.out k hk).1; omega)) hZw (Nat.le_refl _))
      have HT17 := Lib.hid ((HTU.out.then_ HU4.out (fun k _ h => Or.inl h)).then_ (Turn.ofBelow (G := fun _ => False) hZw) (fun _ _ h => h.elim))
      have hy7 : Y.heap.size ≤ Z7.heap.size := by omega
      have x0 := hX.cell 0
      have x1 := hX.cell 1
      have r1 := HBA7.out.cell 1
      have hl7 := run_litW1 x Z7
      clear hX hZw hs1 hs7
      generalize V1.heap.size = tt at x0 x1 ⊢
      repeat (first
        | (at_builtin; refine appT _ rfl (.tmp 21) (.tmp 23) rfl Y.heap.size A' c' i L rfl (World.ownsRow.alloc HO7.out _) _ _ 1 1 [x] rfl (litW_rd Z7 [x] 1 rfl) (by omega) (by simp; omega) ?_
           intro A6 c6 V6 ho6 hb6
           have hb7 := (Below.alloc (Below.refl Y.heap.size Z7) hy7 _).trans hb6
           have hb6a := Bk.below HBA7.out hb7 (by omega)
           have rc1 := hb6a.readT (Below.refl _ _) 1 rfl
           have rf1 := hb6a.frozen 1
           have HB6 := Lib.hid hb6a
           have HO6 := Lib.hid ho6
           have HB7 := Lib.hid hb7
           clear hl7 x0 x1 r1 hb6 hb7 hb6a ho6)
        | go_skip | go_guarded | go_step)
      go_roundw
      case rel => exact ⟨i + 1, A6, c6, L ++ [x], k4, b4, by omega, by go_num, HB6.out.set_ 1 (.slice A6 (i + 1) c6), (tkTurn V6 a 1 _).own HO6.out (fun k hk e => by have := (World.ownsRow.lt HO6.out k hk).1; omega), Bk.far (Bk.below HT7.out HB7.out (by omega)) (show g ≠ a by omega) _, hk4, Bk.far (Bk.below HBH7.out HB7.out (by have := HVS.out; omega)) (show h2 ≠ a by have := HVS.out; omega) _, (HT17.out.then_ (Turn.ofBelowB (G := fun k => Y.heap.size ≤ k) HB7.out (fun k h _ => h)) (fun k hk h => absurd hk (by omega))).then_ (tkTurn V6 a 1 _) (fun k _ h => Or.inr h), AfterW.snoc HAF.out HA4.out⟩
      case measure => simp [intOf] <;> omega
    · obtain rfl : i = N := by omega
      have HBA := Lib.hid hba
      have HO := Lib.hid ho
      have HT3 := Lib.hid hT3
      have HBH := Lib.hid hbh
      have HTU := Lib.hid htu
      have HAF := Lib.hid haf
      have r0 := hba.cell 0
      have r1 := hba.cell 1
      have g0 := hbh.cell 0
      have g1 := hbh.cell 1
      have gf0 := hbh.frozen 0
      have gf1 := hbh.frozen 1
      clear hba ho hT3 hbh htu haf
      repeat (first | go_skip | go_guarded | go_step)
      refine bodyPost_ret (v := .agg #[nv p, .slice A' i c']) ?_ rfl ⟨p, A', i, c', L, k3, b3, rfl, ?_, hN, ?_, hk3, ?_, AfterW.seq (p := rU32) HA1.out (AfterW.row HA2.out HAF.out)⟩
      · have hq := (HBH.out.set_ 0 (nv p)).set_ 1 (.slice A' i c')
        have q0 := hq.cell 0
        have q1 := hq.cell 1
        simp only [List.set_cons_zero, List.set_cons_succ, List.getElem?_cons_zero, List.getElem?_cons_succ] at q0 q1
        simp [results, Try.results52, go_sem, q0, q1]
      · exact ownLower (((tkTurn wr h2 0 _).trans (tkTurn _ h2 1 _)).own HO.out (fun k hk e => by have := (World.ownsRow.lt HO.out k hk).1; have := HVS.out; have := HYS.out; omega)) (by have := HVS.out; have := HYS.out; omega)
      · exact Bk.far (Bk.far HT3.out (show g ≠ h2 by have := HG.out; omega) _) (show g ≠ h2 by have := HG.out; omega) _
      · exact (HWY.out.then_ HTU.out (fun k hk h => h.elim id (fun e => absurd hk (by have := HVS.out; omega)))).then_ ((tkTurn wr h2 0 _).trans (tkTurn _ h2 1 _)) (fun k hk e => absurd hk (by omega))
end Go.Proofs.Ytcoafgnbmgndeaa
