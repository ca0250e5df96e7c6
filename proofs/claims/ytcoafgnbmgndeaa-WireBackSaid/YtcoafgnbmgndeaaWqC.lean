/- Layer 6 (wire), the program's reader: a number, is it so, a term. -/
import Derived.Test.YtcoafgnbmgndeaaWqB
set_option linter.unusedVariables false
set_option linter.unusedSimpArgs false
namespace Go.Proofs.Ytcoafgnbmgndeaa
open Go Go.RowKit

set_option maxRecDepth 100000 in
set_option maxHeartbeats 4000000 in
theorem number_any (g : Nat) (A : Option Addr) (n c : Nat) (t : Int) (bs : List UInt8) (w : World) (hk0 : Rg w g A n c t 0) (hr : Rd w g 1 A n (bs.map bv)) (hc : n ≤ c) (hm : n ≤ 140737488355328) :
    Calls Try.prog 68 #[.pointer (some ⟨g, 0, none⟩)] w fun e w' => Ends rU32 g A n c bs t (fun x u _ => u = nv x) w e w' := by
  have HK := Lib.hid hk0
  have HR := Lib.hid hr
  clear hk0 hr
  go_enter Try.func68, Try.ntmps68
  repeat (first | go_skip | go_guarded | go_step)
  refine (long_any g A n c t bs w HK.out HR.out hc hm).mono ?_
  rintro e w1 ⟨ht, ⟨v, k, _, rfl, rfl, hgot, hg⟩ | ⟨z, t', rfl, hno, hg⟩⟩
  · have hv := hgot.mostN
    have HT := Lib.hid ht
    have HG := Lib.hid hg
    have HO := Lib.hid hgot
    clear ht hg hgot
    dsimp only
    repeat (first | go_skip | go_guarded | go_step)
    refine (short_any g A n c v k w1 HG.out (by omega)).mono ?_
    rintro e w2 ⟨ht2, ⟨hle, rfl, hg2⟩ | ⟨hlt, rfl, hg2⟩⟩
    · have HT2 := Lib.hid (HT.out.trans ht2)
      have HG2 := Lib.hid hg2
      clear ht2 hg2
      dsimp only
      repeat (first | go_skip | go_guarded | go_step)
      go_ret
      exact ⟨HT2.out, .inl ⟨UInt32.ofNat v, k, _, rfl, rfl, (HO.out.num hle).map _, HG2.out⟩⟩
    · exact ⟨rfl, HT.out.trans ht2, .inr ⟨5, k, rfl, (HO.out.numOver hlt).map _, hg2⟩⟩
  · exact ⟨rfl, ht, .inr ⟨z, t', rfl, (hno.num (by omega)).map _, hg⟩⟩

set_option maxRecDepth 100000 in
set_option maxHeartbeats 4000000 in
theorem so_any (g : Nat) (A : Option Addr) (n c : Nat) (t : Int) (bs : List UInt8) (w : World) (hk0 : Rg w g A n c t 0) (hr : Rd w g 1 A n (bs.map bv)) (hc : n ≤ c) (hm : n ≤ 140737488355328) :
    Calls Try.prog 101 #[.pointer (some ⟨g, 0, none⟩)] w fun e w' => Ends rBit g A n c bs t (fun x u _ => u = .bool x) w e w' := by
  have HK := Lib.hid hk0
  have HR := Lib.hid hr
  clear hk0 hr
  go_enter Try.func101, Try.ntmps101
  repeat (first | go_skip | go_guarded | go_step)
  refine (single_any g A n c t bs w HK.out HR.out hc hm).mono ?_
  rintro e w1 ⟨ht, ⟨v, k, _, rfl, rfl, hgot, hg⟩ | ⟨z, t', rfl, hno, hg⟩⟩
  · have hv := hgot.mostB
    have HT := Lib.hid ht
    have HG := Lib.hid hg
    have HO := Lib.hid hgot
    clear ht hg hgot
    dsimp only
    by_cases hle : v ≤ 1
    · have hd : decide ((1 : Int) < (v : Int)) = false := by simp; omega
      have he : ((v : Int) == 1) = (v == 1) := by
        rw [Bool.eq_iff_iff, beq_iff_eq, beq_iff_eq]
        omega
      repeat (first | go_skip | go_guarded | go_step)
      go_ret
      exact ⟨HT.out, .inl ⟨v == 1, k, _, rfl, rfl, (HO.out.byte hle).map _, HG.out⟩⟩
    · have hd : decide ((1 : Int) < (v : Int)) = true := by simp; omega
      repeat (first | go_skip | go_guarded | go_step)
      refine (end_any g A n c 0 5 k w1 HG.out).mono ?_
      rintro e w2 ⟨rfl, hg2, ht2⟩
      exact ⟨rfl, HT.out.trans ht2, .inr ⟨5, k, rfl, (HO.out.byteOver (by omega)).map _, hg2⟩⟩
  · exact ⟨rfl, ht, .inr ⟨z, t', rfl, (hno.byte (by omega)).map _, hg⟩⟩

set_option maxRecDepth 100000 in
set_option maxHeartbeats 4000000 in
theorem term_any (g : Nat) (A : Option Addr) (n c : Nat) (t : Int) (bs : List UInt8) (w : World) (hk0 : Rg w g A n c t 0) (hr : Rd w g 1 A n (bs.map bv)) (hc : n ≤ c) (hm : n ≤ 140737488355328) :
    Calls Try.prog 100 #[.pointer (some ⟨g, 0, none⟩)] w fun e w' => Ends rTerm g A n c bs t (fun x u _ => u = tmW x) w e w' := by
  have hlt : g < w.heap.size := Bk.lt hk0
  obtain ⟨U, hU, hK, hH, hbU⟩ : ∃ U, U = w.alloc (.cells #[.bool false, .int .u32 0] 54) ∧ Rg U g A n c t 0 ∧ Bk U w.heap.size 54 [.bool false, .int .u32 0] ∧ Below w.heap.size w U :=
    ⟨_, rfl, Bk.alloc hk0 _, Bk.new w _ _, (Below.refl _ _).alloc (Nat.le_refl _) _⟩
  have HU := Lib.hid hU
  have HK := Lib.hid hK
  have HH := Lib.hid hH
  have HB := Lib.hid hbU
  have HR := Lib.hid (hr.below (hbU.mono (Nat.le_of_lt hlt)))
  have HG0 := Lib.hid hlt
  clear hU hK hH hbU hr hk0 hlt
  go_enter Try.func100, Try.ntmps100
  go_upto_region 1 with (fail)
  rw [← HU.out]
  clear HU
  generalize hh2 : w.heap.size = h2 at HH HB HG0 ⊢
  repeat (first | go_skip | go_guarded | go_step)
  refine (long_any g A n c t bs U HK.out HR.out hc hm).mono ?_
  have HWU := Lib.hid (Turn.ofBelow (G := fun i => i = g) (show Below w.heap.size w U by rw [hh2]; exact HB.out))
  rintro e w1 ⟨ht, ⟨v, k, _, rfl, rfl, hgot, hg⟩ | ⟨z, t', rfl, hno, hg⟩⟩
  · have hv := hgot.mostN
    have HH := Lib.hid (ht.bk HH.out (fun e => by have := HG0.out; omega))
    have HT := Lib.hid (HWU.out.trans ht)
    have HG := Lib.hid hg
    have HO := Lib.hid hgot
    clear ht hg hgot
    dsimp only
    repeat (first | go_skip | go_guarded | go_step)
    refine (short_any g A n c (v / 2) k w1 HG.out (by omega)).mono ?_
    rintro e w2 ⟨ht2, ⟨hle, rfl, hg2⟩ | ⟨hlt, rfl, hg2⟩⟩
    · have hh := ht2.bk HH.out (fun e => by have := HG0.out; omega)
      have r0 := hh.readT (Below.refl _ _) 0 rfl
      have r1 := hh.readT (Below.refl _ _) 1 rfl
      have f0 := hh.frozen 0
      have f1 := hh.frozen 1
      have HH2 := Lib.hid hh
      have HT2 := Lib.hid (HT.out.trans ht2)
      have HG2 := Lib.hid hg2
      obtain ⟨p, hp⟩ : ∃ p, p = UInt32.ofNat (v / 2) := ⟨_, rfl⟩
      obtain ⟨b, hb⟩ : ∃ b, b = (v % 2 == 1) := ⟨_, rfl⟩
      have hbb : (((v : Int) % 2) == 1) = b := by
        rw [hb, Bool.eq_iff_iff, beq_iff_eq, beq_iff_eq]
        omega
      rw [← hp]
      have HTO := Lib.hid (show termOf v = (b, p) by unfold termOf; rw [hb, hp])
      clear ht2 hg2 hh hp hb
      dsimp only
      repeat (first | go_skip | go_guarded | go_step)
      refine bodyPost_ret (v := tmW (b, p)) ?_ rfl ⟨(HT2.out.setCell (p := ⟨h2, 0, none⟩) (fun h => absurd (show h2 < w.heap.size from h) (by omega)) _).setCell (p := ⟨h2, 1, none⟩) (fun h => absurd (show h2 < w.heap.size from h) (by omega)) _, .inl ⟨termOf v, k, _, rfl, by rw [HTO.out], (HO.out.num (by omega)).map _, Bk.far (Bk.far HG2.out (show g ≠ h2 by have := HG0.out; omega) _) (show g ≠ h2 by have := HG0.out; omega) _⟩⟩
      have hq := (HH2.out.set_ 0 (.bool b)).set_ 1 (nv p)
      have q0 := hq.readT (Below.refl _ _) 0 rfl
      have q1 := hq.readT (Below.refl _ _) 1 rfl
      simp [results, Try.results100, go_sem, q0, q1]
    · exact ⟨rfl, HT.out.trans ht2, .inr ⟨5, k, rfl, (HO.out.numOver (by omega)).map _, hg2⟩⟩
  · exact ⟨rfl, HWU.out.trans ht, .inr ⟨z, t', rfl, (hno.num (by omega)).map _, hg⟩⟩
end Go.Proofs.Ytcoafgnbmgndeaa
