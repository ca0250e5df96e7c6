/- Layer 6 (wire), the program's reader: an atom, a fact. -/
import Derived.Test.YtcoafgnbmgndeaaWqD
set_option linter.unusedVariables false
set_option linter.unusedSimpArgs false
namespace Go.Proofs.Ytcoafgnbmgndeaa
open Go Go.RowKit

/-- What the program reads: a row may have any number of things. -/
def uFact : Rdr Fa := rSeq rU32 (rRow 255 rU32)
def uAtom : Rdr AtL := rSeq rU32 (rRow 255 rTerm)

set_option maxRecDepth 100000 in
set_option maxHeartbeats 4000000 in
theorem fact_any (g : Nat) (A : Option Addr) (n c : Nat) (t : Int) (bs : List UInt8) (w : World) (hk0 : Rg w g A n c t 0) (hr : Rd w g 1 A n (bs.map bv)) (hc : n ≤ c) (hm : n ≤ 140737488355328) :
    Calls Try.prog 38 #[.pointer (some ⟨g, 0, none⟩)] w fun e w' => Ends uFact g A n c bs t (fun x u W => ∃ A' m c', u = .agg #[nv x.1, .slice A' m c'] ∧ OwU W w.heap.size A' c' m x.2) w e w' := by
  have hmf : ∀ (fn : Fn) (first cap : Array Value) (w : World), (Instr.makeFunc fn first cap).run Try.prog w = .ok (.func fn first cap) w := fun _ _ _ _ => rfl
  have hlt : g < w.heap.size := Bk.lt hk0
  obtain ⟨U, hU, hK, hH, hbU⟩ : ∃ U, U = w.alloc (.cells #[.int .u32 0, .slice none 0 0] 26) ∧ Rg U g A n c t 0 ∧ Bk U w.heap.size 26 [.int .u32 0, .slice none 0 0] ∧ Below w.heap.size w U :=
    ⟨_, rfl, Bk.alloc hk0 _, Bk.new w _ _, (Below.refl _ _).alloc (Nat.le_refl _) _⟩
  have HU := Lib.hid hU
  have HK := Lib.hid hK
  have HH := Lib.hid hH
  have HB := Lib.hid hbU
  have HR := Lib.hid (hr.below (hbU.mono (Nat.le_of_lt hlt)))
  have HG0 := Lib.hid hlt
  clear hU hK hH hbU hr hk0 hlt
  go_enter Try.func38, Try.ntmps38
  go_upto_region 1 with (fail)
  rw [← HU.out]
  clear HU
  generalize hh2 : w.heap.size = h2 at HH HB HG0 ⊢
  have HWU := Lib.hid (Turn.ofBelow (G := fun i => i = g) (show Below w.heap.size w U by rw [hh2]; exact HB.out))
  repeat (first | go_skip | go_guarded | go_step)
  refine (number_any g A n c t bs U HK.out HR.out hc hm).mono ?_
  rintro e w1 ⟨ht, ⟨p, k, _, rfl, rfl, hgot, hg⟩ | ⟨z, t', rfl, hno, hg⟩⟩
  · have HH1 := Lib.hid (ht.bk HH.out (fun e => by have := HG0.out; omega))
    have HT := Lib.hid (HWU.out.trans ht)
    have HR1 := Lib.hid (ht.rd HR.out (by have := HH.out.lt; have := HG0.out; omega) (fun k hk e => by omega))
    have HG := Lib.hid hg
    have HO := Lib.hid hgot
    clear ht hg hgot
    dsimp only
    repeat (first | go_skip | go_guarded | go_step)
    refine (takeListU_any g A n c k bs w1 HG.out HR1.out hc hm).mono ?_
    rintro e w2 ⟨ht2, ⟨l, k2, _, rfl, ⟨A', m, c', rfl, ho⟩, hgot2, hg2⟩ | ⟨z, t', rfl, hno, hg2⟩⟩
    · have hh := ht2.bk HH1.out (fun e => by have := HG0.out; omega)
      have r0 := hh.readT (Below.refl _ _) 0 rfl
      have r1 := hh.readT (Below.refl _ _) 1 rfl
      have f0 := hh.frozen 0
      have f1 := hh.frozen 1
      have HH2 := Lib.hid hh
      have HT2 := Lib.hid (HT.out.trans ht2)
      have HG2 := Lib.hid hg2
      have HO2 := Lib.hid ho
      have HGO := Lib.hid (hgot2)
      have HS1 := Lib.hid HH1.out.lt
      clear ht2 hg2 hh ho hgot2
      dsimp only
      repeat (first | go_skip | go_guarded | go_step)
      refine bodyPost_ret (v := .agg #[nv p, .slice A' m c']) ?_ rfl ⟨(HT2.out.setCell (p := ⟨h2, 0, none⟩) (fun h => absurd (show h2 < w.heap.size from h) (by omega)) _).setCell (p := ⟨h2, 1, none⟩) (fun h => absurd (show h2 < w.heap.size from h) (by omega)) _, .inl ⟨(p, l), k2, _, rfl, ⟨A', m, c', rfl, ?_⟩, HO.out.seq HGO.out, Bk.far (Bk.far HG2.out (show g ≠ h2 by have := HG0.out; omega) _) (show g ≠ h2 by have := HG0.out; omega) _⟩⟩
      · have hq := (HH2.out.set_ 0 (nv p)).set_ 1 (.slice A' m c')
        have q0 := hq.readT (Below.refl _ _) 0 rfl
        have q1 := hq.readT (Below.refl _ _) 1 rfl
        simp [results, Try.results38, go_sem, q0, q1]
      · exact ownLower (((tkTurn w2 h2 0 _).trans (tkTurn _ h2 1 _)).own HO2.out (fun k hk e => by have := (World.ownsRow.lt HO2.out k hk).1; have := HS1.out; omega)) (by have := HS1.out; omega)
    · exact ⟨rfl, HT.out.trans ht2, .inr ⟨z, t', rfl, HO.out.nope2 hno, hg2⟩⟩
  · exact ⟨rfl, HWU.out.trans ht, .inr ⟨z, t', rfl, hno.seq1, hg⟩⟩

set_option maxRecDepth 100000 in
set_option maxHeartbeats 4000000 in
theorem atom_any (g : Nat) (A : Option Addr) (n c : Nat) (t : Int) (bs : List UInt8) (w : World) (hk0 : Rg w g A n c t 0) (hr : Rd w g 1 A n (bs.map bv)) (hc : n ≤ c) (hm : n ≤ 140737488355328) :
    Calls Try.prog 77 #[.pointer (some ⟨g, 0, none⟩)] w fun e w' => Ends uAtom g A n c bs t (fun x u W => ∃ A' m c', u = .agg #[nv x.1, .slice A' m c'] ∧ OwT W w.heap.size A' c' m x.2) w e w' := by
  have hmf : ∀ (fn : Fn) (first cap : Array Value) (w : World), (Instr.makeFunc fn first cap).run Try.prog w = .ok (.func fn first cap) w := fun _ _ _ _ => rfl
  have hlt : g < w.heap.size := Bk.lt hk0
  obtain ⟨U, hU, hK, hH, hbU⟩ : ∃ U, U = w.alloc (.cells #[.int .u32 0, .slice none 0 0] 42) ∧ Rg U g A n c t 0 ∧ Bk U w.heap.size 42 [.int .u32 0, .slice none 0 0] ∧ Below w.heap.size w U :=
    ⟨_, rfl, Bk.alloc hk0 _, Bk.new w _ _, (Below.refl _ _).alloc (Nat.le_refl _) _⟩
  have HU := Lib.hid hU
  have HK := Lib.hid hK
  have HH := Lib.hid hH
  have HB := Lib.hid hbU
  have HR := Lib.hid (hr.below (hbU.mono (Nat.le_of_lt hlt)))
  have HG0 := Lib.hid hlt
  clear hU hK hH hbU hr hk0 hlt
  go_enter Try.func77, Try.ntmps77
  go_upto_region 1 with (fail)
  rw [← HU.out]
  clear HU
  generalize hh2 : w.heap.size = h2 at HH HB HG0 ⊢
  have HWU := Lib.hid (Turn.ofBelow (G := fun i => i = g) (show Below w.heap.size w U by rw [hh2]; exact HB.out))
  repeat (first | go_skip | go_guarded | go_step)
  refine (number_any g A n c t bs U HK.out HR.out hc hm).mono ?_
  rintro e w1 ⟨ht, ⟨p, k, _, rfl, rfl, hgot, hg⟩ | ⟨z, t', rfl, hno, hg⟩⟩
  · have HH1 := Lib.hid (ht.bk HH.out (fun e => by have := HG0.out; omega))
    have HT := Lib.hid (HWU.out.trans ht)
    have HR1 := Lib.hid (ht.rd HR.out (by have := HH.out.lt; have := HG0.out; omega) (fun k hk e => by omega))
    have HG := Lib.hid hg
    have HO := Lib.hid hgot
    clear ht hg hgot
    dsimp only
    repeat (first | go_skip | go_guarded | go_step)
    refine (takeListT_any g A n c k bs w1 HG.out HR1.out hc hm).mono ?_
    rintro e w2 ⟨ht2, ⟨l, k2, _, rfl, ⟨A', m, c', rfl, ho⟩, hgot2, hg2⟩ | ⟨z, t', rfl, hno, hg2⟩⟩
    · have hh := ht2.bk HH1.out (fun e => by have := HG0.out; omega)
      have r0 := hh.readT (Below.refl _ _) 0 rfl
      have r1 := hh.readT (Below.refl _ _) 1 rfl
      have f0 := hh.frozen 0
      have f1 := hh.frozen 1
      have HH2 := Lib.hid hh
      have HT2 := Lib.hid (HT.out.trans ht2)
      have HG2 := Lib.hid hg2
      have HO2 := Lib.hid ho
      have HGO := Lib.hid (hgot2)
      have HS1 := Lib.hid HH1.out.lt
      clear ht2 hg2 hh ho hgot2
      dsimp only
      repeat (first | go_skip | go_guarded | go_step)
      refine bodyPost_ret (v := .agg #[nv p, .slice A' m c']) ?_ rfl ⟨(HT2.out.setCell (p := ⟨h2, 0, none⟩) (fun h => absurd (show h2 < w.heap.size from h) (by omega)) _).setCell (p := ⟨h2, 1, none⟩) (fun h => absurd (show h2 < w.heap.size from h) (by omega)) _, .inl ⟨(p, l), k2, _, rfl, ⟨A', m, c', rfl, ?_⟩, HO.out.seq HGO.out, Bk.far (Bk.far HG2.out (show g ≠ h2 by have := HG0.out; omega) _) (show g ≠ h2 by have := HG0.out; omega) _⟩⟩
      · have hq := (HH2.out.set_ 0 (nv p)).set_ 1 (.slice A' m c')
        have q0 := hq.readT (Below.refl _ _) 0 rfl
        have q1 := hq.readT (Below.refl _ _) 1 rfl
        simp [results, Try.results77, go_sem, q0, q1]
      · exact ownLower (((tkTurn w2 h2 0 _).trans (tkTurn _ h2 1 _)).own HO2.out (fun k hk e => by have := (World.ownsRow.lt HO2.out k hk).1; have := HS1.out; omega)) (by have := HS1.out; omega)
    · exact ⟨rfl, HT.out.trans ht2, .inr ⟨z, t', rfl, HO.out.nope2 hno, hg2⟩⟩
  · exact ⟨rfl, HWU.out.trans ht, .inr ⟨z, t', rfl, hno.seq1, hg⟩⟩
end Go.Proofs.Ytcoafgnbmgndeaa
