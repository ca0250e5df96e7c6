/- Layer 6 (wire), the program's reader: who says what; conditions. -/
import Derived.Test.YtcoafgnbmgndeaaWqE
set_option linter.unusedVariables false
set_option linter.unusedSimpArgs false
namespace Go.Proofs.Ytcoafgnbmgndeaa
open Go Go.RowKit

/-- One, and another one that hangs on it. -/
def rBind {α β : Type} (p : Rdr α) (q : α → Rdr β) : Rdr (α × β) := fun l =>
  match p l with
  | none => none
  | some (x, r) => match q x r with
    | none => none
    | some (y, s) => some ((x, y), s)
section
variable {α β : Type} {p : Rdr α} {q : α → Rdr β} {bs : List UInt8} {t : Int} {x : α} {y : β} {k k2 z : Nat}
theorem Got.bind (h : Got p bs t x k) (h2 : Got (q x) bs k y k2) : Got (rBind p q) bs t (x, y) k2 := by
  refine ⟨h.1, h.2.1, h2.2.2.1, ?_⟩
  have h3 := h2.2.2.2
  rw [Int.toNat_natCast] at h3
  unfold rBind
  rw [h.2.2.2]
  dsimp only
  rw [h3]
theorem Nope.bind1 (h : Nope p bs t z) : Nope (rBind p q) bs t z := by
  rcases h with h | ⟨h1, h2, h3, h4⟩
  · exact .inl h
  · refine .inr ⟨h1, h2, ?_, h4⟩
    unfold rBind
    rw [h3]
theorem Got.nopeB (h : Got p bs t x k) (h2 : Nope (q x) bs k z) : Nope (rBind p q) bs t z := by
  obtain ⟨h3, h4⟩ := h2.five h.pos
  refine .inr ⟨h.1, h.2.1, ?_, h4⟩
  unfold rBind
  rw [h.2.2.2]
  dsimp only
  rw [h3]
theorem Got.who0 (h : Got p bs t x k) : Got (rWho false) bs k (false, 0) k := ⟨by omega, by have := h.pos; omega, h.pos, by rw [Int.toNat_natCast]; rfl⟩
end
def uLit : Rdr Li := rSeq rBit uAtom
def uSay : Rdr Sy := rBind rBit fun b => rSeq (rWho b) uAtom
def uCond : Rdr Co := rSeq rBit uSay

set_option maxRecDepth 100000 in
set_option maxHeartbeats 4000000 in
theorem say_any (g : Nat) (A : Option Addr) (n c : Nat) (t : Int) (bs : List UInt8) (w : World) (hk0 : Rg w g A n c t 0) (hr : Rd w g 1 A n (bs.map bv)) (hc : n ≤ c) (hm : n ≤ 140737488355328) :
    Calls Try.prog 87 #[.pointer (some ⟨g, 0, none⟩)] w fun e w' => Ends uSay g A n c bs t (fun x u W => ∃ A' m c', u = .agg #[.bool x.1, .bool x.2.1.1, nv x.2.1.2, nv x.2.2.1, .slice A' m c'] ∧ OwT W w.heap.size A' c' m x.2.2.2) w e w' := by
  have hlt : g < w.heap.size := Bk.lt hk0
  obtain ⟨U, hU, hK, hH, hbU⟩ : ∃ U, U = w.alloc (.cells #[.bool false, .bool false, .int .u32 0, .int .u32 0, .slice none 0 0] 56) ∧ Rg U g A n c t 0 ∧ Bk U w.heap.size 56 [.bool false, .bool false, .int .u32 0, .int .u32 0, .slice none 0 0] ∧ Below w.heap.size w U :=
    ⟨_, rfl, Bk.alloc hk0 _, Bk.new w _ _, (Below.refl _ _).alloc (Nat.le_refl _) _⟩
  have HU := Lib.hid hU
  have HK := Lib.hid hK
  have HH := Lib.hid hH
  have HB := Lib.hid hbU
  have HR := Lib.hid (hr.below (hbU.mono (Nat.le_of_lt hlt)))
  have HG0 := Lib.hid hlt
  clear hU hK hH hbU hr hk0 hlt
  go_enter Try.func87, Try.ntmps87
  go_upto_region 1 with (fail)
  rw [← HU.out]
  clear HU
  generalize hh2 : w.heap.size = h2 at HH HB HG0 ⊢
  have HWU := Lib.hid (Turn.ofBelow (G := fun i => i = g) (show Below w.heap.size w U by rw [hh2]; exact HB.out))
  repeat (first | go_skip | go_guarded | go_step)
  refine (so_any g A n c t bs U HK.out HR.out hc hm).mono ?_
  rintro e w1 ⟨ht, ⟨b, k, _, rfl, rfl, hgot, hg⟩ | ⟨z, t', rfl, hno, hg⟩⟩
  · have HH1 := Lib.hid (ht.bk HH.out (fun e => by have := HG0.out; omega))
    have HT := Lib.hid (HWU.out.trans ht)
    have HR1 := Lib.hid (ht.rd HR.out (by have := HH.out.lt; have := HG0.out; omega) (fun k hk e => by omega))
    have HG := Lib.hid hg
    have HO := Lib.hid hgot
    clear ht hg hgot
    dsimp only
    go_upto_region 2 with (fail)
    obtain ⟨Z, hZ, hZa, hZw⟩ : ∃ Z, Z = w1.alloc (.cells #[.bool b, .bool false, .int .u32 0, .int .u32 0, .slice none 0 0] 56) ∧ Bk Z w1.heap.size 56 [.bool b, .bool false, .int .u32 0, .int .u32 0, .slice none 0 0] ∧ Below w1.heap.size w1 Z := ⟨_, rfl, Bk.new w1 _ _, (Below.refl _ _).alloc (Nat.le_refl _) _⟩
    rw [← hZ]
    clear hZ
    have HAH := Lib.hid (show h2 < w1.heap.size from HH1.out.lt)
    have HYA := Lib.hid hZa
    have HYH := Lib.hid (HH1.out.later hZw)
    have HYG := Lib.hid (Bk.later HG.out hZw)
    have HYR := Lib.hid (HR1.out.below (hZw.mono (by have := HAH.out; have := HG0.out; omega)))
    have HYT := Lib.hid (HT.out.trans (Turn.ofBelow (G := fun i => i = g) hZw))
    have z0 := hZa.readT (Below.refl _ _) 0 rfl
    clear hZa hZw
    generalize w1.heap.size = a at HAH HYA z0 ⊢
    cases b with
    | false =>
      have HW := Lib.hid (HO.out.who0)
      obtain ⟨k2, hk2⟩ : ∃ k2, k2 = k := ⟨_, rfl⟩
      rw [← hk2] at HYG
      have HW : Hid (Got (rWho false) bs k (false, 0) k2) := by rw [hk2]; exact HW
      clear hk2
      repeat (first | go_skip | go_guarded | go_step)
      repeat (first | go_skip | go_guarded | go_step)
      refine (atom_any g A n c k2 bs Z HYG.out HYR.out hc hm).mono ?_
      rintro e w4 ⟨ht4, ⟨⟨p, l⟩, k4, _, rfl, ⟨A', m, c', rfl, ho⟩, hgot4, hg4⟩ | ⟨z, t', rfl, hno, hg4⟩⟩
      · have HS4 := Lib.hid (show h2 < Z.heap.size ∧ a < Z.heap.size from ⟨HYH.out.lt, HYA.out.lt⟩)
        have ha4 := ht4.bk HYA.out (fun e => by have := HG0.out; have := HAH.out; omega)
        have hh4 := ht4.bk HYH.out (fun e => by have := HG0.out; omega)
        have r3 := ha4.readT (Below.refl _ _) 3 rfl
        have r4 := ha4.readT (Below.refl _ _) 4 rfl
        have f3 := ha4.frozen 3
        have f4 := ha4.frozen 4
        have HA4 := Lib.hid ha4
        have HH4 := Lib.hid hh4
        have HT4 := Lib.hid (HYT.out.trans ht4)
        have HG4 := Lib.hid hg4
        have HO4 := Lib.hid ho
        have HGO := Lib.hid hgot4
        clear ht4 ha4 hh4 hg4 ho hgot4
        dsimp only
        go_upto_region 5 with (fail)
        obtain ⟨V, hV, hva, hvh, hvg, hvt, hvo⟩ : ∃ V, V = (w4.setCell ⟨a, 3, none⟩ (nv p)).setCell ⟨a, 4, none⟩ (.slice A' m c') ∧ Bk V a 56 [.bool false, .bool false, .int .u32 0, nv p, .slice A' m c'] ∧ Bk V h2 56 [.bool false, .bool false, .int .u32 0, .int .u32 0, .slice none 0 0] ∧ Rg V g A n c k4 0 ∧ Turn (fun i => i = g) w V ∧ OwT V Z.heap.size A' c' m l :=
          ⟨_, rfl, (HA4.out.set_ 3 (nv p)).set_ 4 (.slice A' m c'), Bk.far (Bk.far HH4.out (show h2 ≠ a by have := HAH.out; omega) _) (show h2 ≠ a by have := HAH.out; omega) _, Bk.far (Bk.far HG4.out (show g ≠ a by have := HG0.out; have := HAH.out; omega) _) (show g ≠ a by have := HG0.out; have := HAH.out; omega) _,
            (HT4.out.setCell (p := ⟨a, 3, none⟩) (fun h => absurd (show a < w.heap.size from h) (by have := HAH.out; omega)) _).setCell (p := ⟨a, 4, none⟩) (fun h => absurd (show a < w.heap.size from h) (by have := HAH.out; omega)) _,
            ((tkTurn w4 a 3 _).trans (tkTurn _ a 4 _)).own HO4.out (fun k hk e => by have := (World.ownsRow.lt HO4.out k hk).1; have := HS4.out; omega)⟩
        rw [← hV]
        clear hV r3 r4 f3 f4
        have r0 := hva.readT (Below.refl _ _) 0 rfl
        have r1 := hva.readT (Below.refl _ _) 1 rfl
        have r2 := hva.readT (Below.refl _ _) 2 rfl
        have r3 := hva.readT (Below.refl _ _) 3 rfl
        have r4 := hva.readT (Below.refl _ _) 4 rfl
        have s0 := hvh.readT (Below.refl _ _) 0 rfl
        have f0 := hvh.frozen 0
        have s1 := hvh.readT (Below.refl _ _) 1 rfl
        have f1 := hvh.frozen 1
        have s2 := hvh.readT (Below.refl _ _) 2 rfl
        have f2 := hvh.frozen 2
        have s3 := hvh.readT (Below.refl _ _) 3 rfl
        have f3 := hvh.frozen 3
        have s4 := hvh.readT (Below.refl _ _) 4 rfl
        have f4 := hvh.frozen 4
        have HVH := Lib.hid hvh
        have HVG := Lib.hid hvg
        have HVT := Lib.hid hvt
        have HVO := Lib.hid hvo
        clear hva hvh hvg hvt hvo
        repeat (first | go_skip | go_guarded | go_step)
        refine bodyPost_ret (v := .agg #[.bool false, .bool false, .int .u32 0, nv p, (.slice A' m c')]) ?_ rfl ⟨(((((HVT.out.setCell (p := ⟨h2, 0, none⟩) (fun h => absurd (show h2 < w.heap.size from h) (by omega)) _).setCell (p := ⟨h2, 1, none⟩) (fun h => absurd (show h2 < w.heap.size from h) (by omega)) _).setCell (p := ⟨h2, 2, none⟩) (fun h => absurd (show h2 < w.heap.size from h) (by omega)) _).setCell (p := ⟨h2, 3, none⟩) (fun h => absurd (show h2 < w.heap.size from h) (by omega)) _).setCell (p := ⟨h2, 4, none⟩) (fun h => absurd (show h2 < w.heap.size from h) (by omega)) _), .inl ⟨(false, (false, 0), (p, l)), k4, _, rfl, ⟨A', m, c', rfl, ?_⟩, HO.out.bind (HW.out.seq HGO.out), Bk.far (Bk.far (Bk.far (Bk.far (Bk.far (HVG.out) (show g ≠ h2 by have := HG0.out; omega) _) (show g ≠ h2 by have := HG0.out; omega) _) (show g ≠ h2 by have := HG0.out; omega) _) (show g ≠ h2 by have := HG0.out; omega) _) (show g ≠ h2 by have := HG0.out; omega) _⟩⟩
        · have hq := (((((HVH.out.set_ 0 (.bool false)).set_ 1 (.bool false)).set_ 2 (.int .u32 0)).set_ 3 (nv p)).set_ 4 ((.slice A' m c')))
          have q0 := hq.readT (Below.refl _ _) 0 rfl
          have q1 := hq.readT (Below.refl _ _) 1 rfl
          have q2 := hq.readT (Below.refl _ _) 2 rfl
          have q3 := hq.readT (Below.refl _ _) 3 rfl
          have q4 := hq.readT (Below.refl _ _) 4 rfl
          simp [results, Try.results87, go_sem, q0, q1, q2, q3, q4]
        · exact ownLower ((((((tkTurn V h2 0 _).trans (tkTurn _ h2 1 _)).trans (tkTurn _ h2 2 _)).trans (tkTurn _ h2 3 _)).trans (tkTurn _ h2 4 _)).own HVO.out (fun k hk e => by have := (World.ownsRow.lt HVO.out k hk).1; have := HS4.out.1; omega)) (by have := HS4.out.1; omega)
      · exact ⟨rfl, HYT.out.trans ht4, .inr ⟨z, t', rfl, HO.out.nopeB (HW.out.nope2 hno), hg4⟩⟩
    | true =>
      repeat (first | go_skip | go_guarded | go_step)
      refine (term_any g A n c k bs Z HYG.out HYR.out hc hm).mono ?_
      rintro e w3 ⟨ht3, ⟨⟨x0, x1⟩, k2, _, rfl, rfl, hgot3, hg3⟩ | ⟨z, t', rfl, hno, hg3⟩⟩
      · have ha3 := ht3.bk HYA.out (fun e => by have := HG0.out; have := HAH.out; omega)
        have hh3 := ht3.bk HYH.out (fun e => by have := HG0.out; omega)
        have r1 := ha3.readT (Below.refl _ _) 1 rfl
        have r2 := ha3.readT (Below.refl _ _) 2 rfl
        have f1 := ha3.frozen 1
        have f2 := ha3.frozen 2
        have HA3 := Lib.hid ha3
        have HH3 := Lib.hid hh3
        have HT3 := Lib.hid (HYT.out.trans ht3)
        have HG3 := Lib.hid hg3
        have HW := Lib.hid (show Got (rWho true) bs k (x0, x1) k2 from hgot3)
        have HR3 := Lib.hid (ht3.rd HYR.out (by have := HYA.out.lt; have := HAH.out; have := HG0.out; omega) (fun k hk e => by omega))
        clear ht3 ha3 hh3 hg3 hgot3 HYA HYH HYG HYR HYT z0
        dsimp only
        go_upto_region 4 with (fail)
        obtain ⟨Y, hY, hYa, hYh, hYg, hYt, hYr⟩ : ∃ Y, Y = (w3.setCell ⟨a, 1, none⟩ (.bool x0)).setCell ⟨a, 2, none⟩ (nv x1) ∧ Bk Y a 56 [.bool true, .bool x0, nv x1, .int .u32 0, .slice none 0 0] ∧ Bk Y h2 56 [.bool false, .bool false, .int .u32 0, .int .u32 0, .slice none 0 0] ∧ Rg Y g A n c k2 0 ∧ Turn (fun i => i = g) w Y ∧ Rd Y g 1 A n (bs.map bv) :=
          ⟨_, rfl, (HA3.out.set_ 1 (.bool x0)).set_ 2 (nv x1), Bk.far (Bk.far HH3.out (show h2 ≠ a by have := HAH.out; omega) _) (show h2 ≠ a by have := HAH.out; omega) _, Bk.far (Bk.far HG3.out (show g ≠ a by have := HG0.out; have := HAH.out; omega) _) (show g ≠ a by have := HG0.out; have := HAH.out; omega) _,
            (HT3.out.setCell (p := ⟨a, 1, none⟩) (fun h => absurd (show a < w.heap.size from h) (by have := HAH.out; omega)) _).setCell (p := ⟨a, 2, none⟩) (fun h => absurd (show a < w.heap.size from h) (by have := HAH.out; omega)) _,
            ((tkTurn w3 a 1 _).trans (tkTurn _ a 2 _)).rd HR3.out (by have := Bk.lt HG3.out; omega) (fun k hk e => by have := HG0.out; have := HAH.out; omega)⟩
        rw [← hY]
        clear hY r1 r2 f1 f2 HA3 HH3 HT3 HG3 HR3
        have HYA := Lib.hid hYa
        have HYH := Lib.hid hYh
        have HYG := Lib.hid hYg
        have HYT := Lib.hid hYt
        have HYR := Lib.hid hYr
        clear hYa hYh hYg hYt hYr
        repeat (first | go_skip | go_guarded | go_step)
        refine (atom_any g A n c k2 bs Y HYG.out HYR.out hc hm).mono ?_
        rintro e w4 ⟨ht4, ⟨⟨p, l⟩, k4, _, rfl, ⟨A', m, c', rfl, ho⟩, hgot4, hg4⟩ | ⟨z, t', rfl, hno, hg4⟩⟩
        · have HS4 := Lib.hid (show h2 < Y.heap.size ∧ a < Y.heap.size from ⟨HYH.out.lt, HYA.out.lt⟩)
          have ha4 := ht4.bk HYA.out (fun e => by have := HG0.out; have := HAH.out; omega)
          have hh4 := ht4.bk HYH.out (fun e => by have := HG0.out; omega)
          have r3 := ha4.readT (Below.refl _ _) 3 rfl
          have r4 := ha4.readT (Below.refl _ _) 4 rfl
          have f3 := ha4.frozen 3
          have f4 := ha4.frozen 4
          have HA4 := Lib.hid ha4
          have HH4 := Lib.hid hh4
          have HT4 := Lib.hid (HYT.out.trans ht4)
          have HG4 := Lib.hid hg4
          have HO4 := Lib.hid ho
          have HGO := Lib.hid hgot4
          clear ht4 ha4 hh4 hg4 ho hgot4
          dsimp only
          go_upto_region 5 with (fail)
          obtain ⟨V, hV, hva, hvh, hvg, hvt, hvo⟩ : ∃ V, V = (w4.setCell ⟨a, 3, none⟩ (nv p)).setCell ⟨a, 4, none⟩ (.slice A' m c') ∧ Bk V a 56 [.bool true, .bool x0, nv x1, nv p, .slice A' m c'] ∧ Bk V h2 56 [.bool false, .bool false, .int .u32 0, .int .u32 0, .slice none 0 0] ∧ Rg V g A n c k4 0 ∧ Turn (fun i => i = g) w V ∧ OwT V Y.heap.size A' c' m l :=
            ⟨_, rfl, (HA4.out.set_ 3 (nv p)).set_ 4 (.slice A' m c'), Bk.far (Bk.far HH4.out (show h2 ≠ a by have := HAH.out; omega) _) (show h2 ≠ a by have := HAH.out; omega) _, Bk.far (Bk.far HG4.out (show g ≠ a by have := HG0.out; have := HAH.out; omega) _) (show g ≠ a by have := HG0.out; have := HAH.out; omega) _,
              (HT4.out.setCell (p := ⟨a, 3, none⟩) (fun h => absurd (show a < w.heap.size from h) (by have := HAH.out; omega)) _).setCell (p := ⟨a, 4, none⟩) (fun h => absurd (show a < w.heap.size from h) (by have := HAH.out; omega)) _,
              ((tkTurn w4 a 3 _).trans (tkTurn _ a 4 _)).own HO4.out (fun k hk e => by have := (World.ownsRow.lt HO4.out k hk).1; have := HS4.out; omega)⟩
          rw [← hV]
          clear hV r3 r4 f3 f4
          have r0 := hva.readT (Below.refl _ _) 0 rfl
          have r1 := hva.readT (Below.refl _ _) 1 rfl
          have r2 := hva.readT (Below.refl _ _) 2 rfl
          have r3 := hva.readT (Below.refl _ _) 3 rfl
          have r4 := hva.readT (Below.refl _ _) 4 rfl
          have s0 := hvh.readT (Below.refl _ _) 0 rfl
          have f0 := hvh.frozen 0
          have s1 := hvh.readT (Below.refl _ _) 1 rfl
          have f1 := hvh.frozen 1
          have s2 := hvh.readT (Below.refl _ _) 2 rfl
          have f2 := hvh.frozen 2
          have s3 := hvh.readT (Below.refl _ _) 3 rfl
          have f3 := hvh.frozen 3
          have s4 := hvh.readT (Below.refl _ _) 4 rfl
          have f4 := hvh.frozen 4
          have HVH := Lib.hid hvh
          have HVG := Lib.hid hvg
          have HVT := Lib.hid hvt
          have HVO := Lib.hid hvo
          clear hva hvh hvg hvt hvo
          repeat (first | go_skip | go_guarded | go_step)
          refine bodyPost_ret (v := .agg #[.bool true, .bool x0, nv x1, nv p, (.slice A' m c')]) ?_ rfl ⟨(((((HVT.out.setCell (p := ⟨h2, 0, none⟩) (fun h => absurd (show h2 < w.heap.size from h) (by omega)) _).setCell (p := ⟨h2, 1, none⟩) (fun h => absurd (show h2 < w.heap.size from h) (by omega)) _).setCell (p := ⟨h2, 2, none⟩) (fun h => absurd (show h2 < w.heap.size from h) (by omega)) _).setCell (p := ⟨h2, 3, none⟩) (fun h => absurd (show h2 < w.heap.size from h) (by omega)) _).setCell (p := ⟨h2, 4, none⟩) (fun h => absurd (show h2 < w.heap.size from h) (by omega)) _), .inl ⟨(true, (x0, x1), (p, l)), k4, _, rfl, ⟨A', m, c', rfl, ?_⟩, HO.out.bind (HW.out.seq HGO.out), Bk.far (Bk.far (Bk.far (Bk.far (Bk.far (HVG.out) (show g ≠ h2 by have := HG0.out; omega) _) (show g ≠ h2 by have := HG0.out; omega) _) (show g ≠ h2 by have := HG0.out; omega) _) (show g ≠ h2 by have := HG0.out; omega) _) (show g ≠ h2 by have := HG0.out; omega) _⟩⟩
          · have hq := (((((HVH.out.set_ 0 (.bool true)).set_ 1 (.bool x0)).set_ 2 (nv x1)).set_ 3 (nv p)).set_ 4 ((.slice A' m c')))
            have q0 := hq.readT (Below.refl _ _) 0 rfl
            have q1 := hq.readT (Below.refl _ _) 1 rfl
            have q2 := hq.readT (Below.refl _ _) 2 rfl
            have q3 := hq.readT (Below.refl _ _) 3 rfl
            have q4 := hq.readT (Below.refl _ _) 4 rfl
            simp [results, Try.results87, go_sem, q0, q1, q2, q3, q4]
          · exact ownLower ((((((tkTurn V h2 0 _).trans (tkTurn _ h2 1 _)).trans (tkTurn _ h2 2 _)).trans (tkTurn _ h2 3 _)).trans (tkTurn _ h2 4 _)).own HVO.out (fun k hk e => by have := (World.ownsRow.lt HVO.out k hk).1; have := HS4.out.1; omega)) (by have := HS4.out.1; omega)
        · exact ⟨rfl, HYT.out.trans ht4, .inr ⟨z, t', rfl, HO.out.nopeB (HW.out.nope2 hno), hg4⟩⟩
      · exact ⟨rfl, HYT.out.trans ht3, .inr ⟨z, t', rfl, HO.out.nopeB (Nope.seq1 (show Nope (rWho true) bs k z from hno)), hg3⟩⟩
  · exact ⟨rfl, HWU.out.trans ht, .inr ⟨z, t', rfl, hno.bind1, hg⟩⟩

set_option maxRecDepth 100000 in
set_option maxHeartbeats 4000000 in
theorem lit_any (g : Nat) (A : Option Addr) (n c : Nat) (t : Int) (bs : List UInt8) (w : World) (hk0 : Rg w g A n c t 0) (hr : Rd w g 1 A n (bs.map bv)) (hc : n ≤ c) (hm : n ≤ 140737488355328) :
    Calls Try.prog 79 #[.pointer (some ⟨g, 0, none⟩)] w fun e w' => Ends uLit g A n c bs t (fun x u W => ∃ A' m c', u = .agg #[.bool x.1, nv x.2.1, .slice A' m c'] ∧ OwT W w.heap.size A' c' m x.2.2) w e w' := by
  have hlt : g < w.heap.size := Bk.lt hk0
  obtain ⟨U, hU, hK, hH, hbU⟩ : ∃ U, U = w.alloc (.cells #[.bool false, .int .u32 0, .slice none 0 0] 71) ∧ Rg U g A n c t 0 ∧ Bk U w.heap.size 71 [.bool false, .int .u32 0, .slice none 0 0] ∧ Below w.heap.size w U :=
    ⟨_, rfl, Bk.alloc hk0 _, Bk.new w _ _, (Below.refl _ _).alloc (Nat.le_refl _) _⟩
  have HU := Lib.hid hU
  have HK := Lib.hid hK
  have HH := Lib.hid hH
  have HB := Lib.hid hbU
  have HR := Lib.hid (hr.below (hbU.mono (Nat.le_of_lt hlt)))
  have HG0 := Lib.hid hlt
  clear hU hK hH hbU hr hk0 hlt
  go_enter Try.func79, Try.ntmps79
  go_upto_region 1 with (fail)
  rw [← HU.out]
  clear HU
  generalize hh2 : w.heap.size = h2 at HH HB HG0 ⊢
  have HWU := Lib.hid (Turn.ofBelow (G := fun i => i = g) (show Below w.heap.size w U by rw [hh2]; exact HB.out))
  repeat (first | go_skip | go_guarded | go_step)
  refine (so_any g A n c t bs U HK.out HR.out hc hm).mono ?_
  rintro e w1 ⟨ht, ⟨b, k, _, rfl, rfl, hgot, hg⟩ | ⟨z, t', rfl, hno, hg⟩⟩
  · have HH1 := Lib.hid (ht.bk HH.out (fun e => by have := HG0.out; omega))
    have HT := Lib.hid (HWU.out.trans ht)
    have HR1 := Lib.hid (ht.rd HR.out (by have := HH.out.lt; have := HG0.out; omega) (fun k hk e => by omega))
    have HG := Lib.hid hg
    have HO := Lib.hid hgot
    clear ht hg hgot
    dsimp only
    repeat (first | go_skip | go_guarded | go_step)
    refine (atom_any g A n c k bs w1 HG.out HR1.out hc hm).mono ?_
    rintro e w2 ⟨ht2, ⟨⟨p, l⟩, k2, _, rfl, ⟨A', m, c', rfl, ho⟩, hgot2, hg2⟩ | ⟨z, t', rfl, hno, hg2⟩⟩
    · have hh := ht2.bk HH1.out (fun e => by have := HG0.out; omega)
      have r0 := hh.readT (Below.refl _ _) 0 rfl
      have f0 := hh.frozen 0
      have r1 := hh.readT (Below.refl _ _) 1 rfl
      have f1 := hh.frozen 1
      have r2 := hh.readT (Below.refl _ _) 2 rfl
      have f2 := hh.frozen 2
      have HH2 := Lib.hid hh
      have HT2 := Lib.hid (HT.out.trans ht2)
      have HG2 := Lib.hid hg2
      have HO2 := Lib.hid ho
      have HGO := Lib.hid hgot2
      have HS1 := Lib.hid HH1.out.lt
      clear ht2 hg2 hh ho hgot2
      dsimp only
      repeat (first | go_skip | go_guarded | go_step)
      refine bodyPost_ret (v := .agg #[.bool b, nv p, (.slice A' m c')]) ?_ rfl ⟨(((HT2.out.setCell (p := ⟨h2, 0, none⟩) (fun h => absurd (show h2 < w.heap.size from h) (by omega)) _).setCell (p := ⟨h2, 1, none⟩) (fun h => absurd (show h2 < w.heap.size from h) (by omega)) _).setCell (p := ⟨h2, 2, none⟩) (fun h => absurd (show h2 < w.heap.size from h) (by omega)) _), .inl ⟨(b, (p, l)), k2, _, rfl, ⟨A', m, c', rfl, ?_⟩, HO.out.seq HGO.out, Bk.far (Bk.far (Bk.far (HG2.out) (show g ≠ h2 by have := HG0.out; omega) _) (show g ≠ h2 by have := HG0.out; omega) _) (show g ≠ h2 by have := HG0.out; omega) _⟩⟩
      · have hq := (((HH2.out.set_ 0 (.bool b)).set_ 1 (nv p)).set_ 2 ((.slice A' m c')))
        have q0 := hq.readT (Below.refl _ _) 0 rfl
        have q1 := hq.readT (Below.refl _ _) 1 rfl
        have q2 := hq.readT (Below.refl _ _) 2 rfl
        simp [results, Try.results79, go_sem, q0, q1, q2]
      · exact ownLower ((((tkTurn w2 h2 0 _).trans (tkTurn _ h2 1 _)).trans (tkTurn _ h2 2 _)).own HO2.out (fun k hk e => by have := (World.ownsRow.lt HO2.out k hk).1; have := HS1.out; omega)) (by have := HS1.out; omega)
    · exact ⟨rfl, HT.out.trans ht2, .inr ⟨z, t', rfl, HO.out.nope2 hno, hg2⟩⟩
  · exact ⟨rfl, HWU.out.trans ht, .inr ⟨z, t', rfl, hno.seq1, hg⟩⟩

set_option maxRecDepth 100000 in
set_option maxHeartbeats 4000000 in
theorem cond_any (g : Nat) (A : Option Addr) (n c : Nat) (t : Int) (bs : List UInt8) (w : World) (hk0 : Rg w g A n c t 0) (hr : Rd w g 1 A n (bs.map bv)) (hc : n ≤ c) (hm : n ≤ 140737488355328) :
    Calls Try.prog 89 #[.pointer (some ⟨g, 0, none⟩)] w fun e w' => Ends uCond g A n c bs t (fun x u W => ∃ A' m c', u = .agg #[.bool x.1, .bool x.2.1, .bool x.2.2.1.1, nv x.2.2.1.2, nv x.2.2.2.1, .slice A' m c'] ∧ OwT W w.heap.size A' c' m x.2.2.2.2) w e w' := by
  have hlt : g < w.heap.size := Bk.lt hk0
  obtain ⟨U, hU, hK, hH, hbU⟩ : ∃ U, U = w.alloc (.cells #[.bool false, .bool false, .bool false, .int .u32 0, .int .u32 0, .slice none 0 0] 99) ∧ Rg U g A n c t 0 ∧ Bk U w.heap.size 99 [.bool false, .bool false, .bool false, .int .u32 0, .int .u32 0, .slice none 0 0] ∧ Below w.heap.size w U :=
    ⟨_, rfl, Bk.alloc hk0 _, Bk.new w _ _, (Below.refl _ _).alloc (Nat.le_refl _) _⟩
  have HU := Lib.hid hU
  have HK := Lib.hid hK
  have HH := Lib.hid hH
  have HB := Lib.hid hbU
  have HR := Lib.hid (hr.below (hbU.mono (Nat.le_of_lt hlt)))
  have HG0 := Lib.hid hlt
  clear hU hK hH hbU hr hk0 hlt
  go_enter Try.func89, Try.ntmps89
  go_upto_region 1 with (fail)
  rw [← HU.out]
  clear HU
  generalize hh2 : w.heap.size = h2 at HH HB HG0 ⊢
  have HWU := Lib.hid (Turn.ofBelow (G := fun i => i = g) (show Below w.heap.size w U by rw [hh2]; exact HB.out))
  repeat (first | go_skip | go_guarded | go_step)
  refine (so_any g A n c t bs U HK.out HR.out hc hm).mono ?_
  rintro e w1 ⟨ht, ⟨b, k, _, rfl, rfl, hgot, hg⟩ | ⟨z, t', rfl, hno, hg⟩⟩
  · have HH1 := Lib.hid (ht.bk HH.out (fun e => by have := HG0.out; omega))
    have HT := Lib.hid (HWU.out.trans ht)
    have HR1 := Lib.hid (ht.rd HR.out (by have := HH.out.lt; have := HG0.out; omega) (fun k hk e => by omega))
    have HG := Lib.hid hg
    have HO := Lib.hid hgot
    clear ht hg hgot
    dsimp only
    repeat (first | go_skip | go_guarded | go_step)
    refine (say_any g A n c k bs w1 HG.out HR1.out hc hm).mono ?_
    rintro e w2 ⟨ht2, ⟨⟨s0, ⟨x0, x1⟩, p, l⟩, k2, _, rfl, ⟨A', m, c', rfl, ho⟩, hgot2, hg2⟩ | ⟨z, t', rfl, hno, hg2⟩⟩
    · have hh := ht2.bk HH1.out (fun e => by have := HG0.out; omega)
      have r0 := hh.readT (Below.refl _ _) 0 rfl
      have f0 := hh.frozen 0
      have r1 := hh.readT (Below.refl _ _) 1 rfl
      have f1 := hh.frozen 1
      have r2 := hh.readT (Below.refl _ _) 2 rfl
      have f2 := hh.frozen 2
      have r3 := hh.readT (Below.refl _ _) 3 rfl
      have f3 := hh.frozen 3
      have r4 := hh.readT (Below.refl _ _) 4 rfl
      have f4 := hh.frozen 4
      have r5 := hh.readT (Below.refl _ _) 5 rfl
      have f5 := hh.frozen 5
      have HH2 := Lib.hid hh
      have HT2 := Lib.hid (HT.out.trans ht2)
      have HG2 := Lib.hid hg2
      have HO2 := Lib.hid ho
      have HGO := Lib.hid hgot2
      have HS1 := Lib.hid HH1.out.lt
      clear ht2 hg2 hh ho hgot2
      dsimp only
      repeat (first | go_skip | go_guarded | go_step)
      refine bodyPost_ret (v := .agg #[.bool b, .bool s0, .bool x0, nv x1, nv p, (.slice A' m c')]) ?_ rfl ⟨((((((HT2.out.setCell (p := ⟨h2, 0, none⟩) (fun h => absurd (show h2 < w.heap.size from h) (by omega)) _).setCell (p := ⟨h2, 1, none⟩) (fun h => absurd (show h2 < w.heap.size from h) (by omega)) _).setCell (p := ⟨h2, 2, none⟩) (fun h => absurd (show h2 < w.heap.size from h) (by omega)) _).setCell (p := ⟨h2, 3, none⟩) (fun h => absurd (show h2 < w.heap.size from h) (by omega)) _).setCell (p := ⟨h2, 4, none⟩) (fun h => absurd (show h2 < w.heap.size from h) (by omega)) _).setCell (p := ⟨h2, 5, none⟩) (fun h => absurd (show h2 < w.heap.size from h) (by omega)) _), .inl ⟨(b, (s0, (x0, x1), (p, l))), k2, _, rfl, ⟨A', m, c', rfl, ?_⟩, HO.out.seq HGO.out, Bk.far (Bk.far (Bk.far (Bk.far (Bk.far (Bk.far (HG2.out) (show g ≠ h2 by have := HG0.out; omega) _) (show g ≠ h2 by have := HG0.out; omega) _) (show g ≠ h2 by have := HG0.out; omega) _) (show g ≠ h2 by have := HG0.out; omega) _) (show g ≠ h2 by have := HG0.out; omega) _) (show g ≠ h2 by have := HG0.out; omega) _⟩⟩
      · have hq := ((((((HH2.out.set_ 0 (.bool b)).set_ 1 (.bool s0)).set_ 2 (.bool x0)).set_ 3 (nv x1)).set_ 4 (nv p)).set_ 5 ((.slice A' m c')))
        have q0 := hq.readT (Below.refl _ _) 0 rfl
        have q1 := hq.readT (Below.refl _ _) 1 rfl
        have q2 := hq.readT (Below.refl _ _) 2 rfl
        have q3 := hq.readT (Below.refl _ _) 3 rfl
        have q4 := hq.readT (Below.refl _ _) 4 rfl
        have q5 := hq.readT (Below.refl _ _) 5 rfl
        simp [results, Try.results89, go_sem, q0, q1, q2, q3, q4, q5]
      · exact ownLower (((((((tkTurn w2 h2 0 _).trans (tkTurn _ h2 1 _)).trans (tkTurn _ h2 2 _)).trans (tkTurn _ h2 3 _)).trans (tkTurn _ h2 4 _)).trans (tkTurn _ h2 5 _)).own HO2.out (fun k hk e => by have := (World.ownsRow.lt HO2.out k hk).1; have := HS1.out; omega)) (by have := HS1.out; omega)
    · exact ⟨rfl, HT.out.trans ht2, .inr ⟨z, t', rfl, HO.out.nope2 hno, hg2⟩⟩
  · exact ⟨rfl, HWU.out.trans ht, .inr ⟨z, t', rfl, hno.seq1, hg⟩⟩
end Go.Proofs.Ytcoafgnbmgndeaa
