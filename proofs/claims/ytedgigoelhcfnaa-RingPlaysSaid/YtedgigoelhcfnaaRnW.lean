/- Layer 18 (ring): the anchor, from RingOk. -/
import Derived.Test.YtedgigoelhcfnaaRnE
import Derived.Lib.SmallJoins
set_option linter.unusedVariables false
set_option linter.unusedSimpArgs false
namespace Go.Proofs.Ytedgigoelhcfnaa
open Go Go.RowKit

theorem RingOk.later {Rg : World → Nat → (Nat → Prop) → List RgE → Prop} (ok : RingOk Rg) {w w' : World} {a : Nat} {G : Nat → Prop} {K : List RgE} (h : Rg w a G K) (hb : Below w.heap.size w w') : Rg w' a G K :=
  ok.keep (H := fun _ => False) h (Turn.ofBelow hb) (fun _ _ h => h)
theorem lit2b (w : World) (x y : UInt8) : Rd (w.alloc (.cells #[bv x, bv y] 5)) (w.heap.size + 1) 1 (some ⟨w.heap.size, 0, none⟩) 2 ([x, y].map bv) :=
  ⟨rfl, fun _ => ⟨_, _, rfl, by omega, fun j u hu => by
    rw [Nat.zero_add, cell_of_row _ _ j #[bv x, bv y] 5 (0, 0) (heap_alloc_new w _)]
    simpa using hu⟩⟩
/-- '[]byte("..")' of two letters. -/
theorem conv_lit2 (w : World) (x y : UInt8) : ∃ U, (convert 32 32 (.slice (some ⟨w.heap.size, 0, none⟩) 2 2)).run Try.prog (w.alloc (.cells #[bv x, bv y] 5)) = .ok (.slice (some ⟨w.heap.size, 0, none⟩) 2 2) U ∧
    Rd U (w.heap.size + 1) 1 (some ⟨w.heap.size, 0, none⟩) 2 ([x, y].map bv) ∧ Below w.heap.size w U ∧ w.heap.size + 1 ≤ U.heap.size := by
  refine ⟨_, Joins.run_convert_bytes_const_at (P := Try.prog) w 32 5 #[bv x, bv y] 2 2 w.heap.size rfl Try.underlying32 Try.underlying5, ⟨rfl, fun _ => ⟨_, _, rfl, by omega, fun j u hu => ?_⟩⟩, (Below.refl _ _).alloc (Nat.le_refl _) _, by simp⟩
  rw [Nat.zero_add, Joins.cell_alloc_mark_at w _ _ _ _ j rfl]
  simpa using hu
set_option maxRecDepth 100000 in
set_option maxHeartbeats 8000000 in
theorem rWorks_of {Rg : World → Nat → (Nat → Prop) → List RgE → Prop} (ok : RingOk Rg) : RWorksOk := by
  intro w
  have OK := Lib.hid ok
  have hnew := ok.new_ w
  clear ok
  go_enter Try.func7, Try.ntmps7
  repeat (first | go_skip | go_guarded | go_step)
  refine hnew.mono ?_
  rintro e w1 ⟨a, G, rfl, hrg, hG, hb1⟩
  have HG := Lib.hid hG
  have HB1 := Lib.hid hb1
  obtain ⟨U1, hcv1, hrd1, hZ, hs1⟩ := conv_lit2 w1 97 98
  have hcv1' : (convert 32 32 (.slice (some ⟨w1.heap.size, 0, none⟩) 2 2)).run Try.prog (w1.alloc (.cells #[.int .u8 97, .int .u8 98] 5)) = .ok (.slice (some ⟨w1.heap.size, 0, none⟩) 2 2) U1 := hcv1
  have hput := OK.out.put U1 a G [] 5 (some ⟨w1.heap.size, 0, none⟩) 2 2 (w1.heap.size + 1) [97, 98] (OK.out.later hrg hZ) hrd1 hs1 (by omega) (by omega) (fun _ x hx hg => by
    have := OK.out.low hrg x hg
    have := Option.some.inj hx
    dsimp only at this
    omega)
  rw [show rgPut [] 5 [97, 98] = (0, [((5 : UInt32), ([97, 98] : List UInt8))]) from by decide] at hput
  have HZ := Lib.hid hZ
  clear hnew hrg hG hb1 hZ hcv1 hrd1 hs1
  dsimp only
  repeat (first | go_skip | go_guarded | go_step)
  refine hput.mono ?_
  rintro e w2 ⟨G2, rfl, hrg, ht, hG2⟩
  have HB2 := Lib.hid (show Below w.heap.size w w2 from (HB1.out.trans (HZ.out.mono HB1.out.size)).trans (ht.below (B := w.heap.size) (fun k _ hk => HG.out k hk) (Nat.le_trans HB1.out.size HZ.out.size)))
  have HG2 := Lib.hid (show ∀ k, G2 k → w.heap.size ≤ k from fun k hk => (hG2 k hk).elim (HG.out k) (fun q => Nat.le_trans (Nat.le_trans HB1.out.size HZ.out.size) q))
  obtain ⟨U2, hcv2, hrd2, hZ2, hs2⟩ := conv_lit2 w2 97 98
  have hcv2' : (convert 32 32 (.slice (some ⟨w2.heap.size, 0, none⟩) 2 2)).run Try.prog (w2.alloc (.cells #[.int .u8 97, .int .u8 98] 5)) = .ok (.slice (some ⟨w2.heap.size, 0, none⟩) 2 2) U2 := hcv2
  have hput2 := OK.out.put U2 a G2 [((5 : UInt32), ([97, 98] : List UInt8))] 5 (some ⟨w2.heap.size, 0, none⟩) 2 2 (w2.heap.size + 1) [97, 98] (OK.out.later hrg hZ2) hrd2 hs2 (by omega) (by omega) (fun _ x hx hg => by
    have := OK.out.low hrg x hg
    have := Option.some.inj hx
    dsimp only at this
    omega)
  rw [show rgPut [((5 : UInt32), ([97, 98] : List UInt8))] 5 [97, 98] = (13, [((5 : UInt32), ([97, 98] : List UInt8))]) from by decide] at hput2
  have HZ2 := Lib.hid hZ2
  clear hput hrg ht hG2 hZ2 hcv2 hrd2 hs2 hcv1'
  dsimp only
  repeat (first | go_skip | go_guarded | go_step)
  refine hput2.mono ?_
  rintro e w3 ⟨G3, rfl, hrg, ht, hG3⟩
  have HB3 := Lib.hid (show Below w.heap.size w w3 from (HB2.out.trans (HZ2.out.mono HB2.out.size)).trans (ht.below (B := w.heap.size) (fun k _ hk => HG2.out k hk) (Nat.le_trans HB2.out.size HZ2.out.size)))
  have HG3 := Lib.hid (show ∀ k, G3 k → w.heap.size ≤ k from fun k hk => (hG3 k hk).elim (HG2.out k) (fun q => Nat.le_trans (Nat.le_trans HB2.out.size HZ2.out.size) q))
  have hkey := OK.out.key w3 a G3 _ 5 hrg
  rw [show rgAt [((5 : UInt32), ([97, 98] : List UInt8))] 5 = some [97, 98] from by decide, show rgKey [((5 : UInt32), ([97, 98] : List UInt8))] 5 = [97, 98] from by decide] at hkey
  clear hput2 hrg ht hG3 hcv2'
  dsimp only
  repeat (first | go_skip | go_guarded | go_step)
  refine hkey.mono ?_
  rintro e w4 ⟨G4, A, n, c, rfl, hrd, hap, hrg, ht, hG4⟩
  have HB4 := Lib.hid (show Below w.heap.size w w4 from HB3.out.trans (ht.below (B := w.heap.size) (fun k _ hk => HG3.out k hk) HB3.out.size))
  have HG4 := Lib.hid (show ∀ k, G4 k → w.heap.size ≤ k from fun k hk => (hG4 k hk).elim (HG3.out k) (fun q => Nat.le_trans HB3.out.size q))
  have HRD := Lib.hid hrd
  have HAP := Lib.hid hap
  have hdrop := OK.out.drop w4 a G4 _ 6 hrg
  rw [show rgDrop [((5 : UInt32), ([97, 98] : List UInt8))] 6 = (4, [((5 : UInt32), ([97, 98] : List UInt8))]) from by decide] at hdrop
  clear hkey hrg ht hG4 hrd hap
  dsimp only
  repeat (first | go_skip | go_guarded | go_step)
  refine hdrop.mono ?_
  rintro e w5 ⟨G5, rfl, hrg, ht, hG5⟩
  have HB5 := Lib.hid (show Below w.heap.size w w5 from HB4.out.trans (ht.below (B := w.heap.size) (fun k _ hk => HG4.out k hk) HB4.out.size))
  have HG5 := Lib.hid (show ∀ k, G5 k → w.heap.size ≤ k from fun k hk => (hG5 k hk).elim (HG4.out k) (fun q => Nat.le_trans HB4.out.size q))
  have hrd5 : Rd w5 w5.heap.size 1 A n (([97, 98] : List UInt8).map bv) := by
    obtain ⟨b, o, e, hb, hc⟩ := HRD.out.2 (by have := HRD.out.len1; simp at this; omega)
    exact ⟨HRD.out.1, fun _ => ⟨b, o, e, Nat.lt_of_lt_of_le hb ht.size, fun j u hu => (ht.cell (p := ⟨b, o + j, none⟩) hb (HAP.out b (by rw [e]; rfl))).trans (hc j u hu)⟩⟩
  have hcv := run_conv_str (P := Try.prog) w5 32 9 5 Try.underlying32 Try.underlying5 Try.underlying9 w5.heap.size A n c [97, 98] hrd5
  have hlist := OK.out.list w5 a G5 _ hrg
  clear hdrop hrg ht hG5 hrd5
  dsimp only
  repeat (first | go_skip | go_guarded | go_step)
  refine hlist.mono ?_
  rintro e w6 ⟨G6, A6, n6, c6, rfl, hrd6, _, _, ht, _⟩
  have HB6 := Lib.hid (show Below w.heap.size w w6 from HB5.out.trans (ht.below (B := w.heap.size) (fun k _ hk => HG5.out k hk) HB5.out.size))
  obtain rfl : n6 = 1 := by have := hrd6.len1; simp at this; omega
  clear hlist hrd6 ht
  dsimp only
  repeat (first | go_skip | go_guarded | go_step)
  go_ret
  exact ⟨rfl, HB6.out⟩
end Go.Proofs.Ytedgigoelhcfnaa
