/- Layer 18 (ring), the landed program: slices.Collect and slices.Sorted of the map's keys; slices.Clone of a key; New, has, Key, List. -/
import Derived.Test.YtedgigoelhcfnaaRqC
import Derived.Test.YtedgigoelhcfnaaUsT
set_option linter.unusedVariables false
set_option linter.unusedSimpArgs false
namespace Go.Proofs.Ytedgigoelhcfnaa
open Go Go.RowKit Go.Maps

theorem rCollect_any (mb : Option Nat) (O : Nat → Prop) (K : List RgE) (hr : (K.map (·.1)).Pairwise (· < ·)) (hK : K.length ≤ 1000) (Bm : Nat) (w : World) (hB : Bm < w.heap.size) (hm : w.cell? ⟨Bm, 0, none⟩ = some (.map mb)) (h : MapN w mb O K) (hO : ∀ x, O x → x < w.heap.size) :
    Calls Try.prog 22 #[.func (.func 24) #[] #[.pointer (some ⟨Bm, 0, none⟩)]] w fun e w' => ∃ A c ys, e = .returned (.slice A ys.length c) ∧ AllR K ys ∧ OwR w' w.heap.size A c ys.length ys ∧ Below w.heap.size w w' := by
  have hcall := rAppendSeq_any mb O K hr hK Bm w hB hm h hO
  clear hm h hO hr hK
  go_enter Try.func22, Try.ntmps22
  repeat (first | go_skip | go_guarded | go_step)
  refine hcall.mono ?_
  rintro e w1 ⟨A, c, ys, rfl, h1, h2, h3⟩
  have H2 := Lib.hid h2
  clear h2 hcall
  dsimp only
  repeat (first | go_skip | go_guarded | go_step)
  go_ret
  exact ⟨A, c, ys, rfl, h1, H2.out, h3⟩
theorem allR_asc {K : List RgE} (hr : (K.map (·.1)).Pairwise (· < ·)) {ys : List UInt32} (h : AllR K ys) : ascU ys = K.map (·.1) := by
  have hp : (ascU ys).Perm (K.map (·.1)) := (ascU_perm ys).trans ((List.perm_ext_iff_of_nodup h.1 (rg_nodup hr)).2 h.2)
  refine List.Perm.eq_of_pairwise (le := fun a b : UInt32 => a.toNat ≤ b.toNat) (fun a b _ _ h1 h2 => UInt32.toNat_inj.1 (Nat.le_antisymm h1 h2)) (ascU_sorted ys) (hr.imp fun {a b} q => Nat.le_of_lt (UInt32.lt_iff_toNat_lt.1 q)) hp
theorem rSorted_any (mb : Option Nat) (O : Nat → Prop) (K : List RgE) (hr : (K.map (·.1)).Pairwise (· < ·)) (hK : K.length ≤ 1000) (Bm : Nat) (w : World) (hB : Bm < w.heap.size) (hm : w.cell? ⟨Bm, 0, none⟩ = some (.map mb)) (h : MapN w mb O K) (hO : ∀ x, O x → x < w.heap.size) :
    Calls Try.prog 20 #[.func (.func 24) #[] #[.pointer (some ⟨Bm, 0, none⟩)]] w fun e w' => ∃ A c, e = .returned (.slice A K.length c) ∧ OwR w' w.heap.size A c K.length (K.map (·.1)) ∧ Below w.heap.size w w' := by
  have hcall := rCollect_any mb O K hr hK Bm w hB hm h hO
  clear hm h hO
  go_enter Try.func20, Try.ntmps20
  repeat (first | go_skip | go_guarded | go_step)
  refine hcall.mono ?_
  rintro e w1 ⟨A, c, ys, rfl, h1, h2, h3⟩
  have hasc := allR_asc hr h1
  have hlen : ys.length = K.length := by
    have := congrArg List.length hasc
    rwa [ascU_length, List.length_map] at this
  rw [hlen] at h2 ⊢
  have hsort := usSortOwn w.heap.size A c K.length ys w1 h2 (by omega)
  rw [hasc] at hsort
  have H2 := Lib.hid h2
  clear h2 hcall hlen hasc h1
  dsimp only
  repeat (first | go_skip | go_guarded | go_step)
  refine hsort.mono ?_
  rintro e w2 ⟨rfl, h4, h5⟩
  have H4 := Lib.hid h4
  clear h4 hsort
  dsimp only
  repeat (first | go_skip | go_guarded | go_step)
  go_ret
  refine ⟨A, c, rfl, H4.out, h3.trans (h5.below (B := w.heap.size) (fun k _ e => (World.ownsRow.lt H2.out k ?_).1) h3.size)⟩
  rw [ownBlkR]
  exact e
end Go.Proofs.Ytedgigoelhcfnaa
