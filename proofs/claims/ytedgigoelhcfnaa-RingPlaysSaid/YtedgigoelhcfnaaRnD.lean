/- Layer 18 (ring), the document's ring: Key. -/
import Derived.Test.YtedgigoelhcfnaaRnC
import Derived.Lib.ConvBytes
set_option linter.unusedVariables false
set_option linter.unusedSimpArgs false
namespace Go.Proofs.Ytedgigoelhcfnaa
open Go Go.RowKit

theorem bytesBelow (w : World) (e : TypeId) (s : ByteArray) : Below w.heap.size w (Lib.bytesWorld w e s) :=
  ⟨rfl, rfl, rfl, by rw [Lib.bytesWorld_size]; omega, fun k hk => Lib.bytesWorld_at_old w e s k hk⟩
theorem bytesRd (w : World) (e : TypeId) (k : List UInt8) : Rd (Lib.bytesWorld w e (bsOf k)) (Lib.bytesWorld w e (bsOf k)).heap.size 1 (some ⟨w.heap.size, 0, none⟩) k.length (k.map bv) := by
  refine ⟨by simp, fun _ => ⟨w.heap.size, 0, rfl, by rw [Lib.bytesWorld_size]; omega, fun j u hu => ?_⟩⟩
  rw [List.getElem?_map] at hu
  obtain ⟨x, hx, rfl⟩ := Option.map_eq_some_iff.1 hu
  have hj : j < (bsOf k).size := by rw [bsOf_size]; exact (List.getElem?_eq_some_iff.1 hx).1
  rw [Nat.zero_add, Lib.bytesWorld_cell w e (bsOf k) j hj]
  have : (bsOf k).data.toList.getD j 0 = x := by
    show k.getD j 0 = x
    rw [List.getD_eq_getElem?_getD, hx]
    rfl
  rw [this]
  rfl
/-- What Key tells. -/
def rgKey (K : List RgE) (u : UInt32) : List UInt8 := (rgAt K u).getD []
set_option maxRecDepth 100000 in
set_option maxHeartbeats 4000000 in
theorem rKey_any (base b : Nat) (A : Option Addr) (c : Nat) (K : List RgE) (u : UInt32) (w : World) (h : Rf w base b A c K) (hg : RgGood K) :
    Calls Try.prog 14 #[.pointer (some ⟨b, 0, none⟩), nr u] w fun e w' => ∃ (A' : Option Addr) (n c' : Nat), e = .returned (.tuple #[.slice A' n c', .bool (rgAt K u).isSome]) ∧ Rd w' w'.heap.size 1 A' n ((rgKey K u).map bv) ∧ Below w.heap.size w w' := by
  have hpl := rPlace_any base b A c K u w h (Nat.le_trans hg.len (by omega))
  have k0 := h.box.cell 0
  simp only [List.getElem?_cons_zero] at k0
  obtain ⟨m, hm⟩ : ∃ m, m = K.length := ⟨_, rfl⟩
  rw [← hm] at k0
  have hm32 : m ≤ 32 := by rw [hm]; exact hg.len
  rcases rgIx_cases K u with ⟨hix, hat⟩ | ⟨j, x, hx, hxu, hix, hat⟩
  · rw [hix] at hpl
    have HA := Lib.hid hat
    clear hix hat h hg hm
    go_enter Try.func14, Try.ntmps14
    repeat (first | go_skip | go_guarded | go_step)
    refine hpl.mono ?_
    rintro e w2 ⟨rfl, hw⟩
    rw [hw]
    clear hw hpl
    dsimp only
    repeat (first | go_skip | go_guarded | go_step)
    go_ret2
    exact ⟨none, 0, 0, by rw [HA.out]; rfl, by unfold rgKey; rw [HA.out]; exact Rd.nil, Below.refl _ _⟩
  · rw [hix] at hpl
    have hjm : j < m := by rw [hm]; exact (List.getElem?_eq_some_iff.1 hx).1
    have hown := h.own
    rw [← hm] at hown
    obtain ⟨b1, o1, x', hA, hb1, hx', hc0, hc1⟩ := rdEn_at hown.rd hjm
    rw [hx] at hx'
    obtain rfl := Option.some.inj hx'
    have hj0 : ¬ (j : Int) < 0 := by omega
    have hj1 : (0 : Int) ≤ (j : Int) := by omega
    have hjmi : (j : Int) < (m : Int) := by omega
    have HA := Lib.hid hat
    have hcv := Lib.run_convert_string_bytes (P := Try.prog) w 9 32 5 (bsOf x.2) Try.underlying9 Try.underlying32 Try.underlying5
    rw [bsOf_size] at hcv
    have hbu := bytesBelow w 5 (bsOf x.2)
    have hrd := bytesRd w 5 x.2
    generalize Lib.bytesWorld w 5 (bsOf x.2) = U at hcv hbu hrd
    generalize grownCap w x.2.length 0 5 = C at hcv
    have HBU := Lib.hid hbu
    have HRD := Lib.hid hrd
    subst hA
    clear hix hat h hg hm hx hxu hown hb1 hbu hrd hx'
    go_enter Try.func14, Try.ntmps14
    repeat (first | go_skip | go_guarded | go_step)
    refine hpl.mono ?_
    rintro e w2 ⟨rfl, hw⟩
    rw [hw]
    clear hw hpl
    dsimp only
    repeat (first | go_skip | go_guarded | go_step)
    go_ret2
    exact ⟨_, x.2.length, C, by rw [HA.out]; rfl, by unfold rgKey; rw [HA.out]; exact HRD.out, HBU.out⟩
end Go.Proofs.Ytedgigoelhcfnaa
