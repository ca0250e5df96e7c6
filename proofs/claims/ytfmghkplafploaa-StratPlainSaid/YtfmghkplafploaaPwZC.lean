/- Texts, packed: SrC -/
import Derived.Test.YtfmghkplafploaaPwZA
import Derived.Lib.SliceRun
set_option linter.unusedVariables false
set_option linter.unusedSimpArgs false
namespace Go.Proofs.Ytfmghkplafploaa
open Go Go.RowKit

theorem strict_more {P : List UInt32} {u : UInt32} (h : P.Pairwise (· < ·)) (hu : ∀ v ∈ P, v < u) : (P ++ [u]).Pairwise (· < ·) :=
  List.pairwise_append.2 ⟨h, by simp, fun a ha b hb => by rw [List.mem_singleton.1 hb]; exact hu a ha⟩
theorem below_next {l : List UInt32} (hs : l.Pairwise fun x y => x.toNat ≤ y.toNat) {j : Nat} {u v : UInt32} (hv : l[j]? = some v) (hu : l[j + 1]? = some u) (hne : u ≠ v) : ∀ x ∈ l.take (j + 1), x < u := by
  intro x hx
  obtain ⟨i, hi⟩ := List.mem_iff_getElem?.1 hx
  rw [List.getElem?_take] at hi
  split at hi
  · rename_i hij
    obtain ⟨a1, a2⟩ := List.getElem?_eq_some_iff.1 hi
    obtain ⟨b1, b2⟩ := List.getElem?_eq_some_iff.1 hv
    obtain ⟨c1, c2⟩ := List.getElem?_eq_some_iff.1 hu
    have hpw := List.pairwise_iff_getElem.1 hs
    have h1 : v.toNat ≤ u.toNat := by have := hpw _ _ b1 c1 (Nat.lt_succ_self j); rwa [b2, c2] at this
    have h2 : x.toNat ≤ v.toNat := by
      rcases Nat.lt_or_eq_of_le (Nat.le_of_lt_succ hij) with k | k
      · have := hpw _ _ a1 b1 k
        rwa [a2, b2] at this
      · subst k
        rw [a2] at b2
        rw [b2]
        exact Nat.le_refl _
    have h3 : v.toNat ≠ u.toNat := fun e => hne (UInt32.toNat_inj.1 e.symm)
    exact UInt32.lt_iff_toNat_lt.2 (by omega)
  · cases hi
theorem take_snoc1 {l : List UInt32} {k : Nat} {x : UInt32} (h : l[k]? = some x) : l.take (k + 1) = l.take k ++ [x] := by
  rw [List.take_add_one, h]
  rfl
set_option maxRecDepth 100000 in
set_option maxHeartbeats 4000000 in
theorem compS_arr (g c n : Nat) (l : List UInt32) (rest : List Value) (w : World) (hl : l.length = n) (hn : n ≤ 1000000) (hc : n ≤ c) (hc2 : c ≤ maxLen) (hb : BkU w g l rest) (hs : l.Pairwise fun x y => x.toNat ≤ y.toNat) (hn2 : 2 ≤ n) :
    Calls Try.prog 20 #[.slice (some ⟨g, 0, none⟩) n c] w fun e w' => ∃ (m : Nat) (l' : List UInt32), e = .returned (.slice (some ⟨g, 0, none⟩) m c) ∧ m ≤ n ∧ l'.Pairwise (· < ·) ∧ (∀ v, v ∈ l' ↔ v ∈ l) ∧ RdU w' w'.heap.size (some ⟨g, 0, none⟩) m l' ∧ Turn (fun k => k = g) w w' := by
  have HB := Lib.hid hb
  have HL := Lib.hid hl
  have HSO := Lib.hid hs
  have h2i : ¬ (n : Int) < 2 := by omega
  have HS1 := Lib.hid (show (l.take 1).Pairwise (· < ·) by
    cases l with
    | nil => simp
    | cons x l => simp)
  clear hb hl hs
  go_enter Try.func20, Try.ntmps20
  repeat (first | go_skip | go_guarded | go_step)
  go_loopw [3] (fun q wr => ∃ k : Nat, q = .int .i64 (k : Int) ∧ 1 ≤ k ∧ k ≤ n ∧ (l.take k).Pairwise (· < ·) ∧ BkU wr g l rest ∧ Turn (fun k => k = g) w wr) (fun q _ => n - (intOf q).toNat)
  case atStart => exact ⟨1, by go_num, by omega, by omega, HS1.out, HB.out, Turn.refl _ _⟩
  case round =>
    obtain ⟨k, rfl, hk1, hk2, hst, hbk, ht⟩ := hrel
    have HK := Lib.hid hbk
    have HT := Lib.hid ht
    have HST := Lib.hid hst
    clear ht hst
    by_cases hlt : k < n
    · have hci : (k : Int) < (n : Int) := by omega
      obtain ⟨x, hx⟩ : ∃ x, l[k]? = some x := ⟨_, List.getElem?_eq_getElem (by have := HL.out; omega)⟩
      obtain ⟨y, hy⟩ : ∃ y, l[k - 1]? = some y := ⟨_, List.getElem?_eq_getElem (by have := HL.out; omega)⟩
      have c1 := hbk.at_ hx
      have c2 := hbk.at_ hy
      have HX := Lib.hid hx
      have HY := Lib.hid hy
      have hkw : ((k : Int) - 1) = ((k - 1 : Nat) : Int) := by omega
      clear hbk hx hy
      by_cases hxy : x = y
      · have hd : ((x.toNat : Int) == (y.toNat : Int)) = true := by rw [hxy]; simp
        have HE := Lib.hid hxy
        clear hxy
        go_upto_region 6 with (fail)
        go_quiet (fail)
        obtain ⟨V, hV, hkV, htV⟩ : ∃ V, V = wr.drewN nq ∧ BkU V g l rest ∧ Turn (fun k => k = g) w V := ⟨_, rfl, HK.out, turnDrewN HT.out _⟩
        rw [← hV]
        have HKV := Lib.hid hkV
        have HTV := Lib.hid htV
        clear hV hkV htV c1 c2
        repeat (first | go_skip | go_guarded | go_step)
        go_loopw [3, 5] (fun q r wz => ∃ (kk k2 : Nat) (l' : List UInt32), q = .int .i64 (kk : Int) ∧ r = .int .i64 (k2 : Int) ∧ 1 ≤ k2 ∧ k + k2 ≤ n ∧ kk + 1 ≤ k + k2 ∧ l'.length = n ∧ (l'.take kk).Pairwise (· < ·) ∧ (∀ i, k + k2 ≤ i + 1 → l'[i]? = l[i]?) ∧ (∀ v, v ∈ l'.take kk ↔ v ∈ l.take (k + k2)) ∧ BkU wz g l' rest ∧ Turn (fun k => k = g) w wz) (fun _ r _ => n - (intOf r).toNat)
        case atStart =>
          exact ⟨k, 1, l, rfl, by go_num, by omega, by omega, by omega, HL.out, HST.out, fun _ _ => rfl, fun v => by
            rw [take_mem_snoc HX.out, HE.out]
            exact ⟨Or.inl, fun h => h.elim id fun e => by rw [e]; exact take_has HY.out (by omega)⟩, HKV.out, HTV.out⟩
        case round =>
          rename World => wz
          obtain ⟨kk, k2, l', rfl, rfl, h1, hle, hkk, hlen, hstr, hsame, hmem, hbk, ht⟩ := hrel
          have HZ := Lib.hid hbk
          have HTZ := Lib.hid ht
          have HM := Lib.hid hmem
          have HS := Lib.hid hsame
          have HLE := Lib.hid hlen
          have HSR := Lib.hid hstr
          clear ht hmem hlen hstr
          by_cases hlt2 : k + k2 < n
          · have hci2 : (k2 : Int) < ((n - k : Nat) : Int) := by omega
            obtain ⟨u, hu⟩ : ∃ u, l[k + k2]? = some u := ⟨_, List.getElem?_eq_getElem (by have := HL.out; omega)⟩
            obtain ⟨v, hv⟩ : ∃ v, l[k + k2 - 1]? = some v := ⟨_, List.getElem?_eq_getElem (by have := HL.out; omega)⟩
            have c1 := hbk.at_ ((hsame _ (by omega)).trans hu)
            have c2 := hbk.at_ ((hsame _ (by omega)).trans hv)
            rw [show k + k2 - 1 = k + (k2 - 1) by omega] at c2
            have f1 := hbk.frozen kk
            obtain ⟨old, hold⟩ : ∃ old, l'[kk]? = some old := ⟨_, List.getElem?_eq_getElem (by have := HLE.out; omega)⟩
            have c3 := hbk.at_ hold
            have HU := Lib.hid hu
            have HV := Lib.hid hv
            have hkw : ((k2 : Int) - 1) = ((k2 - 1 : Nat) : Int) := by omega
            clear hbk hu hv hsame hold
            by_cases huv : u = v
            · have hd : ((u.toNat : Int) != (v.toNat : Int)) = false := by rw [huv]; simp
              have HE2 := Lib.hid huv
              clear huv
              go_upto_region 11 with (fail)
              go_quiet (fail)
              repeat (first | go_skip | go_guarded | go_step)
              go_roundw
              case rel =>
                exact ⟨kk, k2 + 1, l', rfl, by go_num, by omega, by omega, by omega, HLE.out, HSR.out, fun i hi => HS.out i (by omega), fun x => by
                  rw [show k + (k2 + 1) = k + k2 + 1 by omega, take_mem_snoc HU.out, HM.out]
                  exact ⟨Or.inl, fun h => h.elim id fun e => by rw [e, HE2.out]; exact take_has HV.out (by omega)⟩, HZ.out, turnDrewN HTZ.out _⟩
              case measure => simp [intOf]; omega
            · have hd : ((u.toNat : Int) != (v.toNat : Int)) = true := by
                rw [bne_iff_ne]; intro e; exact huv (UInt32.toNat_inj.1 (by omega))
              have HNE := Lib.hid huv
              clear huv
              go_upto_region 11 with (fail)
              go_quiet (fail)
              repeat (first | go_skip | go_guarded | go_step)
              go_roundw
              case rel =>
                exact ⟨kk + 1, k2 + 1, l'.set kk u, by go_num, by go_num, by omega, by omega, by omega, by rw [List.length_set]; exact HLE.out, by
                  rw [take_snoc1 (x := u) (by rw [List.getElem?_set_self (by have := HLE.out; omega)]), List.take_set_of_le (Nat.le_refl _)]
                  refine strict_more HSR.out fun y hy => ?_
                  have hy2 := (HM.out y).1 hy
                  have hb := below_next HSO.out (j := k + k2 - 1) HV.out (by rw [show k + k2 - 1 + 1 = k + k2 by omega]; exact HU.out) HNE.out
                  rw [show k + k2 - 1 + 1 = k + k2 by omega] at hb
                  exact hb y hy2, fun i hi => by rw [List.getElem?_set_ne (by omega)]; exact HS.out i (by omega), fun x => by
                  rw [show k + (k2 + 1) = k + k2 + 1 by omega, take_mem_snoc HU.out, take_mem_snoc (x := u) (by rw [List.getElem?_set_self (by have := HLE.out; omega)]), List.take_set_of_le (Nat.le_refl _), HM.out], BkU.set1 HZ.out (by have := HLE.out; omega) u, (turnDrewN HTZ.out _).setCell (p := ⟨g, kk, none⟩) (fun _ => rfl) _⟩
              case measure => simp [intOf]; omega
          · have hend : k + k2 = n := by omega
            have hci2 : ¬ (k2 : Int) < ((n - k : Nat) : Int) := by omega
            have hcl : ∀ ty, (Builtin.clear_ #[46] ty #[.slice (some ⟨g, kk, none⟩) (n - kk) (c - kk)]).run Try.prog wz = .ok (.tuple #[]) (wz.setCells g kk (List.replicate (n - kk) (.int .u32 0))) :=
              fun ty => Lib.run_clear_slice wz _ _ ty _ Try.underlying46 (fun w => by kernel_rfl) rfl rfl g kk _ _ (by omega) (fun j hj => by
                obtain ⟨x, hx⟩ : ∃ x, l'[kk + j]? = some x := ⟨_, List.getElem?_eq_getElem (by have := HLE.out; omega)⟩
                rw [hbk.at_ hx]; rfl) (fun j _ => hbk.frozen _)
            obtain ⟨l2, g1, g2, g3, g4⟩ := hbk.clear (n - kk) (k := kk) (by have := HLE.out; omega)
            obtain ⟨W2, hW2⟩ : ∃ W2, W2 = wz.setCells g kk (List.replicate (n - kk) (.int .u32 0)) := ⟨_, rfl⟩
            rw [← hW2] at hcl g3 g4
            have HR := Lib.hid (OwU.head (base := 0) (c := c) (g1.trans HLE.out) g3.lt g3 (show kk ≤ n by omega))
            have HT2 := Lib.hid (HTZ.out.trans g4)
            have HM2 := Lib.hid (show ∀ v, v ∈ l2.take kk ↔ v ∈ l from fun v => by
              rw [g2, HM.out, hend, List.take_of_length_le (by have := HL.out; omega)])
            have HSR2 := Lib.hid (show (l2.take kk).Pairwise (· < ·) by rw [g2]; exact HSR.out)
            clear g1 g2 g3 g4 hbk hsame hW2
            repeat (first | go_skip | go_guarded | go_step)
            go_ret
            exact ⟨kk, _, rfl, by omega, HSR2.out, HM2.out, HR.out, HT2.out⟩
      · have hd : ((x.toNat : Int) == (y.toNat : Int)) = false := by
          rw [beq_eq_false_iff_ne]; intro e; exact hxy (UInt32.toNat_inj.1 (by omega))
        have HNE := Lib.hid hxy
        clear hxy
        go_upto_region 6 with (fail)
        go_quiet (fail)
        repeat (first | go_skip | go_guarded | go_step)
        go_roundw
        case rel => exact ⟨k + 1, by go_num, by omega, by omega, by
          rw [take_snoc1 HX.out]
          have hb := below_next HSO.out (j := k - 1) HY.out (by rw [show k - 1 + 1 = k by omega]; exact HX.out) HNE.out
          rw [show k - 1 + 1 = k by omega] at hb
          exact strict_more HST.out hb, HK.out, turnDrewN HT.out _⟩
        case measure => simp [intOf]; omega
    · obtain rfl : n = k := by omega
      have hci : ¬ (n : Int) < (n : Int) := by omega
      repeat (first | go_skip | go_guarded | go_step)
      go_ret
      have htk : l.take n = l := List.take_of_length_le (by have := HL.out; omega)
      exact ⟨n, l, rfl, Nat.le_refl _, by have := HST.out; rwa [htk] at this, fun v => Iff.rfl, by have := OwU.head (base := 0) (c := c) HL.out HK.out.lt HK.out (Nat.le_refl n); rwa [htk] at this, HT.out⟩
set_option maxRecDepth 100000 in
theorem comp_few (A : Option Addr) (n c : Nat) (w : World) (hn2 : n < 2) :
    Calls Try.prog 20 #[.slice A n c] w fun e w' => e = .returned (.slice A n c) ∧ w' = w := by
  have h2i : (n : Int) < 2 := by omega
  go_enter Try.func20, Try.ntmps20
  repeat (first | go_skip | go_guarded | go_step)
  go_ret
  exact ⟨rfl, rfl⟩
/-- Of a row of one's own that ascends: what it answers rises, and has the same in it. -/
theorem compS_any (base : Nat) (A : Option Addr) (c n : Nat) (l : List UInt32) (w : World) (h : OwU w base A c n l) (hs : l.Pairwise fun x y => x.toNat ≤ y.toNat) (hn : n ≤ 1000000) (hbase : base ≤ w.heap.size) :
    Calls Try.prog 20 #[.slice A n c] w fun e w' => ∃ (A' : Option Addr) (c' : Nat) (l' : List UInt32), e = .returned (.slice A' l'.length c') ∧ l'.length ≤ n ∧ l'.Pairwise (· < ·) ∧ (∀ v, v ∈ l' ↔ v ∈ l) ∧ RdU w' w'.heap.size A' l'.length l' ∧ Below base w w' := by
  have hl : l.length = n := rdU_len h.rd
  by_cases h2 : n < 2
  · refine (comp_few A n c w h2).mono ?_
    rintro e w' ⟨rfl, rfl⟩
    refine ⟨A, c, l, by rw [hl], by omega, ?_, fun v => Iff.rfl, by rw [hl]; exact h.rd, Below.refl _ _⟩
    match l, hl with
    | [], _ => exact List.Pairwise.nil
    | [x], _ => exact List.pairwise_singleton _ _
    | x :: y :: r, hl => simp at hl; omega
  · obtain ⟨g, rest, rfl, hbg, hnc, hcm, hrl, hbk⟩ := h.block (by omega)
    refine (compS_arr g c n l rest w hl hn hnc hcm hbk hs (by omega)).mono ?_
    rintro e w' ⟨m, l', rfl, hm, hp, hmem, hrd, ht⟩
    have hl' := rdU_len hrd
    exact ⟨_, c, l', by rw [hl'], by omega, hp, hmem, by rw [hl']; exact hrd, ht.below (fun k _ e => by rw [e]; exact hbg) hbase⟩
end Go.Proofs.Ytfmghkplafploaa

