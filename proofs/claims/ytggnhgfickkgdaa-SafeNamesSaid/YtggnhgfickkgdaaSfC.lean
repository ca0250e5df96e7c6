/- Layer 11 (safe), the landed program: slices.Compact of few numbers. -/
import Derived.Test.YtggnhgfickkgdaaSfT
import Derived.Lib.SliceRun
set_option linter.unusedVariables false
set_option linter.unusedSimpArgs false
namespace Go.Proofs.Ytggnhgfickkgdaa
open Go Go.RowKit

theorem BkU.clear {g : Nat} {rest : List Value} (m : Nat) : ∀ {w : World} {l : List UInt32} {k : Nat}, BkU w g l rest → k + m ≤ l.length →
    ∃ l' : List UInt32, l'.length = l.length ∧ l'.take k = l.take k ∧ BkU (w.setCells g k (List.replicate m (.int .u32 0))) g l' rest ∧ Turn (fun x => x = g) w (w.setCells g k (List.replicate m (.int .u32 0))) := by
  induction m with
  | zero => intro w l k h _; exact ⟨l, rfl, rfl, h, Turn.refl _ _⟩
  | succ m ih =>
    intro w l k h hk
    obtain ⟨l', h1, h2, h3, h4⟩ := ih (k := k + 1) (h.set1 (i := k) (by omega) 0) (by rw [List.length_set]; omega)
    refine ⟨l', by rw [h1, List.length_set], ?_, h3, ((Turn.refl (fun x => x = g) w).setCell (p := ⟨g, k, none⟩) (fun _ => rfl) _).trans h4⟩
    have e := congrArg (List.take k) h2
    rw [List.take_take, List.take_take, Nat.min_eq_left (by omega)] at e
    rw [e, List.take_set_of_le (by omega)]
theorem take_mem_snoc {l : List UInt32} {k : Nat} {x : UInt32} (h : l[k]? = some x) (v : UInt32) : v ∈ l.take (k + 1) ↔ v ∈ l.take k ∨ v = x := by
  rw [List.take_add_one, h]
  simp
theorem take_has {l : List UInt32} {j k : Nat} {x : UInt32} (h : l[j]? = some x) (hj : j < k) : x ∈ l.take k := by
  refine List.mem_of_getElem? (i := j) ?_
  rw [List.getElem?_take_of_lt hj, h]
theorem OwU.head {w : World} {base g c n k : Nat} {l : List UInt32} {rest : List Value} (hl : l.length = n) (hlt : g < w.heap.size) (h : BkU w g l rest) (hk : k ≤ n) : RdU w w.heap.size (some ⟨g, 0, none⟩) k (l.take k) := by
  refine ⟨by simp; omega, fun _ => ⟨g, 0, rfl, hlt, fun j u hu => ?_⟩⟩
  rw [List.getElem?_map] at hu
  obtain ⟨x, hx, rfl⟩ := Option.map_eq_some_iff.1 hu
  rw [List.getElem?_take] at hx
  split at hx
  · rw [Nat.zero_add]; exact h.at_ hx
  · cases hx
set_option maxRecDepth 100000 in
set_option maxHeartbeats 4000000 in
theorem compU_arr (g c n : Nat) (l : List UInt32) (rest : List Value) (w : World) (hl : l.length = n) (hn : n ≤ 6) (hc : n ≤ c) (hc2 : c ≤ maxLen) (hb : BkU w g l rest) :
    Calls Try.prog 37 #[.slice (some ⟨g, 0, none⟩) n c] w fun e w' => ∃ (m : Nat) (l' : List UInt32), e = .returned (.slice (some ⟨g, 0, none⟩) m c) ∧ m ≤ n ∧ (∀ v, v ∈ l' ↔ v ∈ l) ∧ RdU w' w'.heap.size (some ⟨g, 0, none⟩) m l' ∧ Turn (fun k => k = g) w w' := by
  have HB := Lib.hid hb
  have HL := Lib.hid hl
  clear hb hl
  by_cases h2 : n < 2
  · have h2i : (n : Int) < 2 := by omega
    go_enter Try.func37, Try.ntmps37
    repeat (first | go_skip | go_guarded | go_step)
    go_ret
    exact ⟨n, l, rfl, Nat.le_refl _, fun v => Iff.rfl, by have := OwU.head (base := 0) (c := c) HL.out HB.out.lt HB.out (Nat.le_refl n); rwa [List.take_of_length_le (by have := HL.out; omega)] at this, Turn.refl _ _⟩
  have h2i : ¬ (n : Int) < 2 := by omega
  go_enter Try.func37, Try.ntmps37
  repeat (first | go_skip | go_guarded | go_step)
  go_loopw [3] (fun q wr => ∃ k : Nat, q = .int .i64 (k : Int) ∧ 1 ≤ k ∧ k ≤ n ∧ BkU wr g l rest ∧ Turn (fun k => k = g) w wr) (fun q _ => n - (intOf q).toNat)
  case atStart => exact ⟨1, by go_num, by omega, by omega, HB.out, Turn.refl _ _⟩
  case round =>
    obtain ⟨k, rfl, hk1, hk2, hbk, ht⟩ := hrel
    have HK := Lib.hid hbk
    have HT := Lib.hid ht
    clear ht
    by_cases hlt : k < n
    · have hci : (k : Int) < (n : Int) := by omega
      obtain ⟨x, hx⟩ : ∃ x, l[k]? = some x := ⟨_, List.getElem?_eq_getElem (by have := HL.out; omega)⟩
      obtain ⟨y, hy⟩ : ∃ y, l[k - 1]? = some y := ⟨_, List.getElem?_eq_getElem (by have := HL.out; omega)⟩
      have c1 := hbk.at_ hx
      have c2 := hbk.at_ hy
      have HX := Lib.hid hx
      have HY := Lib.hid hy
      have hkw : ((k : Int) - 1) = ((k - 1 : Nat) : Int) := by omega
      clear hbk hx hy
      by_cases hxy : x = y
      · have hd : ((x.toNat : Int) == (y.toNat : Int)) = true := by rw [hxy]; simp
        have HE := Lib.hid hxy
        clear hxy
        go_upto_region 6 with (fail)
        go_quiet (fail)
        obtain ⟨V, hV, hkV, htV⟩ : ∃ V, V = wr.drewN nq ∧ BkU V g l rest ∧ Turn (fun k => k = g) w V := ⟨_, rfl, HK.out, turnDrewN HT.out _⟩
        rw [← hV]
        have HKV := Lib.hid hkV
        have HTV := Lib.hid htV
        clear hV hkV htV c1 c2
        repeat (first | go_skip | go_guarded | go_step)
        go_loopw [3, 5] (fun q r wz => ∃ (kk k2 : Nat) (l' : List UInt32), q = .int .i64 (kk : Int) ∧ r = .int .i64 (k2 : Int) ∧ 1 ≤ k2 ∧ k + k2 ≤ n ∧ kk + 1 ≤ k + k2 ∧ l'.length = n ∧ (∀ i, k + k2 ≤ i + 1 → l'[i]? = l[i]?) ∧ (∀ v, v ∈ l'.take kk ↔ v ∈ l.take (k + k2)) ∧ BkU wz g l' rest ∧ Turn (fun k => k = g) w wz) (fun _ r _ => n - (intOf r).toNat)
        case atStart =>
          exact ⟨k, 1, l, rfl, by go_num, by omega, by omega, by omega, HL.out, fun _ _ => rfl, fun v => by
            rw [take_mem_snoc HX.out, HE.out]
            exact ⟨Or.inl, fun h => h.elim id fun e => by rw [e]; exact take_has HY.out (by omega)⟩, HKV.out, HTV.out⟩
        case round =>
          rename World => wz
          obtain ⟨kk, k2, l', rfl, rfl, h1, hle, hkk, hlen, hsame, hmem, hbk, ht⟩ := hrel
          have HZ := Lib.hid hbk
          have HTZ := Lib.hid ht
          have HM := Lib.hid hmem
          have HS := Lib.hid hsame
          have HLE := Lib.hid hlen
          clear ht hmem hlen
          by_cases hlt2 : k + k2 < n
          · have hci2 : (k2 : Int) < ((n - k : Nat) : Int) := by omega
            obtain ⟨u, hu⟩ : ∃ u, l[k + k2]? = some u := ⟨_, List.getElem?_eq_getElem (by have := HL.out; omega)⟩
            obtain ⟨v, hv⟩ : ∃ v, l[k + k2 - 1]? = some v := ⟨_, List.getElem?_eq_getElem (by have := HL.out; omega)⟩
            have c1 := hbk.at_ ((hsame _ (by omega)).trans hu)
            have c2 := hbk.at_ ((hsame _ (by omega)).trans hv)
            rw [show k + k2 - 1 = k + (k2 - 1) by omega] at c2
            have f1 := hbk.frozen kk
            obtain ⟨old, hold⟩ : ∃ old, l'[kk]? = some old := ⟨_, List.getElem?_eq_getElem (by have := HLE.out; omega)⟩
            have c3 := hbk.at_ hold
            have HU := Lib.hid hu
            have HV := Lib.hid hv
            have hkw : ((k2 : Int) - 1) = ((k2 - 1 : Nat) : Int) := by omega
            clear hbk hu hv hsame hold
            by_cases huv : u = v
            · have hd : ((u.toNat : Int) != (v.toNat : Int)) = false := by rw [huv]; simp
              have HE2 := Lib.hid huv
              clear huv
              go_upto_region 11 with (fail)
              go_quiet (fail)
              repeat (first | go_skip | go_guarded | go_step)
              go_roundw
              case rel =>
                exact ⟨kk, k2 + 1, l', rfl, by go_num, by omega, by omega, by omega, HLE.out, fun i hi => HS.out i (by omega), fun x => by
                  rw [show k + (k2 + 1) = k + k2 + 1 by omega, take_mem_snoc HU.out, HM.out]
                  exact ⟨Or.inl, fun h => h.elim id fun e => by rw [e, HE2.out]; exact take_has HV.out (by omega)⟩, HZ.out, turnDrewN HTZ.out _⟩
              case measure => simp [intOf]; omega
            · have hd : ((u.toNat : Int) != (v.toNat : Int)) = true := by
                rw [bne_iff_ne]; intro e; exact huv (UInt32.toNat_inj.1 (by omega))
              clear huv
              go_upto_region 11 with (fail)
              go_quiet (fail)
              repeat (first | go_skip | go_guarded | go_step)
              go_roundw
              case rel =>
                exact ⟨kk + 1, k2 + 1, l'.set kk u, by go_num, by go_num, by omega, by omega, by omega, by rw [List.length_set]; exact HLE.out, fun i hi => by rw [List.getElem?_set_ne (by omega)]; exact HS.out i (by omega), fun x => by
                  rw [show k + (k2 + 1) = k + k2 + 1 by omega, take_mem_snoc HU.out, take_mem_snoc (x := u) (by rw [List.getElem?_set_self (by have := HLE.out; omega)]), List.take_set_of_le (Nat.le_refl _), HM.out], BkU.set1 HZ.out (by have := HLE.out; omega) u, (turnDrewN HTZ.out _).setCell (p := ⟨g, kk, none⟩) (fun _ => rfl) _⟩
              case measure => simp [intOf]; omega
          · have hend : k + k2 = n := by omega
            have hci2 : ¬ (k2 : Int) < ((n - k : Nat) : Int) := by omega
            have hcl : ∀ ty, (Builtin.clear_ #[41] ty #[.slice (some ⟨g, kk, none⟩) (n - kk) (c - kk)]).run Try.prog wz = .ok (.tuple #[]) (wz.setCells g kk (List.replicate (n - kk) (.int .u32 0))) :=
              fun ty => Lib.run_clear_slice wz _ _ ty _ Try.underlying41 (fun w => by kernel_rfl) rfl rfl g kk _ _ (by omega) (fun j hj => by
                obtain ⟨x, hx⟩ : ∃ x, l'[kk + j]? = some x := ⟨_, List.getElem?_eq_getElem (by have := HLE.out; omega)⟩
                rw [hbk.at_ hx]; rfl) (fun j _ => hbk.frozen _)
            obtain ⟨l2, g1, g2, g3, g4⟩ := hbk.clear (n - kk) (k := kk) (by have := HLE.out; omega)
            obtain ⟨W2, hW2⟩ : ∃ W2, W2 = wz.setCells g kk (List.replicate (n - kk) (.int .u32 0)) := ⟨_, rfl⟩
            rw [← hW2] at hcl g3 g4
            have HR := Lib.hid (OwU.head (base := 0) (c := c) (g1.trans HLE.out) g3.lt g3 (show kk ≤ n by omega))
            have HT2 := Lib.hid (HTZ.out.trans g4)
            have HM2 := Lib.hid (show ∀ v, v ∈ l2.take kk ↔ v ∈ l from fun v => by
              rw [g2, HM.out, hend, List.take_of_length_le (by have := HL.out; omega)])
            clear g1 g2 g3 g4 hbk hsame hW2
            repeat (first | go_skip | go_guarded | go_step)
            go_ret
            exact ⟨kk, _, rfl, by omega, HM2.out, HR.out, HT2.out⟩
      · have hd : ((x.toNat : Int) == (y.toNat : Int)) = false := by
          rw [beq_eq_false_iff_ne]; intro e; exact hxy (UInt32.toNat_inj.1 (by omega))
        clear hxy
        go_upto_region 6 with (fail)
        go_quiet (fail)
        repeat (first | go_skip | go_guarded | go_step)
        go_roundw
        case rel => exact ⟨k + 1, by go_num, by omega, by omega, HK.out, turnDrewN HT.out _⟩
        case measure => simp [intOf]; omega
    · obtain rfl : n = k := by omega
      have hci : ¬ (n : Int) < (n : Int) := by omega
      repeat (first | go_skip | go_guarded | go_step)
      go_ret
      exact ⟨n, l, rfl, Nat.le_refl _, fun v => Iff.rfl, by have := OwU.head (base := 0) (c := c) HL.out HK.out.lt HK.out (Nat.le_refl n); rwa [List.take_of_length_le (by have := HL.out; omega)] at this, HT.out⟩
end Go.Proofs.Ytggnhgfickkgdaa
