/- slices.Sort of numbers of 32 bits: the partial insertion sort. (Written by genUsF.py.) -/
import Derived.Test.YtedgigoelhcfnaaUsP
set_option linter.unusedVariables false
set_option linter.unusedSimpArgs false
namespace Go.Proofs.Ytedgigoelhcfnaa
open Go Go.RowKit

theorem sorted_go {d : Array UInt32} {b i : Nat} (h : i < b) (hp : ltU d[i]! d[i - 1]! = false) : Go.Sort.scanSorted ltU d b (i + 1) = Go.Sort.scanSorted ltU d b i := by
  conv => rhs; rw [Go.Sort.scanSorted, if_pos (by simp [h, hp])]
theorem sorted_stop {d : Array UInt32} {b i : Nat} (h : ¬ i < b ∨ ltU d[i]! d[i - 1]! = true) : Go.Sort.scanSorted ltU d b i = i := by
  rw [Go.Sort.scanSorted, if_neg]
  rcases h with h | h
  · simp [h]
  · simp [h]
theorem sdown_go {d : Array UInt32} {j : Nat} (h : 0 < j) (hp : ltU d[j]! d[j - 1]! = true) : Go.Sort.shiftDown ltU (j - 1) (Go.Sort.swp d j (j - 1)) = Go.Sort.shiftDown ltU j d := by
  obtain ⟨k, rfl⟩ : ∃ k, j = k + 1 := ⟨j - 1, by omega⟩
  simp only [Nat.add_sub_cancel] at hp ⊢
  conv => rhs; rw [Go.Sort.shiftDown, if_neg (by simp [hp])]
theorem sdown_stop {d : Array UInt32} {j : Nat} (h : ¬ 0 < j ∨ ltU d[j]! d[j - 1]! = false) : Go.Sort.shiftDown ltU j d = d := by
  cases j with
  | zero => rfl
  | succ k =>
    rcases h with h | h
    · omega
    · simp only [Nat.add_sub_cancel] at h
      rw [Go.Sort.shiftDown, if_pos (by simp [h])]
theorem sup_go {d : Array UInt32} {b j : Nat} (h : j < b) (hp : ltU d[j]! d[j - 1]! = true) : Go.Sort.shiftUp ltU b (j + 1) (Go.Sort.swp d j (j - 1)) = Go.Sort.shiftUp ltU b j d := by
  conv => rhs; rw [Go.Sort.shiftUp, if_pos h, if_neg (by simp [hp])]
theorem sup_stop {d : Array UInt32} {b j : Nat} (h : ¬ j < b ∨ ltU d[j]! d[j - 1]! = false) : Go.Sort.shiftUp ltU b j d = d := by
  rw [Go.Sort.shiftUp]
  rcases h with h | h
  · rw [if_neg h]
  · by_cases hj : j < b
    · rw [if_pos hj, if_pos (by simp [h])]
    · rw [if_neg hj]
theorem pi_done {a b s i : Nat} {d : Array UInt32} (h : Go.Sort.scanSorted ltU d b i = b) : Go.Sort.partialIns ltU a b (s + 1) i d = (d, true) := by
  rw [Go.Sort.partialIns]
  simp only [h, if_true]
theorem pi_small {a b s i i2 : Nat} {d : Array UInt32} (h : Go.Sort.scanSorted ltU d b i = i2) (hb : ¬ i2 = b) (hs : b - a < 50) : Go.Sort.partialIns ltU a b (s + 1) i d = (d, false) := by
  rw [Go.Sort.partialIns]
  simp only [h, if_neg hb, if_pos hs]
theorem pi_more {a b s i i2 : Nat} {d D2 D3 : Array UInt32} (h : Go.Sort.scanSorted ltU d b i = i2) (hb : ¬ i2 = b) (hs : ¬ b - a < 50)
    (h2 : D2 = if i2 - a ≥ 2 then Go.Sort.shiftDown ltU (i2 - 1) (Go.Sort.swp d i2 (i2 - 1)) else Go.Sort.swp d i2 (i2 - 1)) (h3 : D3 = if b - i2 ≥ 2 then Go.Sort.shiftUp ltU b (i2 + 1) D2 else D2) :
    Go.Sort.partialIns ltU a b s i2 D3 = Go.Sort.partialIns ltU a b (s + 1) i d := by
  subst h2 h3
  conv => rhs; rw [Go.Sort.partialIns]; simp only [h, if_neg hb, if_neg hs]
set_option maxRecDepth 100000 in
set_option maxHeartbeats 32000000 in
theorem usPins (g c a b : Nat) (d : Array UInt32) (rest : List Value) (w : World) (n : Nat) (hn : n = d.size) (hb : BkA w g d rest) (hab : a < b) (hbd : b ≤ n) (hsz : n ≤ 1000000000000) :
    Calls Try.prog 33 #[.slice (some ⟨g, 0, none⟩) n c, .int .i64 (a : Int), .int .i64 (b : Int)] w fun e w' =>
      e = .returned (.bool (Go.Sort.partialInsertionSort ltU d a b).2) ∧ BkA w' g (Go.Sort.partialInsertionSort ltU d a b).1 rest ∧ Turn (fun k => k = g) w w' := by
  have HN := Lib.hid hn
  have HB := Lib.hid hb
  clear hb hn
  go_enter Try.func33, Try.ntmps33
  repeat (first | go_skip | go_guarded | go_step)
  go_loopw [7, 8] (fun p q wr => ∃ (i t s : Nat) (dk : Array UInt32), p = .int .i64 (i : Int) ∧ q = .int .i64 (t : Int) ∧ t + s = 5 ∧ a + 1 ≤ i ∧ i ≤ b ∧ dk.size = n ∧ Go.Sort.partialIns ltU a b s i dk = Go.Sort.partialInsertionSort ltU d a b ∧ BkA wr g dk rest ∧ Turn (fun k => k = g) w wr) (fun _ q _ => 5 - (intOf q).toNat)
  case atStart => exact ⟨a + 1, 0, 5, d, by go_num, by go_num, rfl, by omega, by omega, HN.out.symm, rfl, HB.out, Turn.refl _ _⟩
  case round =>
    rename World => wr
    obtain ⟨i, t, s, dk, rfl, rfl, hts, hi1, hi2, hdk, hO, hbk, ht⟩ := hrel
    have HO := Lib.hid hO
    have HK := Lib.hid hbk
    have HT := Lib.hid ht
    have HDK := Lib.hid hdk
    have HTS := Lib.hid hts
    clear hO hbk ht hdk
    by_cases h5 : t < 5
    · have h5i : (t : Int) < 5 := by omega
      obtain ⟨s, rfl⟩ : ∃ s', s = s' + 1 := ⟨s - 1, by omega⟩
      repeat (first | go_skip | go_guarded | go_step)
      go_loopw [7] (fun p wr => ∃ (i2 : Nat), p = .int .i64 (i2 : Int) ∧ i ≤ i2 ∧ i2 ≤ b ∧ Go.Sort.scanSorted ltU dk b i2 = Go.Sort.scanSorted ltU dk b i ∧ BkA wr g dk rest ∧ Turn (fun k => k = g) w wr) (fun p _ => b - (intOf p).toNat)
      case atStart => exact ⟨i, rfl, Nat.le_refl _, hi2, rfl, HK.out, HT.out⟩
      case round =>
        rename World => wr
        obtain ⟨i2, rfl, hi3, hi4, hS, hbk, ht⟩ := hrel
        have HS := Lib.hid hS
        have HK2 := Lib.hid hbk
        have HT2 := Lib.hid ht
        have HDJ := HDK
        clear hS ht
        by_cases hlt : i2 < b
        · have hci : decide ((i2 : Int) < (b : Int)) = true := by simp; omega
          have c1 := hbk.at_ (i := i2) (by rw [HDJ.out]; omega)
          have c2 := hbk.at_ (i := i2 - 1) (by rw [HDJ.out]; omega)
          generalize hx : dk[i2]! = x at c1
          generalize hy : dk[i2 - 1]! = y at c2
          have HX := Lib.hid hx
          have HY := Lib.hid hy
          have hjw : ((i2 : Int) - 1) = ((i2 - 1 : Nat) : Int) := by omega
          clear hbk hx hy
          go_upto_region 5 with (fail)
          go_quiet (refine Calls.quiet_of_same (usLess _ _ _))
          obtain ⟨U, hU, hkU, htU⟩ : ∃ U, U = wr.drewN nq ∧ BkA U g dk rest ∧ Turn (fun k => k = g) w U := ⟨_, rfl, HK2.out, usDrew HT2.out _⟩
          rw [← hU]
          have HKU := Lib.hid hkU
          have HTU := Lib.hid htU
          clear hU hkU htU c1 c2
          cases hl : ltU x y with
          | false =>
            have HL := Lib.hid hl
            clear hl
            repeat (first | go_skip | go_guarded | go_step)
            go_roundw
            case rel => exact ⟨i2 + 1, by go_num, by omega, by omega, by rw [sorted_go hlt (by rw [HX.out, HY.out]; exact HL.out)]; exact HS.out, HKU.out, HTU.out⟩
            case measure => simp [intOf]; omega
          | true =>
            have HSC := Lib.hid (show Go.Sort.scanSorted ltU dk b i = i2 by rw [← HS.out]; exact sorted_stop (.inr (by rw [HX.out, HY.out]; exact hl)))
            have hib : ¬ i2 = b := by omega
            have hibi : ¬ (i2 : Int) = (b : Int) := by omega
            clear hl
            by_cases h50 : b - a < 50
            · have h50i : (b : Int) - (a : Int) < 50 := by omega
              have HE := Lib.hid (show Go.Sort.partialInsertionSort ltU d a b = (dk, false) by rw [← HO.out]; exact pi_small HSC.out hib h50)
              repeat (first | go_skip | go_guarded | go_step)
              go_ret
              exact ⟨by rw [HE.out]; rfl, by rw [HE.out]; exact HKU.out, HTU.out⟩
            · have h50i : ¬ (b : Int) - (a : Int) < 50 := by omega
              have d1 := HKU.out.at_ (i := i2) (by rw [HDJ.out]; omega)
              have d2 := HKU.out.at_ (i := i2 - 1) (by rw [HDJ.out]; omega)
              rw [HX.out] at d1
              rw [HY.out] at d2
              have e1 := HKU.out.frozen i2
              have e2 := HKU.out.frozen (i2 - 1)
              repeat (first | go_skip | go_guarded | go_step)
              go_region
              obtain ⟨Z, hZ, hkZ, htZ⟩ : ∃ Z, Z = ((U.setCell { block := g, off := i2 } (Value.int IntKind.u32 y.toNat)).setCell { block := g, off := i2 - 1 } (Value.int IntKind.u32 x.toNat)).drew ∧ BkA Z g (Go.Sort.swp dk i2 (i2 - 1)) rest ∧ Turn (fun k => k = g) w Z :=
                ⟨_, rfl, HKU.out.swp (by rw [HDJ.out]; omega) (by rw [HDJ.out]; omega) HX.out HY.out, (usSwpT HTU.out g i2 (i2 - 1) rfl _ _).drew⟩
              rw [← hZ]
              have H9K := Lib.hid hkZ
              have H9T := Lib.hid htZ
              clear hZ hkZ htZ d1 d2 e1 e2
              have H5N := Lib.hid h50
              have HIB := Lib.hid hib
              have HDS := Lib.hid (show (Go.Sort.swp dk i2 (i2 - 1)).size = n by rw [Go.Sort.size_swp]; exact HDK.out)
              clear HDJ HX HY h50i hibi h50 hib hci HKU HTU HK2 HT2
              by_cases h2a : 2 ≤ i2 - a
              · have h2ai : (2 : Int) ≤ (i2 : Int) - (a : Int) := by omega
                have hjw : ((i2 : Int) - 1) = ((i2 - 1 : Nat) : Int) := by omega
                repeat (first | go_skip | go_guarded | go_step)
                go_loopw [9] (fun p wr => ∃ (j : Nat) (dj : Array UInt32), p = .int .i64 (j : Int) ∧ j ≤ i2 - 1 ∧ dj.size = n ∧ Go.Sort.shiftDown ltU j dj = Go.Sort.shiftDown ltU (i2 - 1) (Go.Sort.swp dk i2 (i2 - 1)) ∧ BkA wr g dj rest ∧ Turn (fun k => k = g) w wr) (fun p _ => (intOf p).toNat)
                case atStart => exact ⟨i2 - 1, _, rfl, Nat.le_refl _, HDS.out, rfl, H9K.out, H9T.out⟩
                case round =>
                  rename World => wr
                  obtain ⟨j, dj, rfl, hj1, hdj, hS, hbk, ht⟩ := hrel
                  have HS2 := Lib.hid hS
                  have HK2 := Lib.hid hbk
                  have HT2 := Lib.hid ht
                  have HDJ := Lib.hid hdj
                  clear hS ht hdj hjw
                  by_cases hj0 : 0 < j
                  · have hj0i : (1 : Int) ≤ (j : Int) := by omega
                    have c1 := hbk.at_ (i := j) (by rw [HDJ.out]; omega)
                    have c2 := hbk.at_ (i := j - 1) (by rw [HDJ.out]; omega)
                    generalize hx : dj[j]! = x at c1
                    generalize hy : dj[j - 1]! = y at c2
                    have HX := Lib.hid hx
                    have HY := Lib.hid hy
                    have hjw : ((j : Int) - 1) = ((j - 1 : Nat) : Int) := by omega
                    clear hbk hx hy
                    go_upto_region 16 with (fail)
                    go_quiet (refine Calls.quiet_of_same (usLess _ _ _))
                    obtain ⟨U, hU, hkU, htU⟩ : ∃ U, U = wr.drewN nq ∧ BkA U g dj rest ∧ Turn (fun k => k = g) w U := ⟨_, rfl, HK2.out, usDrew HT2.out _⟩
                    rw [← hU]
                    have HKU := Lib.hid hkU
                    have HTU := Lib.hid htU
                    clear hU hkU htU c1 c2
                    cases hl : ltU x y with
                    | true =>
                      have HL := Lib.hid hl
                      clear hl
                      have d1 := HKU.out.at_ (i := j) (by rw [HDJ.out]; omega)
                      have d2 := HKU.out.at_ (i := j - 1) (by rw [HDJ.out]; omega)
                      rw [HX.out] at d1
                      rw [HY.out] at d2
                      have e1 := HKU.out.frozen j
                      have e2 := HKU.out.frozen (j - 1)
                      repeat (first | go_skip | go_guarded | go_step)
                      go_region
                      obtain ⟨Z, hZ, hkZ, htZ⟩ : ∃ Z, Z = ((U.setCell { block := g, off := j } (Value.int IntKind.u32 y.toNat)).setCell { block := g, off := j - 1 } (Value.int IntKind.u32 x.toNat)).drew ∧ BkA Z g (Go.Sort.swp dj j (j - 1)) rest ∧ Turn (fun k => k = g) w Z :=
                        ⟨_, rfl, HKU.out.swp (by rw [HDJ.out]; omega) (by rw [HDJ.out]; omega) HX.out HY.out, (usSwpT HTU.out g j (j - 1) rfl _ _).drew⟩
                      rw [← hZ]
                      have H8K := Lib.hid hkZ
                      have H8T := Lib.hid htZ
                      clear hZ hkZ htZ d1 d2 e1 e2
                      repeat (first | go_skip | go_guarded | go_step)
                      go_roundw
                      case rel => exact ⟨j - 1, _, by go_num, by omega, by rw [Go.Sort.size_swp]; exact HDJ.out, by rw [sdown_go hj0 (by rw [HX.out, HY.out]; exact HL.out)]; exact HS2.out, H8K.out, H8T.out⟩
                      case measure => simp [intOf]; omega
                    | false =>
                      have HD2 := Lib.hid (show dj = if i2 - a ≥ 2 then Go.Sort.shiftDown ltU (i2 - 1) (Go.Sort.swp dk i2 (i2 - 1)) else Go.Sort.swp dk i2 (i2 - 1) by rw [if_pos h2a, ← HS2.out, sdown_stop (.inr (by rw [HX.out, HY.out]; exact hl))])
                      clear hl hjw
                      clear HX HY
                      by_cases h2b : 2 ≤ b - i2
                      · have h2bi : (2 : Int) ≤ (b : Int) - (i2 : Int) := by omega
                        repeat (first | go_skip | go_guarded | go_step)
                        go_loopw [10] (fun p wr => ∃ (m : Nat) (dm : Array UInt32), p = .int .i64 (m : Int) ∧ i2 + 1 ≤ m ∧ m ≤ b ∧ dm.size = n ∧ Go.Sort.shiftUp ltU b m dm = Go.Sort.shiftUp ltU b (i2 + 1) dj ∧ BkA wr g dm rest ∧ Turn (fun k => k = g) w wr) (fun p _ => b - (intOf p).toNat)
                        case atStart => exact ⟨i2 + 1, _, by go_num, Nat.le_refl _, by omega, HDJ.out, rfl, HKU.out, HTU.out⟩
                        case round =>
                          rename World => wr
                          clear HKU HTU
                          obtain ⟨m, dm, rfl, hm1, hm2, hdm, hS, hbk, ht⟩ := hrel
                          have HS3 := Lib.hid hS
                          have HK2 := Lib.hid hbk
                          have HT2 := Lib.hid ht
                          have HD0 := HDJ
                          clear HDJ
                          have HDJ := Lib.hid hdm
                          clear hS ht hdm
                          by_cases hmb : m < b
                          · have hmbi : (m : Int) < (b : Int) := by omega
                            have c1 := hbk.at_ (i := m) (by rw [HDJ.out]; omega)
                            have c2 := hbk.at_ (i := m - 1) (by rw [HDJ.out]; omega)
                            generalize hx : dm[m]! = x at c1
                            generalize hy : dm[m - 1]! = y at c2
                            have HX := Lib.hid hx
                            have HY := Lib.hid hy
                            have hjw : ((m : Int) - 1) = ((m - 1 : Nat) : Int) := by omega
                            clear hbk hx hy
                            go_upto_region 22 with (fail)
                            go_quiet (refine Calls.quiet_of_same (usLess _ _ _))
                            obtain ⟨U, hU, hkU, htU⟩ : ∃ U, U = wr.drewN nq ∧ BkA U g dm rest ∧ Turn (fun k => k = g) w U := ⟨_, rfl, HK2.out, usDrew HT2.out _⟩
                            rw [← hU]
                            have HKU := Lib.hid hkU
                            have HTU := Lib.hid htU
                            clear hU hkU htU c1 c2
                            cases hl : ltU x y with
                            | true =>
                              have HL := Lib.hid hl
                              clear hl
                              have d1 := HKU.out.at_ (i := m) (by rw [HDJ.out]; omega)
                              have d2 := HKU.out.at_ (i := m - 1) (by rw [HDJ.out]; omega)
                              rw [HX.out] at d1
                              rw [HY.out] at d2
                              have e1 := HKU.out.frozen m
                              have e2 := HKU.out.frozen (m - 1)
                              repeat (first | go_skip | go_guarded | go_step)
                              go_region
                              obtain ⟨Z, hZ, hkZ, htZ⟩ : ∃ Z, Z = ((U.setCell { block := g, off := m } (Value.int IntKind.u32 y.toNat)).setCell { block := g, off := m - 1 } (Value.int IntKind.u32 x.toNat)).drew ∧ BkA Z g (Go.Sort.swp dm m (m - 1)) rest ∧ Turn (fun k => k = g) w Z :=
                                ⟨_, rfl, HKU.out.swp (by rw [HDJ.out]; omega) (by rw [HDJ.out]; omega) HX.out HY.out, (usSwpT HTU.out g m (m - 1) rfl _ _).drew⟩
                              rw [← hZ]
                              have H7K := Lib.hid hkZ
                              have H7T := Lib.hid htZ
                              clear hZ hkZ htZ d1 d2 e1 e2
                              repeat (first | go_skip | go_guarded | go_step)
                              go_roundw
                              case rel => exact ⟨m + 1, _, by go_num, by omega, by omega, by rw [Go.Sort.size_swp]; exact HDJ.out, by rw [sup_go hmb (by rw [HX.out, HY.out]; exact HL.out)]; exact HS3.out, H7K.out, H7T.out⟩
                              case measure => simp [intOf]; omega
                            | false =>
                              have HD3 := Lib.hid (show dm = if b - i2 ≥ 2 then Go.Sort.shiftUp ltU b (i2 + 1) dj else dj by rw [if_pos h2b, ← HS3.out, sup_stop (.inr (by rw [HX.out, HY.out]; exact hl))])
                              clear hl hjw
                              repeat (first | go_skip | go_guarded | go_step)
                              go_roundw
                              case rel => exact ⟨i2, t + 1, s, dm, rfl, by go_num, by have := HTS.out; omega, by omega, by omega, HDJ.out, by rw [pi_more HSC.out HIB.out H5N.out HD2.out HD3.out]; exact HO.out, HKU.out, HTU.out⟩
                              case measure => simp [intOf]; omega
                          · have hmbi : ¬ (m : Int) < (b : Int) := by omega
                            have HD3 := Lib.hid (show dm = if b - i2 ≥ 2 then Go.Sort.shiftUp ltU b (i2 + 1) dj else dj by rw [if_pos h2b, ← HS3.out, sup_stop (.inl hmb)])
                            clear hbk
                            repeat (first | go_skip | go_guarded | go_step)
                            go_roundw
                            case rel => exact ⟨i2, t + 1, s, dm, rfl, by go_num, by have := HTS.out; omega, by omega, by omega, HDJ.out, by rw [pi_more HSC.out HIB.out H5N.out HD2.out HD3.out]; exact HO.out, HK2.out, HT2.out⟩
                            case measure => simp [intOf]; omega
                      · have h2bi : decide ((2 : Int) ≤ (b : Int) - (i2 : Int)) = false := by simp; omega
                        have HD3 := Lib.hid (show dj = if b - i2 ≥ 2 then Go.Sort.shiftUp ltU b (i2 + 1) dj else dj by rw [if_neg h2b])
                        repeat (first | go_skip | go_guarded | go_step)
                        go_roundw
                        case rel => exact ⟨i2, t + 1, s, dj, rfl, by go_num, by have := HTS.out; omega, by omega, by omega, HDJ.out, by rw [pi_more HSC.out HIB.out H5N.out HD2.out HD3.out]; exact HO.out, HKU.out, HTU.out⟩
                        case measure => simp [intOf]; omega
                  · have hj0i : ¬ (1 : Int) ≤ (j : Int) := by omega
                    have HD2 := Lib.hid (show dj = if i2 - a ≥ 2 then Go.Sort.shiftDown ltU (i2 - 1) (Go.Sort.swp dk i2 (i2 - 1)) else Go.Sort.swp dk i2 (i2 - 1) by rw [if_pos h2a, ← HS2.out, sdown_stop (.inl hj0)])
                    clear hbk
                    by_cases h2b : 2 ≤ b - i2
                    · have h2bi : (2 : Int) ≤ (b : Int) - (i2 : Int) := by omega
                      repeat (first | go_skip | go_guarded | go_step)
                      go_loopw [10] (fun p wr => ∃ (m : Nat) (dm : Array UInt32), p = .int .i64 (m : Int) ∧ i2 + 1 ≤ m ∧ m ≤ b ∧ dm.size = n ∧ Go.Sort.shiftUp ltU b m dm = Go.Sort.shiftUp ltU b (i2 + 1) dj ∧ BkA wr g dm rest ∧ Turn (fun k => k = g) w wr) (fun p _ => b - (intOf p).toNat)
                      case atStart => exact ⟨i2 + 1, _, by go_num, Nat.le_refl _, by omega, HDJ.out, rfl, HK2.out, HT2.out⟩
                      case round =>
                        rename World => wr
                        clear HK2 HT2
                        obtain ⟨m, dm, rfl, hm1, hm2, hdm, hS, hbk, ht⟩ := hrel
                        have HS3 := Lib.hid hS
                        have HK2 := Lib.hid hbk
                        have HT2 := Lib.hid ht
                        have HD0 := HDJ
                        clear HDJ
                        have HDJ := Lib.hid hdm
                        clear hS ht hdm
                        by_cases hmb : m < b
                        · have hmbi : (m : Int) < (b : Int) := by omega
                          have c1 := hbk.at_ (i := m) (by rw [HDJ.out]; omega)
                          have c2 := hbk.at_ (i := m - 1) (by rw [HDJ.out]; omega)
                          generalize hx : dm[m]! = x at c1
                          generalize hy : dm[m - 1]! = y at c2
                          have HX := Lib.hid hx
                          have HY := Lib.hid hy
                          have hjw : ((m : Int) - 1) = ((m - 1 : Nat) : Int) := by omega
                          clear hbk hx hy
                          go_upto_region 22 with (fail)
                          go_quiet (refine Calls.quiet_of_same (usLess _ _ _))
                          obtain ⟨U, hU, hkU, htU⟩ : ∃ U, U = wr.drewN nq ∧ BkA U g dm rest ∧ Turn (fun k => k = g) w U := ⟨_, rfl, HK2.out, usDrew HT2.out _⟩
                          rw [← hU]
                          have HKU := Lib.hid hkU
                          have HTU := Lib.hid htU
                          clear hU hkU htU c1 c2
                          cases hl : ltU x y with
                          | true =>
                            have HL := Lib.hid hl
                            clear hl
                            have d1 := HKU.out.at_ (i := m) (by rw [HDJ.out]; omega)
                            have d2 := HKU.out.at_ (i := m - 1) (by rw [HDJ.out]; omega)
                            rw [HX.out] at d1
                            rw [HY.out] at d2
                            have e1 := HKU.out.frozen m
                            have e2 := HKU.out.frozen (m - 1)
                            repeat (first | go_skip | go_guarded | go_step)
                            go_region
                            obtain ⟨Z, hZ, hkZ, htZ⟩ : ∃ Z, Z = ((U.setCell { block := g, off := m } (Value.int IntKind.u32 y.toNat)).setCell { block := g, off := m - 1 } (Value.int IntKind.u32 x.toNat)).drew ∧ BkA Z g (Go.Sort.swp dm m (m - 1)) rest ∧ Turn (fun k => k = g) w Z :=
                              ⟨_, rfl, HKU.out.swp (by rw [HDJ.out]; omega) (by rw [HDJ.out]; omega) HX.out HY.out, (usSwpT HTU.out g m (m - 1) rfl _ _).drew⟩
                            rw [← hZ]
                            have H7K := Lib.hid hkZ
                            have H7T := Lib.hid htZ
                            clear hZ hkZ htZ d1 d2 e1 e2
                            repeat (first | go_skip | go_guarded | go_step)
                            go_roundw
                            case rel => exact ⟨m + 1, _, by go_num, by omega, by omega, by rw [Go.Sort.size_swp]; exact HDJ.out, by rw [sup_go hmb (by rw [HX.out, HY.out]; exact HL.out)]; exact HS3.out, H7K.out, H7T.out⟩
                            case measure => simp [intOf]; omega
                          | false =>
                            have HD3 := Lib.hid (show dm = if b - i2 ≥ 2 then Go.Sort.shiftUp ltU b (i2 + 1) dj else dj by rw [if_pos h2b, ← HS3.out, sup_stop (.inr (by rw [HX.out, HY.out]; exact hl))])
                            clear hl hjw
                            repeat (first | go_skip | go_guarded | go_step)
                            go_roundw
                            case rel => exact ⟨i2, t + 1, s, dm, rfl, by go_num, by have := HTS.out; omega, by omega, by omega, HDJ.out, by rw [pi_more HSC.out HIB.out H5N.out HD2.out HD3.out]; exact HO.out, HKU.out, HTU.out⟩
                            case measure => simp [intOf]; omega
                        · have hmbi : ¬ (m : Int) < (b : Int) := by omega
                          have HD3 := Lib.hid (show dm = if b - i2 ≥ 2 then Go.Sort.shiftUp ltU b (i2 + 1) dj else dj by rw [if_pos h2b, ← HS3.out, sup_stop (.inl hmb)])
                          clear hbk
                          repeat (first | go_skip | go_guarded | go_step)
                          go_roundw
                          case rel => exact ⟨i2, t + 1, s, dm, rfl, by go_num, by have := HTS.out; omega, by omega, by omega, HDJ.out, by rw [pi_more HSC.out HIB.out H5N.out HD2.out HD3.out]; exact HO.out, HK2.out, HT2.out⟩
                          case measure => simp [intOf]; omega
                    · have h2bi : decide ((2 : Int) ≤ (b : Int) - (i2 : Int)) = false := by simp; omega
                      have HD3 := Lib.hid (show dj = if b - i2 ≥ 2 then Go.Sort.shiftUp ltU b (i2 + 1) dj else dj by rw [if_neg h2b])
                      repeat (first | go_skip | go_guarded | go_step)
                      go_roundw
                      case rel => exact ⟨i2, t + 1, s, dj, rfl, by go_num, by have := HTS.out; omega, by omega, by omega, HDJ.out, by rw [pi_more HSC.out HIB.out H5N.out HD2.out HD3.out]; exact HO.out, HK2.out, HT2.out⟩
                      case measure => simp [intOf]; omega
              · have h2ai : ¬ (2 : Int) ≤ (i2 : Int) - (a : Int) := by omega
                have HD2 := Lib.hid (show Go.Sort.swp dk i2 (i2 - 1) = if i2 - a ≥ 2 then Go.Sort.shiftDown ltU (i2 - 1) (Go.Sort.swp dk i2 (i2 - 1)) else Go.Sort.swp dk i2 (i2 - 1) by rw [if_neg h2a])
                by_cases h2b : 2 ≤ b - i2
                · have h2bi : (2 : Int) ≤ (b : Int) - (i2 : Int) := by omega
                  repeat (first | go_skip | go_guarded | go_step)
                  go_loopw [10] (fun p wr => ∃ (m : Nat) (dm : Array UInt32), p = .int .i64 (m : Int) ∧ i2 + 1 ≤ m ∧ m ≤ b ∧ dm.size = n ∧ Go.Sort.shiftUp ltU b m dm = Go.Sort.shiftUp ltU b (i2 + 1) (Go.Sort.swp dk i2 (i2 - 1)) ∧ BkA wr g dm rest ∧ Turn (fun k => k = g) w wr) (fun p _ => b - (intOf p).toNat)
                  case atStart => exact ⟨i2 + 1, _, by go_num, Nat.le_refl _, by omega, HDS.out, rfl, H9K.out, H9T.out⟩
                  case round =>
                    rename World => wr
                    clear H9K H9T
                    obtain ⟨m, dm, rfl, hm1, hm2, hdm, hS, hbk, ht⟩ := hrel
                    have HS3 := Lib.hid hS
                    have HK2 := Lib.hid hbk
                    have HT2 := Lib.hid ht
                    have HD0 := HDS
                    clear HDS
                    have HDJ := Lib.hid hdm
                    clear hS ht hdm
                    by_cases hmb : m < b
                    · have hmbi : (m : Int) < (b : Int) := by omega
                      have c1 := hbk.at_ (i := m) (by rw [HDJ.out]; omega)
                      have c2 := hbk.at_ (i := m - 1) (by rw [HDJ.out]; omega)
                      generalize hx : dm[m]! = x at c1
                      generalize hy : dm[m - 1]! = y at c2
                      have HX := Lib.hid hx
                      have HY := Lib.hid hy
                      have hjw : ((m : Int) - 1) = ((m - 1 : Nat) : Int) := by omega
                      clear hbk hx hy
                      go_upto_region 22 with (fail)
                      go_quiet (refine Calls.quiet_of_same (usLess _ _ _))
                      obtain ⟨U, hU, hkU, htU⟩ : ∃ U, U = wr.drewN nq ∧ BkA U g dm rest ∧ Turn (fun k => k = g) w U := ⟨_, rfl, HK2.out, usDrew HT2.out _⟩
                      rw [← hU]
                      have HKU := Lib.hid hkU
                      have HTU := Lib.hid htU
                      clear hU hkU htU c1 c2
                      cases hl : ltU x y with
                      | true =>
                        have HL := Lib.hid hl
                        clear hl
                        have d1 := HKU.out.at_ (i := m) (by rw [HDJ.out]; omega)
                        have d2 := HKU.out.at_ (i := m - 1) (by rw [HDJ.out]; omega)
                        rw [HX.out] at d1
                        rw [HY.out] at d2
                        have e1 := HKU.out.frozen m
                        have e2 := HKU.out.frozen (m - 1)
                        repeat (first | go_skip | go_guarded | go_step)
                        go_region
                        obtain ⟨Z, hZ, hkZ, htZ⟩ : ∃ Z, Z = ((U.setCell { block := g, off := m } (Value.int IntKind.u32 y.toNat)).setCell { block := g, off := m - 1 } (Value.int IntKind.u32 x.toNat)).drew ∧ BkA Z g (Go.Sort.swp dm m (m - 1)) rest ∧ Turn (fun k => k = g) w Z :=
                          ⟨_, rfl, HKU.out.swp (by rw [HDJ.out]; omega) (by rw [HDJ.out]; omega) HX.out HY.out, (usSwpT HTU.out g m (m - 1) rfl _ _).drew⟩
                        rw [← hZ]
                        have H7K := Lib.hid hkZ
                        have H7T := Lib.hid htZ
                        clear hZ hkZ htZ d1 d2 e1 e2
                        repeat (first | go_skip | go_guarded | go_step)
                        go_roundw
                        case rel => exact ⟨m + 1, _, by go_num, by omega, by omega, by rw [Go.Sort.size_swp]; exact HDJ.out, by rw [sup_go hmb (by rw [HX.out, HY.out]; exact HL.out)]; exact HS3.out, H7K.out, H7T.out⟩
                        case measure => simp [intOf]; omega
                      | false =>
                        have HD3 := Lib.hid (show dm = if b - i2 ≥ 2 then Go.Sort.shiftUp ltU b (i2 + 1) (Go.Sort.swp dk i2 (i2 - 1)) else (Go.Sort.swp dk i2 (i2 - 1)) by rw [if_pos h2b, ← HS3.out, sup_stop (.inr (by rw [HX.out, HY.out]; exact hl))])
                        clear hl hjw
                        repeat (first | go_skip | go_guarded | go_step)
                        go_roundw
                        case rel => exact ⟨i2, t + 1, s, dm, rfl, by go_num, by have := HTS.out; omega, by omega, by omega, HDJ.out, by rw [pi_more HSC.out HIB.out H5N.out HD2.out HD3.out]; exact HO.out, HKU.out, HTU.out⟩
                        case measure => simp [intOf]; omega
                    · have hmbi : ¬ (m : Int) < (b : Int) := by omega
                      have HD3 := Lib.hid (show dm = if b - i2 ≥ 2 then Go.Sort.shiftUp ltU b (i2 + 1) (Go.Sort.swp dk i2 (i2 - 1)) else (Go.Sort.swp dk i2 (i2 - 1)) by rw [if_pos h2b, ← HS3.out, sup_stop (.inl hmb)])
                      clear hbk
                      repeat (first | go_skip | go_guarded | go_step)
                      go_roundw
                      case rel => exact ⟨i2, t + 1, s, dm, rfl, by go_num, by have := HTS.out; omega, by omega, by omega, HDJ.out, by rw [pi_more HSC.out HIB.out H5N.out HD2.out HD3.out]; exact HO.out, HK2.out, HT2.out⟩
                      case measure => simp [intOf]; omega
                · have h2bi : decide ((2 : Int) ≤ (b : Int) - (i2 : Int)) = false := by simp; omega
                  have HD3 := Lib.hid (show (Go.Sort.swp dk i2 (i2 - 1)) = if b - i2 ≥ 2 then Go.Sort.shiftUp ltU b (i2 + 1) (Go.Sort.swp dk i2 (i2 - 1)) else (Go.Sort.swp dk i2 (i2 - 1)) by rw [if_neg h2b])
                  repeat (first | go_skip | go_guarded | go_step)
                  go_roundw
                  case rel => exact ⟨i2, t + 1, s, (Go.Sort.swp dk i2 (i2 - 1)), rfl, by go_num, by have := HTS.out; omega, by omega, by omega, HDS.out, by rw [pi_more HSC.out HIB.out H5N.out HD2.out HD3.out]; exact HO.out, H9K.out, H9T.out⟩
                  case measure => simp [intOf]; omega
        · have hci : decide ((i2 : Int) < (b : Int)) = false := by simp; omega
          have hib : i2 = b := by omega
          have hibi : (i2 : Int) = (b : Int) := by omega
          have HE := Lib.hid (show Go.Sort.partialInsertionSort ltU d a b = (dk, true) by rw [← HO.out]; exact pi_done (by rw [← HS.out, sorted_stop (.inl hlt)]; exact hib))
          clear hbk hib
          go_upto_region 5 with (fail)
          go_quiet (fail)
          repeat (first | go_skip | go_guarded | go_step)
          go_ret
          exact ⟨by rw [HE.out]; rfl, by rw [HE.out]; exact HK2.out, usDrew HT2.out _⟩
    · have h5i : ¬ (t : Int) < 5 := by omega
      have hs0 : s = 0 := by omega
      subst hs0
      have HE := Lib.hid (show Go.Sort.partialInsertionSort ltU d a b = (dk, false) by rw [← HO.out]; rfl)
      repeat (first | go_skip | go_guarded | go_step)
      go_ret
      exact ⟨by rw [HE.out]; rfl, by rw [HE.out]; exact HK.out, HT.out⟩
end Go.Proofs.Ytedgigoelhcfnaa
