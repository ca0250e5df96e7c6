/- Layer 9 (graph), the document: Parts, walked. -/
import Derived.Test.YtbfagejdpbagjaaGrU
import Derived.Test.YtbfagejdpbagjaaGrY
set_option linter.unusedVariables false
set_option linter.unusedSimpArgs false
namespace Go.Proofs.Ytbfagejdpbagjaa
open Go Go.RowKit

/-- Behind the checks: what the rows, and then the parts, are. -/
theorem order_snoc {n : Nat} {E : List (Nat × Nat)} {P : List (List Nat)} {v : Nat} (hv : Nxt n E P.flatten v) (h : ∀ L', Order n E P.flatten L' → Order n E [] (P ++ L')) : ∀ L', Order n E (P ++ [part n E v]).flatten L' → Order n E [] ((P ++ [part n E v]) ++ L') := by
  intro L' hL
  rw [List.flatten_append] at hL
  have e : [part n E v].flatten = part n E v := by simp
  rw [e] at hL
  have := h (part n E v :: L') (.next hv hL)
  rw [List.append_assoc]
  exact this
set_option maxRecDepth 100000 in
set_option maxHeartbeats 8000000 in
theorem rParts_any (n : Int) (A : Option Addr) (ne c : Nat) (E0 : List (Int × Int)) (w : World) (hr : RdE w w.heap.size A ne E0) :
    Calls Try.prog 11 #[.int .i64 n, .slice A ne c] w fun e w' => Told n E0 w w' e := by
  have hlen := hr.len
  by_cases h1 : 4096 < n
  · have HF := Lib.hid h1
    go_enter Try.func11, Try.ntmps11
    repeat (first | go_skip | go_guarded | go_step)
    go_ret2
    exact ⟨Below.refl _ _, .inl ⟨.inl HF.out, rfl⟩⟩
  have h1' : decide (4096 < n) = false := decide_eq_false h1
  by_cases h2 : 16384 < ne
  · have HF := Lib.hid (show 16384 < E0.length by omega)
    have h2' : (16384 : Int) < (ne : Int) := by omega
    clear hlen hr
    go_enter Try.func11, Try.ntmps11
    repeat (first | go_skip | go_guarded | go_step)
    go_ret2
    exact ⟨Below.refl _ _, .inl ⟨.inr HF.out, rfl⟩⟩
  have HNN := Lib.hid (show n ≤ 4096 ∧ E0.length ≤ 16384 by omega)
  have h2' : ¬ (16384 : Int) < (ne : Int) := by omega
  have hne : ne ≤ 16384 := by omega
  have HR := Lib.hid hr
  have HLEN := Lib.hid hlen
  clear hlen hr
  by_cases h3 : n < 0
  · have HF := Lib.hid h3
    go_enter Try.func11, Try.ntmps11
    repeat (first | go_skip | go_guarded | go_step)
    go_ret2
    exact ⟨Below.refl _ _, .inr (.inl ⟨HNN.out, .inl HF.out, rfl⟩)⟩
  have h3' : decide (n < 0) = false := decide_eq_false h3
  obtain ⟨k, rfl⟩ : ∃ k : Nat, n = (k : Int) := ⟨n.toNat, by omega⟩
  have hk4 : k ≤ 4096 := by omega
  obtain ⟨i0, hi0, hz0, hz1, hz2⟩ := info_parts boolInfo
  have hb4 : i0.bytes * k ≤ 281474976710656 := by rw [hz2]; omega
  have hmx : k ≤ maxLen := by simp only [maxLen]; omega
  go_enter Try.func11, Try.ntmps11
  repeat (first | go_skip | go_guarded | go_step)
  go_loop [6] (fun q => ∃ i : Nat, i ≤ ne ∧ q = .int .i64 (i : Int) ∧ (E0.take i).all (okE k) = true) (fun q => ne - (intOf q).toNat)
  case atStart => exact ⟨0, by omega, rfl, by simp⟩
  case round =>
    obtain ⟨i, hi, rfl, hall⟩ := hrel
    have HALL := Lib.hid hall
    clear hall
    by_cases hlt : i < ne
    · have hii : (i : Int) < (ne : Int) := by omega
      obtain ⟨be, oe, ed, hA, hbe, he, hc0, hc1⟩ := HR.out.at_ hlt
      subst hA
      obtain ⟨a, b⟩ := ed
      have HX := Lib.hid he
      dsimp only at hc0 hc1
      clear he hbe
      have HFA := Lib.hid (show ¬ (0 ≤ a ∧ a < (k : Int) ∧ 0 ≤ b ∧ b < (k : Int)) → E0.all (okE k) = false from fun h => by
          rw [List.all_eq_false]
          exact ⟨(a, b), List.mem_of_getElem? HX.out, by unfold okE; simpa using h⟩)
      repeat (first | go_skip | go_guarded | go_step)
      go_loop [7] (fun q => (q = .int .i64 0) ∨ (q = .int .i64 1 ∧ 0 ≤ a ∧ a < (k : Int)) ∨ (q = .int .i64 2 ∧ okE k (a, b) = true)) (fun q => 2 - (intOf q).toNat)
      case atStart => exact .inl rfl
      case round =>
        rcases hrel with rfl | ⟨rfl, ha0, ha1⟩ | ⟨rfl, hok⟩
        · by_cases ha0 : a < 0
          · have k1 : decide (a < 0) = true := decide_eq_true ha0
            have HZ := Lib.hid (HFA.out (by omega))
            repeat (first | go_skip | go_guarded | go_step)
            go_ret2
            exact ⟨Below.refl _ _, .inr (.inl ⟨HNN.out, .inr HZ.out, rfl⟩)⟩
          have ka : decide (a < 0) = false := decide_eq_false ha0
          by_cases ha1 : (k : Int) ≤ a
          · have k1 : decide ((k : Int) ≤ a) = true := decide_eq_true ha1
            have HZ := Lib.hid (HFA.out (by omega))
            repeat (first | go_skip | go_guarded | go_step)
            go_ret2
            exact ⟨Below.refl _ _, .inr (.inl ⟨HNN.out, .inr HZ.out, rfl⟩)⟩
          have ka1 : decide ((k : Int) ≤ a) = false := decide_eq_false ha1
          have HA := Lib.hid (show 0 ≤ a ∧ a < (k : Int) by omega)
          repeat (first | go_skip | go_guarded | go_step)
          go_round
          case rel => exact .inr (.inl ⟨by go_num, HA.out.1, HA.out.2⟩)
          case measure => simp [intOf]
        · by_cases hb0 : b < 0
          · have k1 : decide (b < 0) = true := decide_eq_true hb0
            have HZ := Lib.hid (HFA.out (by omega))
            repeat (first | go_skip | go_guarded | go_step)
            go_ret2
            exact ⟨Below.refl _ _, .inr (.inl ⟨HNN.out, .inr HZ.out, rfl⟩)⟩
          have kb : decide (b < 0) = false := decide_eq_false hb0
          by_cases hb1 : (k : Int) ≤ b
          · have k1 : decide ((k : Int) ≤ b) = true := decide_eq_true hb1
            have HZ := Lib.hid (HFA.out (by omega))
            repeat (first | go_skip | go_guarded | go_step)
            go_ret2
            exact ⟨Below.refl _ _, .inr (.inl ⟨HNN.out, .inr HZ.out, rfl⟩)⟩
          have kb1 : decide ((k : Int) ≤ b) = false := decide_eq_false hb1
          have HOK := Lib.hid (show okE k (a, b) = true by unfold okE; simp; omega)
          clear ha0 ha1
          repeat (first | go_skip | go_guarded | go_step)
          go_round
          case rel => exact .inr (.inr ⟨by go_num, HOK.out⟩)
          case measure => simp [intOf]
        · have HOK := Lib.hid hok
          clear hok
          repeat (first | go_skip | go_guarded | go_step)
          go_round
          case rel => exact ⟨i + 1, by omega, by go_num, by
            rw [List.take_add_one, HX.out, List.all_append, HALL.out]
            simpa using HOK.out⟩
          case measure => simp [intOf]; omega
    · obtain rfl : i = ne := by omega
      have hii : ¬ (i : Int) < (i : Int) := by omega
      have hall : E0.all (okE k) = true := by
        have := HALL.out
        rwa [List.take_of_length_le (by rw [HLEN.out]; exact Nat.le_refl _)] at this
      obtain ⟨E, hE0, hE⟩ := okE_nat hall
      subst hE0
      have HE := Lib.hid hE
      clear hall hE
      repeat (first | go_skip | go_guarded | go_step)
      go_loopw [8, 9] (fun cm q wr => ∃ (v : Nat) (Ac : Option Addr) (cc : Nat) (fG : Nat → Nat), v ≤ k ∧ cm = .slice Ac v cc ∧ q = .int .i64 (v : Int) ∧ CM wr w.heap.size Ac cc k v E fG ∧ Below w.heap.size w wr) (fun _ q _ => k - (intOf q).toNat)
      case atStart => exact ⟨0, none, 0, fun _ => 0, by omega, rfl, rfl, ⟨World.ownsRow_nil _ _ _ _, fun u hu => absurd hu (Nat.not_lt_zero _)⟩, Below.refl _ _⟩
      case round =>
        rename World => wr
        obtain ⟨v, Ac, cc, fG, hv, rfl, rfl, hcm, hbw⟩ := hrel
        have HCM := Lib.hid hcm
        have HBW := Lib.hid hbw
        clear hcm hbw
        by_cases hltv : v < k
        · have hvi : (v : Int) < (k : Int) := by omega
          repeat (first | go_skip | go_guarded | go_step)
          refine (rComes_any k E A i c v wr ((HR.out.below HBW.out).more HBW.out.size) HE.out hk4 hne hltv).mono ?_
          rintro e w2 ⟨g, rfl, hbk, hg, hb2⟩
          have HBK := Lib.hid hbk
          have HG := Lib.hid hg
          have HB2 := Lib.hid hb2
          have HCM2 := Lib.hid (HCM.out.later hb2)
          clear hbk hg hb2
          dsimp only
          have hlit := run_litB (some ⟨g, 0, none⟩) k k w2
          have hZ0 : Below w2.heap.size w2 (w2.alloc (.cells #[.slice (some ⟨g, 0, none⟩) k k] 34)) := (Below.refl _ _).alloc (Nat.le_refl _) _
          have HZ0 := Lib.hid hZ0
          have HCMZ := Lib.hid (HCM2.out.later hZ0)
          have HBKZ := Lib.hid (HBK.out.later hZ0)
          have hbz : w.heap.size ≤ (w2.alloc (.cells #[.slice (some ⟨g, 0, none⟩) k k] 34)).heap.size := by
            have h1 := HBW.out.size
            have h2 := HB2.out.size
            have h3 := hZ0.size
            omega
          clear hZ0
          repeat (first
            | (at_builtin; refine appB _ rfl (.tmp 56) (.tmp 61) rfl w.heap.size Ac cc v _ rfl HCMZ.out.own _ _ 1 1 [.slice (some ⟨g, 0, none⟩) k k] rfl (litB_rd _ _ _ w2) (by simp [Value.oneCell']) (by omega) hbz ?_
               intro A3 c3 Z hoZ htZ hfZ
               have HO3 := Lib.hid hoZ
               have HT3 := Lib.hid htZ
               have HF3 := Lib.hid hfZ
               clear hoZ htZ hfZ hlit)
            | go_skip | go_guarded | go_step)
          have hcm3 := HCMZ.out.push (g := g) HT3.out HO3.out HF3.out (by have := HBW.out.size; have := HG.out; omega) HBKZ.out.lt
            (fun e => by have := (own_low HCM.out.own e).2; have := HG.out; omega)
            (fun x hx => (HBKZ.out.cell x).trans (bC_at _ hx))
          have hb3 : Below w.heap.size w Z := by
            have hb1 := HBW.out
            have hb2 := HB2.out.mono hb1.size
            have hbz2 := HZ0.out.mono (Nat.le_trans hb1.size HB2.out.size)
            exact ((hb1.trans hb2).trans hbz2).trans (HT3.out.below (B := w.heap.size) (fun x _ e => (own_low HCM.out.own e).1) hbz)
          go_roundw
          case rel => exact ⟨v + 1, A3, c3, upd fG v g, by omega, rfl, by go_num, hcm3, hb3⟩
          case measure => simp [intOf]; omega
        · obtain rfl : v = k := by omega
          have hvi : ¬ (v : Int) < (v : Int) := by omega
          repeat (first
            | (at_make; refine wpList_make_bk _ rfl (.tmp 63) (.tmp 63) 34 rfl 4 i0 _ Try.underlying34 hi0 hz0 hz1 rfl .i64 .i64 (v : Int) (v : Int) v v rfl rfl rfl rfl (Nat.le_refl _) hb4 hmx ?_
               intro W1 hb1 hbw1 hs1
               have HB1 := Lib.hid hb1
               have HW1 := Lib.hid hbw1
               have HS1 := Lib.hid hs1
               clear hb1 hbw1 hs1)
            | go_skip | go_guarded | go_step)
          obtain ⟨gT, hgT⟩ : ∃ gT, gT = wr.heap.size := ⟨_, rfl⟩
          rw [← hgT]
          have HGT := Lib.hid hgT
          have HB0 := Lib.hid (show Bk W1 gT 4 (bC v fun _ => false) by rw [hgT, ← bC_false]; exact HB1.out)
          have HRC := Lib.hid HCM.out.rdC
          have HBW1 := Lib.hid (HBW.out.trans (HW1.out.mono HBW.out.size))
          have hgTl : gT < W1.heap.size := HB0.out.lt
          clear hgT HB1 HCM
          go_loopg [11] v (fun g ov w3 => ∃ (f : Nat → Bool) (P : List (List Nat)) (R : List (Nat × Nat)) (Ao : Option Addr) (co : Nat), ov = .slice Ao P.length co ∧ cntF v f ≤ g ∧ Bk w3 gT 4 (bC v f) ∧ (∀ u, u < v → (f u = true ↔ u ∈ P.flatten)) ∧ PR w3 W1.heap.size Ao co P R ∧ Turn (fun x => x = gT) W1 w3 ∧ P.length + cntF v f ≤ v ∧ ∀ L', Order v E P.flatten L' → Order v E [] (P ++ L'))
          case atStart => exact ⟨fun _ => false, [], [], none, 0, rfl, cntF_le _ _, HB0.out, (fun u hu => by simp), PR.nil _ _, Turn.refl _ _, (by have := cntF_le v (fun _ => false); simpa using this), fun L' h => by simpa using h⟩
          case round =>
            obtain ⟨G, rfl⟩ : ∃ G, G = gk := ⟨_, rfl⟩
            rename World => w3
            obtain ⟨f, P, R, Ao, co, rfl, hcnt, hbk, hft, hpr, hT, hpl, hord⟩ := hrel
            have HCNT := Lib.hid hcnt
            have HBK := Lib.hid hbk
            have HFT := Lib.hid hft
            have HPR := Lib.hid hpr
            have HT := Lib.hid hT
            have HORD := Lib.hid hord
            have HPL := Lib.hid hpl
            have hpl : P.length ≤ 4096 := by omega
            have hb13 : Below wr.heap.size wr w3 := HW1.out.trans (hT.below (B := wr.heap.size) (fun x _ e => by have := HGT.out; omega) HW1.out.size)
            have HRC3 := Lib.hid ((HRC.out.below hb13))
            have HB13 := Lib.hid hb13
            obtain ⟨pl, hpl2⟩ : ∃ pl, pl = P.length := ⟨_, rfl⟩
            rw [← hpl2] at hpl ⊢
            have HPLN := Lib.hid hpl2
            clear hcnt hbk hft hpr hT hord hb13 hpl2
            have hnx := rNext_any v E Ac cc gT fG f P.flatten w3 HRC3.out HBK.out HFT.out hk4
            repeat (first | go_skip | go_guarded | go_step)
            refine hnx.mono ?_
            rintro e w4 ⟨hans, rfl⟩
            clear hnx
            rcases hans with ⟨s, rfl, hs⟩ | ⟨rfl, hnone⟩
            · have HS := Lib.hid hs
              have hsv : s < v := hs.1.1
              have hsn : ¬ (s : Int) < 0 := by omega
              have hsi : (s : Int) < (v : Int) := by omega
              have hs0 : (0 : Int) ≤ (s : Int) := by omega
              clear hs
              dsimp only
              repeat (first | go_skip | go_guarded | go_step)
              go_loopw [13, 14] (fun pv q w5 => ∃ (u : Nat) (Ap : Option Addr) (cp : Nat) (l : List Nat) (f2 : Nat → Bool), u ≤ v ∧ pv = .slice Ap l.length cp ∧ q = .int .i64 (u : Int) ∧ OwI w5 w4.heap.size Ap cp l.length l ∧ Bk w5 gT 4 (bC v f2) ∧ l = (List.range u).filter (bothB E s) ∧ (∀ x, f2 x = true ↔ f x = true ∨ x ∈ l) ∧ Turn (fun x => x = gT) w4 w5) (fun _ q _ => v - (intOf q).toNat)
              case atStart => exact ⟨0, none, 0, [], f, by omega, rfl, rfl, OwI.nil _ _, HBK.out, rfl, fun x => by simp, Turn.refl _ _⟩
              case round =>
                rename World => w5
                obtain ⟨u, Ap, cp, l, f2, hu, rfl, rfl, how, hbk2, hl, hf2, hT5⟩ := hrel
                have HOW := Lib.hid how
                have HBK2 := Lib.hid hbk2
                have HL := Lib.hid hl
                have HF2 := Lib.hid hf2
                have HT5 := Lib.hid hT5
                have hll : l.length ≤ u := by
                  rw [hl]
                  have := List.length_filter_le (bothB E s) (List.range u)
                  rwa [List.length_range] at this
                obtain ⟨ll, hll2⟩ : ∃ ll, ll = l.length := ⟨_, rfl⟩
                rw [← hll2] at hll ⊢
                have HLL := Lib.hid hll2
                clear how hbk2 hl hf2 hT5 hll2
                by_cases hltu : u < v
                · have hui : (u : Int) < (v : Int) := by omega
                  have hu0 : (0 : Int) ≤ (u : Int) := by omega
                  have hcr : ∀ g x y, (∃ q, w4.cell? ⟨g, x, none⟩ = some q ∧ q = y) → g < wr.heap.size → w5.cell? ⟨g, x, none⟩ = some y := fun g x y ⟨q, h1, h2⟩ hg => by
                    subst h2
                    exact (HT5.out.cell (p := ⟨g, x, none⟩) (Nat.lt_of_lt_of_le hg HB13.out.size) (by have := HGT.out; show ¬ g = gT; omega)).trans h1
                  obtain ⟨bc, oc, hAc, hbc, cs⟩ := HRC.out.at_ hsv
                  obtain ⟨bc2, oc2, hAc2, _, cu⟩ := HRC.out.at_ hltu
                  rw [hAc] at hAc2
                  cases hAc2
                  have hrs := HRC.out.row s hsv
                  have hru := HRC.out.row u hltu
                  have cs5 : w5.cell? ⟨bc, oc + s, none⟩ = some (.slice (some ⟨fG s, 0, none⟩) v v) := hcr _ _ _ ⟨_, (HB13.out.cell (p := ⟨bc, oc + s, none⟩) hbc).trans cs, rfl⟩ hbc
                  have cu5 : w5.cell? ⟨bc, oc + u, none⟩ = some (.slice (some ⟨fG u, 0, none⟩) v v) := hcr _ _ _ ⟨_, (HB13.out.cell (p := ⟨bc, oc + u, none⟩) hbc).trans cu, rfl⟩ hbc
                  have csu : w5.cell? ⟨fG s, u, none⟩ = some (.bool (comB E s u)) := hcr _ _ _ ⟨_, (HB13.out.cell (p := ⟨fG s, u, none⟩) hrs.1).trans (hrs.2 u hltu), rfl⟩ hrs.1
                  have cus : w5.cell? ⟨fG u, s, none⟩ = some (.bool (comB E u s)) := hcr _ _ _ ⟨_, (HB13.out.cell (p := ⟨fG u, s, none⟩) hru.1).trans (hru.2 s hsv), rfl⟩ hru.1
                  rw [hAc]
                  clear hcr hrs hru cs cu hbc
                  have HNO := Lib.hid (show bothB E s u = false → (List.range (u + 1)).filter (bothB E s) = l from fun h => by
                    rw [List.range_succ, List.filter_append, ← HL.out]
                    simp [h])
                  cases hsu : comB E s u with
                  | false =>
                    have HNB := Lib.hid (HNO.out (by unfold bothB; rw [hsu]; rfl))
                    rw [hsu] at csu
                    clear hsu
                    repeat (first | go_skip | go_guarded | go_step)
                    go_roundw
                    case rel => exact ⟨u + 1, Ap, cp, l, f2, by omega, by rw [HLL.out], by go_num, HOW.out, HBK2.out, HNB.out.symm, HF2.out, HT5.out⟩
                    case measure => simp [intOf]; omega
                  | true =>
                    cases hus : comB E u s with
                    | false =>
                      have HNB := Lib.hid (HNO.out (by unfold bothB; rw [hsu, hus]; rfl))
                      rw [hsu] at csu
                      rw [hus] at cus
                      clear hsu hus
                      repeat (first | go_skip | go_guarded | go_step)
                      go_roundw
                      case rel => exact ⟨u + 1, Ap, cp, l, f2, by omega, by rw [HLL.out], by go_num, HOW.out, HBK2.out, HNB.out.symm, HF2.out, HT5.out⟩
                      case measure => simp [intOf]; omega
                    | true =>
                      have HYES := Lib.hid (show (List.range (u + 1)).filter (bothB E s) = l ++ [u] from by
                        rw [List.range_succ, List.filter_append, ← HL.out]
                        have : bothB E s u = true := by unfold bothB; rw [hsu, hus]; rfl
                        simp [this])
                      rw [hsu] at csu
                      rw [hus] at cus
                      clear hsu hus HNO
                      have hlit := run_litI (u : Int) w5
                      have hZ0 : Below w5.heap.size w5 (w5.alloc (.cells #[.int .i64 (u : Int)] 3)) := (Below.refl _ _).alloc (Nat.le_refl _) _
                      have HZ0 := Lib.hid hZ0
                      have HOZ := Lib.hid (show OwI (w5.alloc (.cells #[.int .i64 (u : Int)] 3)) w4.heap.size Ap cp ll l from by rw [HLL.out]; exact ownBelow HOW.out hZ0 (Nat.le_refl _))
                      have hbz : w4.heap.size ≤ (w5.alloc (.cells #[.int .i64 (u : Int)] 3)).heap.size := by
                        have h1 := HT5.out.size
                        have h2 := hZ0.size
                        omega
                      clear hZ0
                      repeat (first
                        | (at_builtin; refine appI _ rfl (.tmp 92) (.tmp 94) rfl w4.heap.size Ap cp ll l rfl HOZ.out _ _ 1 1 [u] rfl (litI_rd u w5) (by omega) hbz ?_
                           intro A3 c3 Z hoZ htZ hfZ
                           have HO3 := Lib.hid hoZ
                           have HT3 := Lib.hid htZ
                           have hbkZ : Bk Z gT 4 (bC v f2) := htZ.bk (HBK2.out.later HZ0.out) (fun e => by have h1 := (own_low HOZ.out e).1; have h2 := HB13.out.size; have h3 := HT.out.size; omega)
                           have cT := (hbkZ.cell u).trans (bC_at _ hltu)
                           have fT := hbkZ.frozen u
                           have HBKZ := Lib.hid hbkZ
                           clear hoZ htZ hfZ hlit hbkZ csu cus cs5 cu5)
                        | go_skip | go_guarded | go_step)
                      have hset := HBKZ.out.set_ u (.bool true)
                      rw [bC_set] at hset
                      have hTS : Turn (fun x => x = gT) Z (Z.setCell ⟨gT, u, none⟩ (.bool true)) := (Turn.refl (fun x => x = gT) Z).setCell (p := ⟨gT, u, none⟩) (fun _ => rfl) _
                      have hgl : gT < w4.heap.size := HBK.out.lt
                      have hoS : OwI (Z.setCell ⟨gT, u, none⟩ (.bool true)) w4.heap.size A3 c3 (ll + 1) (l ++ [u]) := turn_own hTS HO3.out (fun x hx e => by have := (own_low HO3.out hx).1; omega)
                      have hT6 : Turn (fun x => x = gT) w4 (Z.setCell ⟨gT, u, none⟩ (.bool true)) := by
                        refine Turn.trans ?_ hTS
                        exact (HT5.out.trans (Turn.ofBelow HZ0.out)).then_ HT3.out fun x hx e => by have := (own_low HOZ.out e).1; omega
                      go_roundw
                      case rel => exact ⟨u + 1, A3, c3, l ++ [u], upd f2 u true, by omega, by rw [List.length_append, ← HLL.out]; rfl, by go_num, by rw [List.length_append, ← HLL.out]; exact hoS, hset, HYES.out.symm, (fun x => by
                        by_cases e : x = u
                        · subst e; simp [upd_same]
                        · rw [upd_other e, HF2.out x]; simp [e]), hT6⟩
                      case measure => simp [intOf]; omega
                · obtain rfl : v = u := by omega
                  have hui : ¬ (v : Int) < (v : Int) := by omega
                  have hlp : l = part v E s := by rw [part_bothB]; exact HL.out
                  have hsl : s ∈ l := by rw [hlp]; exact mem_part_self hsv
                  have hpos : 0 < ll := by rw [HLL.out]; exact List.length_pos_of_mem hsl
                  have HLP := Lib.hid hlp
                  have HSL := Lib.hid hsl
                  obtain ⟨gp, rfl, hgp1, hgp2, hgp3, _, _⟩ := ownSome (show w5.ownsRow w4.heap.size 3 1 (.slice Ap ll cp) ll (l.map ni) from by rw [HLL.out]; exact HOW.out) hpos
                  have hlit := run_litS (some ⟨gp, 0, none⟩) ll cp w5
                  have hZ0 : Below w5.heap.size w5 (w5.alloc (.cells #[.slice (some ⟨gp, 0, none⟩) ll cp] 33)) := (Below.refl _ _).alloc (Nat.le_refl _) _
                  have HZ0 := Lib.hid hZ0
                  have HOZ := Lib.hid (show OwI (w5.alloc (.cells #[.slice (some ⟨gp, 0, none⟩) ll cp] 33)) w4.heap.size (some ⟨gp, 0, none⟩) cp ll l from ownBelow (show OwI w5 w4.heap.size (some ⟨gp, 0, none⟩) cp ll l by rw [HLL.out]; exact HOW.out) hZ0 (Nat.le_refl _))
                  have HPRZ := Lib.hid ((HPR.out.turn HT5.out (fun x hx e => by omega)).turn (G := fun _ => False) (Turn.ofBelow hZ0) (fun _ _ e => e))
                  have hbz : W1.heap.size ≤ (w5.alloc (.cells #[.slice (some ⟨gp, 0, none⟩) ll cp] 33)).heap.size := by
                    have h1 := HT.out.size
                    have h2 := HT5.out.size
                    have h3 := hZ0.size
                    omega
                  have HG := Lib.hid (show w4.heap.size ≤ gp ∧ gp < w5.heap.size ∧ ll ≤ cp from ⟨hgp1, hgp2, hgp3⟩)
                  clear hZ0 hlp hsl hpos hgp1 hgp2 hgp3
                  repeat (first
                    | (at_builtin; refine appS _ rfl (.tmp 99) (.tmp 101) rfl W1.heap.size Ao co pl _ rfl (by rw [HPLN.out]; exact HPRZ.out.own) _ _ 1 1 [.slice (some ⟨gp, 0, none⟩) ll cp] rfl (litS_rd _ _ _ w5) (by simp [Value.oneCell']) (by omega) hbz ?_
                       intro A5 c5 Z hoZ htZ hfZ
                       have HO5 := Lib.hid hoZ
                       have HT6 := Lib.hid htZ
                       have HF5 := Lib.hid hfZ
                       clear hoZ htZ hfZ hlit)
                    | go_skip | go_guarded | go_step)
                  have hG := HG.out
                  have hs1 := HT.out.size
                  have hs2 := HZ0.out.size
                  have hcel := ownSome HOZ.out (by rw [HLL.out]; exact List.length_pos_of_mem HSL.out)
                  obtain ⟨gp', hgpe, _, hgpl, _, hgpc, _⟩ := hcel
                  cases hgpe
                  have hpr := HPRZ.out.push (p := l) (g := gp) (cp := cp) HT6.out (by rw [← HPLN.out, ← HLL.out]; exact HO5.out) HF5.out (by omega) hgpl (fun e => by have := (own_low HPR.out.own e).2; omega) (by rw [← HLL.out]; exact hG.2.2) (fun j y hy => hgpc j (ni y) (by rw [List.getElem?_map, hy]; rfl))
                  have hbk7 : Bk Z gT 4 (bC v f2) := HT6.out.bk (HBK2.out.later HZ0.out) (fun e => by have := (own_low HPR.out.own e).1; omega)
                  have hT7 : Turn (fun x => x = gT) W1 Z := ((HT.out.trans HT5.out).trans (Turn.ofBelow HZ0.out)).then_ HT6.out fun x hx e => by have := (own_low HPR.out.own e).1; omega
                  have hsf : f s = false := by
                    rw [← Bool.not_eq_true]
                    exact fun h => HS.out.1.2.1 ((HFT.out s hsv).1 h)
                  have hlt2 : cntF v f2 < cntF v f := cntF_lt (fun x hx h => (HF2.out x).2 (.inl h)) hsv hsf ((HF2.out s).2 (.inr HSL.out))
                  have hcnt := HCNT.out
                  have hplc := HPL.out
                  go_roundg (cntF v f2)
                  case measure => omega
                  case rel => exact ⟨f2, P ++ [l], R ++ [(gp, cp)], A5, c5, by rw [List.length_append, ← HPLN.out]; rfl, Nat.le_refl _, hbk7, (fun x hx => by
                    rw [HF2.out x, HFT.out x hx, List.flatten_append]
                    simp), hpr, hT7, by rw [List.length_append, List.length_singleton]; omega, by
                    rw [HLP.out]
                    exact order_snoc HS.out HORD.out⟩
            · dsimp only
              have HN := Lib.hid hnone
              clear hnone
              repeat (first | go_skip | go_guarded | go_step)
              go_ret2
              have hgw := HGT.out
              have hw1 := HBW.out.size
              have hfin := HORD.out [] (.done HN.out)
              rw [List.append_nil] at hfin
              exact ⟨HBW1.out.trans (HT.out.below (B := w.heap.size) (fun x _ e => by omega) HBW1.out.size), .inr (.inr ⟨v, E, Ao, co, P, R, rfl, hk4, HNN.out.2, rfl, HE.out, by rw [HPLN.out]; rfl, HPR.out.rd, hfin, by rw [← HPLN.out]; exact hpl⟩)⟩
end Go.Proofs.Ytbfagejdpbagjaa
