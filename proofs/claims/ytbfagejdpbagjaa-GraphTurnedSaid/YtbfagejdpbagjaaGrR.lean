/- Layer 9 (graph), the document: next, Part, Same. -/
import Derived.Test.YtbfagejdpbagjaaGrQ
set_option linter.unusedVariables false
set_option linter.unusedSimpArgs false
namespace Go.Proofs.Ytbfagejdpbagjaa
open Go Go.RowKit

/-- To which nodes the first m come: rows of truths. -/
structure RdC (w : World) (A : Option Addr) (n m : Nat) (E : List (Nat × Nat)) (fG : Nat → Nat) : Prop where
  top : Rd w w.heap.size 1 A m ((List.range m).map fun v => .slice (some ⟨fG v, 0, none⟩) n n)
  row : ∀ v, v < m → fG v < w.heap.size ∧ ∀ u, u < n → w.cell? ⟨fG v, u, none⟩ = some (.bool (comB E v u))
theorem RdC.at_ {w : World} {A : Option Addr} {n m : Nat} {E : List (Nat × Nat)} {fG : Nat → Nat} (h : RdC w A n m E fG) {v : Nat} (hv : v < m) :
    ∃ b o, A = some ⟨b, o, none⟩ ∧ b < w.heap.size ∧ w.cell? ⟨b, o + v, none⟩ = some (.slice (some ⟨fG v, 0, none⟩) n n) := by
  obtain ⟨b, o, u, hA, hb, hu, hc⟩ := h.top.at1 hv
  rw [List.getElem?_map, List.getElem?_range hv] at hu
  obtain rfl := Option.some.inj hu
  exact ⟨b, o, hA, hb, hc⟩
theorem RdC.below {w w' : World} {A : Option Addr} {n m : Nat} {E : List (Nat × Nat)} {fG : Nat → Nat} (h : RdC w A n m E fG) (hb : Below w.heap.size w w') : RdC w' A n m E fG :=
  ⟨(h.top.below hb).more hb.size, fun v hv => ⟨Nat.lt_of_lt_of_le (h.row v hv).1 hb.size, fun u hu => (hb.cell (p := ⟨fG v, u, none⟩) (h.row v hv).1).trans ((h.row v hv).2 u hu)⟩⟩
set_option maxRecDepth 100000 in
set_option maxHeartbeats 2000000 in
theorem rNext_any (n : Nat) (E : List (Nat × Nat)) (A : Option Addr) (c gT : Nat) (fG : Nat → Nat) (ft : Nat → Bool) (T : List Nat) (w : World) (hC : RdC w A n n E fG) (hT : Bk w gT 4 (bC n ft)) (hft : ∀ u, u < n → (ft u = true ↔ u ∈ T)) (hn : n ≤ 4096) :
    Calls Try.prog 20 #[.slice A n c, .slice (some ⟨gT, 0, none⟩) n n] w fun e w' => ((∃ v, e = .returned (ni v) ∧ Nxt n E T v) ∨ (e = .returned (.int .i64 (-1)) ∧ ∀ v, ¬ Sink n E T v)) ∧ w' = w := by
  have HC := Lib.hid hC
  have HT := Lib.hid hT
  have HF := Lib.hid hft
  clear hC hT hft
  go_enter Try.func20, Try.ntmps20
  repeat (first | go_skip | go_guarded | go_step)
  go_loop [5] (fun q => ∃ v : Nat, v ≤ n ∧ q = .int .i64 (v : Int) ∧ ∀ u, u < v → ¬ Sink n E T u) (fun q => n - (intOf q).toNat)
  case atStart => exact ⟨0, by omega, rfl, fun u hu => absurd hu (Nat.not_lt_zero _)⟩
  case round =>
    obtain ⟨v, hv, rfl, hns⟩ := hrel
    have HNS := Lib.hid hns
    clear hns
    by_cases hlt : v < n
    · have hvi : (v : Int) < (n : Int) := by omega
      have hv0 : (0 : Int) ≤ (v : Int) := by omega
      have ct : w.cell? ⟨gT, v, none⟩ = some (.bool (ft v)) := (HT.out.cell v).trans (bC_at _ hlt)
      cases hfv : ft v with
      | true =>
        rw [hfv] at ct
        have HFV := Lib.hid ((HF.out v hlt).1 hfv)
        clear hfv
        repeat (first | go_skip | go_guarded | go_step)
        go_round
        case rel => exact ⟨v + 1, by omega, by go_num, fun u hu hs => by
          by_cases e : u = v
          · subst e; exact hs.2.1 HFV.out
          · exact HNS.out u (by omega) hs⟩
        case measure => simp [intOf]; omega
      | false =>
        rw [hfv] at ct
        have HFV := Lib.hid (show v ∉ T from fun h => by have := (HF.out v hlt).2 h; rw [hfv] at this; cases this)
        obtain ⟨bc, oc, hA, hbc, cv⟩ := HC.out.at_ hlt
        subst hA
        clear hfv hbc
        repeat (first | go_skip | go_guarded | go_step)
        go_loop [6, 7] (fun bq q => ∃ (u : Nat) (is : Bool), u ≤ n ∧ bq = .bool is ∧ q = .int .i64 (u : Int) ∧ (is = true ↔ ∀ x, x < u → x ∉ T → Com E v x → Com E x v)) (fun _ q => n - (intOf q).toNat)
        case atStart => exact ⟨0, true, by omega, rfl, rfl, ⟨fun _ x hx => absurd hx (Nat.not_lt_zero _), fun _ => rfl⟩⟩
        case round =>
          obtain ⟨u, is, hu, rfl, rfl, his⟩ := hrel
          have HIS := Lib.hid his
          clear his
          by_cases hltu : u < n
          · have hui : (u : Int) < (n : Int) := by omega
            have hu0 : (0 : Int) ≤ (u : Int) := by omega
            have cu : w.cell? ⟨gT, u, none⟩ = some (.bool (ft u)) := (HT.out.cell u).trans (bC_at _ hltu)
            obtain ⟨bc2, oc2, hA2, _, cu2⟩ := HC.out.at_ hltu
            cases hA2
            have cvu := (HC.out.row v hlt).2 u hltu
            have cuv := (HC.out.row u hltu).2 v hlt
            have hstep : ∀ b : Bool, (b = true ↔ (u ∉ T → Com E v u → Com E u v)) → ((is && b) = true ↔ ∀ x, x < u + 1 → x ∉ T → Com E v x → Com E x v) := by
              intro b hb
              rw [Bool.and_eq_true, HIS.out, hb]
              constructor
              · rintro ⟨h1, h2⟩ x hx
                by_cases e : x = u
                · subst e; exact h2
                · exact h1 x (by omega)
              · intro h
                exact ⟨fun x hx => h x (by omega), h u (by omega)⟩
            have HST := Lib.hid hstep
            clear hstep
            cases is with
            | false =>
              repeat (first | go_skip | go_guarded | go_step)
              go_round
              case rel => exact ⟨u + 1, false, by omega, rfl, by go_num, by
                constructor
                · intro h; cases h
                · intro h
                  have := HIS.out.2 (fun x hx => h x (by omega))
                  exact this⟩
              case measure => simp [intOf]; omega
            | true =>
              cases hfu : ft u with
              | true =>
                rw [hfu] at cu
                have HFU := Lib.hid ((HF.out u hltu).1 hfu)
                clear hfu
                repeat (first | go_skip | go_guarded | go_step)
                go_round
                case rel => exact ⟨u + 1, true, by omega, rfl, by go_num, (HST.out true ⟨fun _ h => absurd HFU.out h, fun _ => rfl⟩)⟩
                case measure => simp [intOf]; omega
              | false =>
                rw [hfu] at cu
                have HFU := Lib.hid (show u ∉ T from fun h => by have := (HF.out u hltu).2 h; rw [hfu] at this; cases this)
                clear hfu
                cases hvu : comB E v u with
                | false =>
                  rw [hvu] at cvu
                  have HVU := Lib.hid (comB_false.1 hvu)
                  clear hvu
                  repeat (first | go_skip | go_guarded | go_step)
                  go_round
                  case rel => exact ⟨u + 1, true, by omega, rfl, by go_num, (HST.out true ⟨fun _ _ h => absurd h HVU.out, fun _ => rfl⟩)⟩
                  case measure => simp [intOf]; omega
                | true =>
                  rw [hvu] at cvu
                  have HVU := Lib.hid (comB_true.1 hvu)
                  clear hvu
                  cases huv : comB E u v with
                  | false =>
                    rw [huv] at cuv
                    have HUV := Lib.hid (comB_false.1 huv)
                    clear huv
                    repeat (first | go_skip | go_guarded | go_step)
                    go_round
                    case rel => exact ⟨u + 1, false, by omega, rfl, by go_num, (HST.out false ⟨(fun h => by cases h), (fun h => absurd (h HFU.out HVU.out) HUV.out)⟩)⟩
                    case measure => simp [intOf]; omega
                  | true =>
                    rw [huv] at cuv
                    have HUV := Lib.hid (comB_true.1 huv)
                    clear huv
                    repeat (first | go_skip | go_guarded | go_step)
                    go_round
                    case rel => exact ⟨u + 1, true, by omega, rfl, by go_num, (HST.out true ⟨fun _ _ _ => HUV.out, fun _ => rfl⟩)⟩
                    case measure => simp [intOf]; omega
          · obtain rfl : u = n := by omega
            have hui : ¬ (u : Int) < (u : Int) := by omega
            cases is with
            | true =>
              repeat (first | go_skip | go_guarded | go_step)
              go_ret
              exact ⟨.inl ⟨v, rfl, ⟨hlt, HFV.out, fun x hx hxT hc => HIS.out.1 rfl x hx hxT hc⟩, HNS.out⟩, rfl⟩
            | false =>
              repeat (first | go_skip | go_guarded | go_step)
              go_round
              case rel => exact ⟨v + 1, by omega, by go_num, fun x hx hs => by
                by_cases e : x = v
                · subst e
                  have := HIS.out.2 (fun y hy hyT hc => hs.2.2 y hy hyT hc)
                  cases this
                · exact HNS.out x (by omega) hs⟩
              case measure => simp [intOf]; omega
    · obtain rfl : v = n := by omega
      have hvi : ¬ (v : Int) < (v : Int) := by omega
      repeat (first | go_skip | go_guarded | go_step)
      go_ret
      exact ⟨.inr ⟨rfl, fun u hs => HNS.out u hs.1 hs⟩, rfl⟩

theorem ixB_found : ∀ (l : List Bool) (i k : Nat), (∀ j, j < k → l[j]? = some false) → l[k]? = some true → ixB l i = ((i + k : Nat) : Int)
  | [], _, k, _, h => by simp at h
  | b :: l, i, 0, _, h => by
    simp only [List.getElem?_cons_zero, Option.some.injEq] at h
    subst h
    rfl
  | b :: l, i, k + 1, h1, h2 => by
    have h0 := h1 0 (by omega)
    simp only [List.getElem?_cons_zero, Option.some.injEq] at h0
    subst h0
    show ixB l (i + 1) = _
    rw [ixB_found l (i + 1) k (fun j hj => by have := h1 (j + 1) (by omega); rwa [List.getElem?_cons_succ] at this) (by rwa [List.getElem?_cons_succ] at h2)]
    omega
theorem ixB_none : ∀ (l : List Bool) (i : Nat), (∀ b ∈ l, b = false) → ixB l i = -1
  | [], _, _ => rfl
  | b :: l, i, h => by
    have h0 := h b (by simp)
    subst h0
    exact ixB_none l (i + 1) fun b hb => h b (List.mem_cons_of_mem _ hb)
set_option maxRecDepth 100000 in
set_option maxHeartbeats 2000000 in
theorem rPart_any (A : Option Addr) (k c : Nat) (L : List (List Nat)) (R : List (Nat × Nat)) (x : Int) (w : World) (h : RdP w w.heap.size A L R) (hk : L.length = k) (hk2 : k ≤ 1000000) (hs : ∀ p ∈ L, p.length ≤ 1000000) :
    Calls Try.prog 14 #[.slice A k c, .int .i64 x] w fun e w' => e = .returned (.int .i64 (partIx L x)) ∧ w' = w := by
  have HR := Lib.hid h
  have HK := Lib.hid hk
  have HS := Lib.hid hs
  clear h hk hs
  go_enter Try.func14, Try.ntmps14
  repeat (first | go_skip | go_guarded | go_step)
  go_loop [5] (fun q => ∃ i : Nat, i ≤ k ∧ q = .int .i64 (i : Int) ∧ ∀ j, j < i → (L.map (hasI x))[j]? = some false) (fun q => k - (intOf q).toNat)
  case atStart => exact ⟨0, by omega, rfl, fun j hj => absurd hj (Nat.not_lt_zero _)⟩
  case round =>
    obtain ⟨i, hi, rfl, hno⟩ := hrel
    have HNO := Lib.hid hno
    clear hno
    by_cases hlt : i < k
    · have hii : (i : Int) < (k : Int) := by omega
      obtain ⟨b, o, r, p, hA, _, hri, hpi, hc, _, _, hcell⟩ := HR.out.at_ (i := i) (by rw [HK.out]; exact hlt)
      subst hA
      have hpl := HS.out p (List.mem_of_getElem? hpi)
      have HPI := Lib.hid hpi
      have HCL := Lib.hid hcell
      obtain ⟨pl, hpl2⟩ : ∃ pl, pl = p.length := ⟨_, rfl⟩
      rw [← hpl2] at hc hpl
      have HPL := Lib.hid hpl2
      obtain ⟨g1, hg1⟩ : ∃ g1, g1 = r.1 := ⟨_, rfl⟩
      rw [← hg1] at hc
      have HG1 := Lib.hid hg1
      clear hri hpi hcell hpl2 hg1
      repeat (first | go_skip | go_guarded | go_step)
      go_loop [6] (fun q => ∃ j : Nat, j ≤ pl ∧ q = .int .i64 (j : Int) ∧ ∀ m y, m < j → p[m]? = some y → ((y : Int) == x) = false) (fun q => pl - (intOf q).toNat)
      case atStart => exact ⟨0, by omega, rfl, fun m y hm => absurd hm (Nat.not_lt_zero _)⟩
      case round =>
        obtain ⟨j, hj, rfl, hnn⟩ := hrel
        have HNN := Lib.hid hnn
        clear hnn
        by_cases hltj : j < pl
        · have hji : (j : Int) < (pl : Int) := by omega
          obtain ⟨y, hy⟩ : ∃ y, p[j]? = some y := ⟨_, List.getElem?_eq_getElem (by rw [← HPL.out]; exact hltj)⟩
          have cy : w.cell? ⟨g1, j, none⟩ = some (ni y) := by rw [HG1.out]; exact HCL.out j y hy
          have HY := Lib.hid hy
          clear hy
          cases hyx : ((y : Int) == x) with
          | true =>
            have HYX := Lib.hid hyx
            repeat (first | go_skip | go_guarded | go_step)
            go_ret
            have e : partIx L x = (i : Int) := by
              unfold partIx
              rw [ixB_found (L.map (hasI x)) 0 i HNO.out (by
                rw [List.getElem?_map, HPI.out]
                show some (hasI x p) = some true
                congr 1
                unfold hasI
                rw [List.any_eq_true]
                exact ⟨y, List.mem_of_getElem? HY.out, HYX.out⟩)]
              simp
            exact ⟨by rw [e]; rfl, rfl⟩
          | false =>
            have HYX := Lib.hid hyx
            repeat (first | go_skip | go_guarded | go_step)
            go_round
            case rel => exact ⟨j + 1, by omega, by go_num, fun m z hm hz => by
              by_cases e : m = j
              · subst e; rw [HY.out] at hz; cases hz; exact HYX.out
              · exact HNN.out m z (by omega) hz⟩
            case measure => simp [intOf]; omega
        · obtain rfl : j = pl := by omega
          have hji : ¬ (j : Int) < (j : Int) := by omega
          repeat (first | go_skip | go_guarded | go_step)
          go_round
          case rel => exact ⟨i + 1, by omega, by go_num, fun m hm => by
            by_cases e : m = i
            · subst e
              rw [List.getElem?_map, HPI.out]
              show some (hasI x p) = some false
              congr 1
              unfold hasI
              rw [List.any_eq_false]
              intro y hy
              obtain ⟨q, hq, rfl⟩ := List.getElem_of_mem hy
              have := HNN.out q _ (by rw [HPL.out]; exact hq) (List.getElem?_eq_getElem hq)
              rw [this]
              exact Bool.false_ne_true
            · exact HNO.out m (by omega)⟩
          case measure => simp [intOf]; omega
    · obtain rfl : i = k := by omega
      have hii : ¬ (i : Int) < (i : Int) := by omega
      repeat (first | go_skip | go_guarded | go_step)
      go_ret
      have e : partIx L x = -1 := ixB_none _ _ fun b hb => by
        obtain ⟨q, hq, rfl⟩ := List.getElem_of_mem hb
        have := HNO.out q (by rw [← HK.out]; simpa using hq)
        rw [List.getElem?_eq_getElem hq] at this
        exact Option.some.inj this
      exact ⟨by rw [e]; rfl, rfl⟩
set_option maxRecDepth 100000 in
set_option maxHeartbeats 2000000 in
theorem rSame_any (A1 A2 : Option Addr) (k1 c1 k2 c2 : Nat) (L1 L2 : List (List Nat)) (R1 R2 : List (Nat × Nat)) (w : World) (h1 : RdP w w.heap.size A1 L1 R1) (h2 : RdP w w.heap.size A2 L2 R2) (hk1 : L1.length = k1) (hk2 : L2.length = k2) (hb1 : k1 ≤ 1000000) (hb2 : k2 ≤ 1000000)
    (hs1 : ∀ p ∈ L1, p.length ≤ 1000000) (hs2 : ∀ p ∈ L2, p.length ≤ 1000000) :
    Calls Try.prog 12 #[.slice A1 k1 c1, .slice A2 k2 c2] w fun e w' => e = .returned (.bool (decide (L1 = L2))) ∧ Below w.heap.size w w' := by
  have HR1 := Lib.hid h1
  have HR2 := Lib.hid h2
  have HK1 := Lib.hid hk1
  have HK2 := Lib.hid hk2
  have HS1 := Lib.hid hs1
  have HS2 := Lib.hid hs2
  clear h1 h2 hk1 hk2 hs1 hs2
  by_cases hne : k1 = k2
  · subst hne
    have hb0 : ((k1 : Int) != (k1 : Int)) = false := by simp
    go_enter Try.func12, Try.ntmps12
    repeat (first | go_skip | go_guarded | go_step)
    go_loopw [5] (fun q wr => ∃ i : Nat, i ≤ k1 ∧ q = .int .i64 (i : Int) ∧ L1.take i = L2.take i ∧ Below w.heap.size w wr) (fun q _ => k1 - (intOf q).toNat)
    case atStart => exact ⟨0, by omega, rfl, by simp, Below.refl _ _⟩
    case round =>
      rename World => wr
      obtain ⟨i, hi, rfl, heq, hbw⟩ := hrel
      have HEQ := Lib.hid heq
      have HBW := Lib.hid hbw
      clear heq hbw
      by_cases hlt : i < k1
      · have hii : (i : Int) < (k1 : Int) := by omega
        obtain ⟨ba, oa, ra, pa, hA1, hba, _, hpa, hca, hra, _, hcella⟩ := HR1.out.at_ (i := i) (by rw [HK1.out]; exact hlt)
        obtain ⟨bb, ob, rb, pb, hA2, hbb, _, hpb, hcb, hrb, _, hcellb⟩ := HR2.out.at_ (i := i) (by rw [HK2.out]; exact hlt)
        subst hA1 hA2
        have hla := HS1.out pa (List.mem_of_getElem? hpa)
        have hlb := HS2.out pb (List.mem_of_getElem? hpb)
        obtain ⟨na, hna⟩ : ∃ na, na = pa.length := ⟨_, rfl⟩
        obtain ⟨nb, hnb⟩ : ∃ nb, nb = pb.length := ⟨_, rfl⟩
        obtain ⟨ga, hga⟩ : ∃ ga, ga = ra.1 := ⟨_, rfl⟩
        obtain ⟨gb, hgb⟩ : ∃ gb, gb = rb.1 := ⟨_, rfl⟩
        rw [← hna, ← hga] at hca
        rw [← hnb, ← hgb] at hcb
        rw [← hna] at hla
        rw [← hnb] at hlb
        have HPA := Lib.hid hpa
        have HPB := Lib.hid hpb
        have HNA := Lib.hid hna
        have HNB := Lib.hid hnb
        have HCA := Lib.hid (show ∀ W, Below w.heap.size w W → W.cell? ⟨ba, oa + i, none⟩ = some (.slice (some ⟨ga, 0, none⟩) na ra.2) from fun W hW => (hW.cell (p := ⟨ba, oa + i, none⟩) hba).trans hca)
        have HCB := Lib.hid (show ∀ W, Below w.heap.size w W → W.cell? ⟨bb, ob + i, none⟩ = some (.slice (some ⟨gb, 0, none⟩) nb rb.2) from fun W hW => (hW.cell (p := ⟨bb, ob + i, none⟩) hbb).trans hcb)
        have HEA := Lib.hid (show ∀ W, Below w.heap.size w W → ∀ j v, pa[j]? = some v → W.cell? ⟨ga, j, none⟩ = some (ni v) from fun W hW j v hv => by rw [hga]; exact (hW.cell (p := ⟨ra.1, j, none⟩) hra).trans (hcella j v hv))
        have HEB := Lib.hid (show ∀ W, Below w.heap.size w W → ∀ j v, pb[j]? = some v → W.cell? ⟨gb, j, none⟩ = some (ni v) from fun W hW j v hv => by rw [hgb]; exact (hW.cell (p := ⟨rb.1, j, none⟩) hrb).trans (hcellb j v hv))
        clear hpa hpb hca hcb hcella hcellb hna hnb hga hgb hba hbb hra hrb
        have qa := fun q => HCA.out (wr.drewN q) (belowDrews HBW.out q)
        have qb := fun q => HCB.out (wr.drewN q) (belowDrews HBW.out q)
        by_cases hnn : na = nb
        · subst hnn
          have hq0 : ((na : Int) != (na : Int)) = false := by simp
          go_upto_region 6 with (fail)
          go_quiet (fail)
          obtain ⟨w2, hw2⟩ : ∃ w2, w2 = wr.drewN nq := ⟨_, rfl⟩
          rw [← hw2]
          have HB2 := Lib.hid (show Below w.heap.size w w2 by rw [hw2]; exact belowDrews HBW.out nq)
          clear hw2 qa qb
          have k0 := HCA.out w2 HB2.out
          repeat (first | go_skip | go_guarded | go_step)
          go_loopw [6] (fun q w3 => ∃ j : Nat, j ≤ na ∧ q = .int .i64 (j : Int) ∧ pa.take j = pb.take j ∧ Below w.heap.size w w3) (fun q _ => na - (intOf q).toNat)
          case atStart => exact ⟨0, by omega, rfl, by simp, HB2.out⟩
          case round =>
            rename World => w3
            obtain ⟨j, hj, rfl, hpe, hbw3⟩ := hrel
            have HPE := Lib.hid hpe
            have HB3 := Lib.hid hbw3
            clear hpe hbw3 k0
            have k1' := HCA.out w3 HB3.out
            by_cases hltj : j < na
            · have hji : (j : Int) < (na : Int) := by omega
              obtain ⟨x, hx⟩ : ∃ x, pa[j]? = some x := ⟨_, List.getElem?_eq_getElem (by rw [← HNA.out]; exact hltj)⟩
              obtain ⟨y, hy⟩ : ∃ y, pb[j]? = some y := ⟨_, List.getElem?_eq_getElem (by rw [← HNB.out]; exact hltj)⟩
              have qa := fun q => HCA.out (w3.drewN q) (belowDrews HB3.out q)
              have qb := fun q => HCB.out (w3.drewN q) (belowDrews HB3.out q)
              have qx := fun q => HEA.out (w3.drewN q) (belowDrews HB3.out q) j x hx
              have qy := fun q => HEB.out (w3.drewN q) (belowDrews HB3.out q) j y hy
              have HX := Lib.hid hx
              have HY := Lib.hid hy
              clear hx hy
              by_cases hxy : x = y
              · have hq1 : ((x : Int) != (y : Int)) = false := by subst hxy; simp
                have HXY := Lib.hid hxy
                clear hxy
                go_upto_region 11 with (fail)
                go_quiet (fail)
                repeat (first | go_skip | go_guarded | go_step)
                have hb4 := belowDrews HB3.out nq
                go_roundw
                case rel => exact ⟨j + 1, by omega, by go_num, by rw [List.take_add_one, List.take_add_one, HX.out, HY.out, HXY.out, HPE.out], hb4⟩
                case measure => simp [intOf]; omega
              · have hq1 : ((x : Int) != (y : Int)) = true := by simp; omega
                have HXY := Lib.hid hxy
                clear hxy
                go_upto_region 11 with (fail)
                go_quiet (fail)
                repeat (first | go_skip | go_guarded | go_step)
                go_ret
                refine ⟨?_, belowDrews HB3.out _⟩
                rw [decide_eq_false (fun e => HXY.out (by
                  have h1 := HPA.out
                  rw [e, HPB.out] at h1
                  have h2 := Option.some.inj h1
                  have h3 := HY.out
                  rw [h2, HX.out] at h3
                  exact Option.some.inj h3))]
                rfl
            · obtain rfl : j = na := by omega
              have hji : ¬ (j : Int) < (j : Int) := by omega
              have hpp : pa = pb := by
                have h := HPE.out
                rw [List.take_of_length_le (by rw [HNA.out]; exact Nat.le_refl _), List.take_of_length_le (by rw [← HNB.out]; exact Nat.le_refl _)] at h
                exact h
              have HPP := Lib.hid hpp
              clear hpp
              repeat (first | go_skip | go_guarded | go_step)
              go_roundw
              case rel => exact ⟨i + 1, by omega, by go_num, by rw [List.take_add_one, List.take_add_one, HPA.out, HPB.out, HPP.out, HEQ.out], HB3.out⟩
              case measure => simp [intOf]; omega
        · have hq0 : ((na : Int) != (nb : Int)) = true := by simp; omega
          have HNN := Lib.hid hnn
          clear hnn
          go_upto_region 6 with (fail)
          go_quiet (fail)
          repeat (first | go_skip | go_guarded | go_step)
          go_ret
          refine ⟨?_, belowDrews HBW.out _⟩
          rw [decide_eq_false (fun e => HNN.out (by
            have h1 := HPA.out
            rw [e, HPB.out] at h1
            have h2 := Option.some.inj h1
            rw [HNA.out, HNB.out, h2]))]
          rfl
      · obtain rfl : i = k1 := by omega
        have hii : ¬ (i : Int) < (i : Int) := by omega
        repeat (first | go_skip | go_guarded | go_step)
        go_ret
        refine ⟨?_, HBW.out⟩
        rw [decide_eq_true (show L1 = L2 by
          have h := HEQ.out
          rw [List.take_of_length_le (by rw [HK1.out]; exact Nat.le_refl _), List.take_of_length_le (by rw [HK2.out]; exact Nat.le_refl _)] at h
          exact h)]
        rfl
  · have hb0 : ((k1 : Int) != (k2 : Int)) = true := by simp; omega
    have HN := Lib.hid hne
    clear hne
    go_enter Try.func12, Try.ntmps12
    repeat (first | go_skip | go_guarded | go_step)
    go_ret
    refine ⟨?_, Below.refl _ _⟩
    rw [decide_eq_false (fun e => HN.out (by rw [← HK1.out, ← HK2.out, e]))]
    rfl
end Go.Proofs.Ytbfagejdpbagjaa
