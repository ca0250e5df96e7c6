/- Layer 9 (graph), the document: Comes, next. -/
import Derived.Test.YtbfagejdpbagjaaGrP
set_option linter.unusedVariables false
set_option linter.unusedSimpArgs false
namespace Go.Proofs.Ytbfagejdpbagjaa
open Go Go.RowKit

noncomputable def comB (E : List (Nat × Nat)) (u v : Nat) : Bool := @decide (Com E u v) (Classical.propDecidable _)
theorem comB_true {E : List (Nat × Nat)} {u v : Nat} : comB E u v = true ↔ Com E u v := by unfold comB; exact @decide_eq_true_iff _ (Classical.propDecidable _)
theorem comB_false {E : List (Nat × Nat)} {u v : Nat} : comB E u v = false ↔ ¬ Com E u v := by rw [← Bool.not_eq_true, comB_true]
/-- The truths of a function, in a row. -/
def bC (k : Nat) (f : Nat → Bool) : List Value := (List.range k).map fun i => .bool (f i)
theorem bC_len (k : Nat) (f : Nat → Bool) : (bC k f).length = k := by simp [bC]
theorem bC_at {k : Nat} (f : Nat → Bool) {i : Nat} (hi : i < k) : (bC k f)[i]? = some (.bool (f i)) := by
  unfold bC
  rw [List.getElem?_map, List.getElem?_range hi]; rfl
theorem bC_set {k : Nat} (f : Nat → Bool) (i : Nat) (x : Bool) : (bC k f).set i (.bool x) = bC k (upd f i x) := by
  refine List.ext_getElem? fun j => ?_
  rw [List.getElem?_set, bC_len]
  by_cases hj : j < k
  · rw [bC_at (upd f i x) hj, bC_at f hj]
    by_cases e : i = j
    · subst e
      rw [if_pos rfl, if_pos hj, upd_same]
    · rw [if_neg e, upd_other (fun q => e q.symm)]
  · have h1 : (bC k f)[j]? = none := List.getElem?_eq_none (by rw [bC_len]; omega)
    have h2 : (bC k (upd f i x))[j]? = none := List.getElem?_eq_none (by rw [bC_len]; omega)
    rw [h1, h2]
    by_cases e : i = j
    · subst e; rw [if_pos rfl, if_neg hj]
    · rw [if_neg e]
theorem bC_congr {k : Nat} {f g : Nat → Bool} (h : ∀ i, i < k → f i = g i) : bC k f = bC k g := List.map_congr_left fun i hi => by rw [h i (List.mem_range.1 hi)]
theorem bC_false (k : Nat) : List.replicate k (Value.bool false) = bC k fun _ => false := by
  refine List.ext_getElem? fun j => ?_
  by_cases hj : j < k
  · rw [bC_at _ hj, List.getElem?_replicate, if_pos hj]
  · rw [List.getElem?_eq_none (by simp; omega), List.getElem?_eq_none (by rw [bC_len]; omega)]
theorem boolInfo : (Try.prog.info? 4).map (fun i => (i.zero, i.size, i.bytes)) = some (some (.bool false), 1, 1) := by kernel_rfl
theorem bslInfo : (Try.prog.info? 34).map (fun i => (i.zero, i.size, i.bytes)) = some (some (.slice none 0 0), 1, 24) := by kernel_rfl
def cntF (n : Nat) (f : Nat → Bool) : Nat := (List.range n).countP fun i => !f i
theorem cntF_upd {n v : Nat} {f : Nat → Bool} (hv : v < n) (hf : f v = false) : cntF n (upd f v true) + 1 = cntF n f := by
  unfold cntF
  induction n with
  | zero => omega
  | succ n ih =>
    rw [List.range_succ, List.countP_append, List.countP_append]
    by_cases e : v = n
    · subst e
      have : (List.range v).countP (fun i => !(upd f v true) i) = (List.range v).countP (fun i => !f i) := by
        refine List.countP_congr fun x hx => ?_
        rw [upd_other (by have := List.mem_range.1 hx; omega)]
      rw [this]
      simp [upd_same, hf]
    · have := ih (by omega)
      simp only [List.countP_cons, List.countP_nil, upd_other (Ne.symm e)]
      omega
theorem cntF_le (n : Nat) (f : Nat → Bool) : cntF n f ≤ n := by
  have := List.countP_le_length (p := fun i => !f i) (l := List.range n)
  rwa [List.length_range] at this
set_option maxRecDepth 100000 in
set_option maxHeartbeats 2000000 in
theorem rComes_any (n : Nat) (E : List (Nat × Nat)) (Ae : Option Addr) (ne ce v : Nat) (w : World) (hr : RdE w w.heap.size Ae ne (ei E)) (hE : In n E) (hn : n ≤ 4096) (hne : ne ≤ 16384) (hv : v < n) :
    Calls Try.prog 16 #[ni n, .slice Ae ne ce, ni v] w fun e w' => ∃ g, e = .returned (.slice (some ⟨g, 0, none⟩) n n) ∧ Bk w' g 4 (bC n (comB E v)) ∧ w.heap.size ≤ g ∧ Below w.heap.size w w' := by
  have HLEN := Lib.hid (show E.length = ne by rw [← ei_len]; exact hr.len)
  have HR := Lib.hid hr
  have HE := Lib.hid hE
  clear hr hE
  obtain ⟨i0, hi0, hz0, hz1, hz2⟩ := info_parts boolInfo
  have hb4 : i0.bytes * n ≤ 281474976710656 := by rw [hz2]; omega
  have hmx : n ≤ maxLen := by simp only [maxLen]; omega
  have hvi : (v : Int) < (n : Int) := by omega
  have hv0 : (0 : Int) ≤ (v : Int) := by omega
  go_enter Try.func16, Try.ntmps16
  go_upto_region 2 with (first
    | (refine wpList_make_bk _ rfl (.tmp 10) (.tmp 10) 34 rfl 4 i0 _ Try.underlying34 hi0 hz0 hz1 rfl .i64 .i64 (n : Int) (n : Int) n n rfl rfl rfl rfl (Nat.le_refl _) hb4 hmx ?_
       intro W1 hb1 hbw1 hs1
       have HB1 := Lib.hid hb1
       have HW1 := Lib.hid hbw1
       have HS1 := Lib.hid hs1
       clear hb1 hbw1 hs1)
    | fail)
  obtain ⟨g, hg⟩ : ∃ g, g = w.heap.size := ⟨_, rfl⟩
  rw [← hg]
  have HG := Lib.hid hg
  have hbk : Bk W1 g 4 (bC n fun _ => false) := by rw [hg, ← bC_false]; exact HB1.out
  have c0 : W1.cell? ⟨g, v, none⟩ = some (.bool false) := (hbk.cell v).trans (bC_at _ hv)
  have f0 := hbk.frozen v
  have HBK := Lib.hid hbk
  clear hg hbk HB1
  go_upto_region 3 with (fail)
  obtain ⟨W2, hW2, hb2, hT2⟩ : ∃ W2, W2 = W1.setCell ⟨g, v, none⟩ (.bool true) ∧ Bk W2 g 4 (bC n (upd (fun _ => false) v true)) ∧ Below w.heap.size w W2 :=
    ⟨_, rfl, by rw [← bC_set]; exact HBK.out.set_ _ _, HW1.out.setCell (p := ⟨g, v, none⟩) (by rw [HG.out]; exact Nat.le_refl _) _⟩
  rw [← hW2]
  have HB2 := Lib.hid hb2
  have HT2 := Lib.hid hT2
  clear hW2 hb2 hT2 c0 f0 HBK
  repeat (first | go_skip | go_guarded | go_step)
  go_loopg [8] (2 * n + 1) (fun k mv wr => ∃ (f : Nat → Bool) (more : Bool), mv = .bool more ∧ 2 * cntF n f + (if more then 1 else 0) ≤ k ∧ Bk wr g 4 (bC n f) ∧ f v = true ∧ (∀ u, f u = true → Com E v u) ∧ (more = false → ∀ e ∈ E, f e.1 = true → f e.2 = true) ∧ Below w.heap.size w wr)
  case atStart => exact ⟨_, true, rfl, by have := cntF_le n (upd (fun _ => false) v true); simp; omega, HB2.out, upd_same, (fun u hu => by
    by_cases e : u = v
    · subst e; exact .refl
    · rw [upd_other e] at hu; cases hu), (fun h => by cases h), HT2.out⟩
  case round =>
    obtain ⟨G, rfl⟩ : ∃ G, G = gk := ⟨_, rfl⟩
    obtain ⟨f, more, rfl, hk, hbk, hfv, hsound, hclosed, hbw⟩ := hrel
    have HK := Lib.hid hk
    have HB := Lib.hid hbk
    have HFV := Lib.hid hfv
    have HSO := Lib.hid hsound
    have HCL := Lib.hid hclosed
    have HBW := Lib.hid hbw
    clear hk hbk hfv hsound hclosed hbw
    cases more with
    | false =>
      repeat (first | go_skip | go_guarded | go_step)
      go_ret
      have e : bC n f = bC n (comB E v) := bC_congr fun i hi => by
        rw [Bool.eq_iff_iff, comB_true]
        exact ⟨HSO.out i, fun h => h.closed (S := fun x => f x = true) (fun a b ha he => HCL.out rfl (a, b) he ha) HFV.out⟩
      exact ⟨g, rfl, by rw [← e]; exact HB.out, by rw [HG.out]; exact Nat.le_refl _, HBW.out⟩
    | true =>
      repeat (first | go_skip | go_guarded | go_step)
      go_loopw [8, 9] (fun mv q wr => ∃ (i : Nat) (f2 : Nat → Bool) (m2 : Bool), i ≤ ne ∧ mv = .bool m2 ∧ q = .int .i64 (i : Int) ∧ Bk wr g 4 (bC n f2) ∧ f2 v = true ∧ (∀ u, f2 u = true → Com E v u) ∧ (m2 = false → f2 = f ∧ ∀ e ∈ E.take i, f2 e.1 = true → f2 e.2 = true) ∧ (m2 = true → cntF n f2 < cntF n f) ∧ Below w.heap.size w wr) (fun _ q _ => ne - (intOf q).toNat)
      case atStart => exact ⟨0, f, false, by omega, rfl, rfl, HB.out, HFV.out, HSO.out, fun _ => ⟨rfl, by simp⟩, (fun h => by cases h), HBW.out⟩
      case round =>
        rename World => w2
        obtain ⟨i, f2, m2, hi, rfl, rfl, hbk2, hfv2, hso2, hm0, hm1, hbw2⟩ := hrel
        have HB2' := Lib.hid hbk2
        have HFV2 := Lib.hid hfv2
        have HSO2 := Lib.hid hso2
        have HM0 := Lib.hid hm0
        have HM1 := Lib.hid hm1
        have HBW2 := Lib.hid hbw2
        clear hbk2 hfv2 hso2 hm0 hm1 hbw2
        by_cases hlt : i < ne
        · have hii : (i : Int) < (ne : Int) := by omega
          obtain ⟨be, oe, e, hAe, hbe, he, hc0, hc1⟩ := HR.out.at_ hlt
          subst hAe
          obtain ⟨⟨a, b⟩, hx, rfl⟩ := ei_at he
          have hab := HE.out _ (List.mem_of_getElem? hx)
          obtain ⟨ha, hb⟩ := hab
          dsimp only at ha hb hc0 hc1
          have k0 := (HBW2.out.cell (p := ⟨be, oe + i * 2, none⟩) hbe).trans hc0
          have k1 := (HBW2.out.cell (p := ⟨be, oe + i * 2 + 1, none⟩) hbe).trans hc1
          have HX := Lib.hid hx
          clear hx he hc0 hc1
          have ca : w2.cell? ⟨g, a, none⟩ = some (.bool (f2 a)) := (HB2'.out.cell a).trans (bC_at _ ha)
          have cb : w2.cell? ⟨g, b, none⟩ = some (.bool (f2 b)) := (HB2'.out.cell b).trans (bC_at _ hb)
          have fb := HB2'.out.frozen b
          have hai : (a : Int) < (n : Int) := by omega
          have ha0 : (0 : Int) ≤ (a : Int) := by omega
          have hbi : (b : Int) < (n : Int) := by omega
          have hb0 : (0 : Int) ≤ (b : Int) := by omega
          have htk : E.take (i + 1) = E.take i ++ [(a, b)] := by rw [List.take_add_one, HX.out]; rfl
          have HTK := Lib.hid htk
          clear htk
          cases hfa : f2 a with
          | false =>
            rw [hfa] at ca
            have HFA := Lib.hid hfa
            clear hfa
            repeat (first | go_skip | go_guarded | go_step)
            go_roundw
            case rel => exact ⟨i + 1, f2, m2, by omega, rfl, by go_num, HB2'.out, HFV2.out, HSO2.out, (fun h => ⟨(HM0.out h).1, fun e he h1 => by
              rw [HTK.out] at he
              rcases List.mem_append.1 he with he | he
              · exact (HM0.out h).2 e he h1
              · simp only [List.mem_singleton] at he
                subst he
                rw [HFA.out] at h1
                cases h1⟩), HM1.out, HBW2.out⟩
            case measure => simp [intOf]; omega
          | true =>
            rw [hfa] at ca
            have HFA := Lib.hid hfa
            clear hfa
            cases hfb : f2 b with
            | true =>
              rw [hfb] at cb
              have HFB := Lib.hid hfb
              clear hfb
              repeat (first | go_skip | go_guarded | go_step)
              go_roundw
              case rel => exact ⟨i + 1, f2, m2, by omega, rfl, by go_num, HB2'.out, HFV2.out, HSO2.out, (fun h => ⟨(HM0.out h).1, fun e he h1 => by
                rw [HTK.out] at he
                rcases List.mem_append.1 he with he | he
                · exact (HM0.out h).2 e he h1
                · simp only [List.mem_singleton] at he
                  subst he
                  exact HFB.out⟩), HM1.out, HBW2.out⟩
              case measure => simp [intOf]; omega
            | false =>
              rw [hfb] at cb
              have HFB := Lib.hid hfb
              clear hfb
              repeat (first | go_skip | go_guarded | go_step)
              have hset := HB2'.out.set_ b (.bool true)
              rw [bC_set] at hset
              have hcnt := cntF_upd hb HFB.out
              have hle : cntF n f2 ≤ cntF n f := by
                cases hm : m2 with
                | false => rw [(HM0.out hm).1]; exact Nat.le_refl _
                | true => exact Nat.le_of_lt (HM1.out hm)
              have hbl := HBW2.out.setCell (p := ⟨g, b, none⟩) (by rw [HG.out]; exact Nat.le_refl _) (.bool true)
              go_roundw
              case rel => exact ⟨i + 1, upd f2 b true, true, by omega, rfl, by go_num, hset, (by
                by_cases e : v = b
                · subst e; exact upd_same
                · rw [upd_other e]; exact HFV2.out), (fun u hu => by
                by_cases e : u = b
                · subst e; exact (HSO2.out a HFA.out).step (List.mem_of_getElem? HX.out)
                · rw [upd_other e] at hu; exact HSO2.out u hu), (fun h => by cases h), fun _ => by omega, hbl⟩
              case measure => simp [intOf]; omega
        · obtain rfl : i = ne := by omega
          have hii : ¬ (i : Int) < (i : Int) := by omega
          have hk := HK.out
          simp only [if_true] at hk
          have hfull : E.take i = E := List.take_of_length_le (by rw [HLEN.out]; exact Nat.le_refl _)
          have HFU := Lib.hid hfull
          have HKK := Lib.hid hk
          clear hk hfull
          repeat (first | go_skip | go_guarded | go_step)
          have hk := HKK.out
          have hm0 := HM0.out
          rw [HFU.out] at hm0
          have hmeas : 2 * cntF n f2 + (if m2 then 1 else 0) < G := by
            cases hm : m2 with
            | false => rw [(hm0 hm).1]; simp; omega
            | true => have := HM1.out hm; simp; omega
          go_roundg (2 * cntF n f2 + (if m2 then 1 else 0))
          case measure => exact hmeas
          case rel => exact ⟨f2, m2, rfl, Nat.le_refl _, HB2'.out, HFV2.out, HSO2.out, fun h => (hm0 h).2, HBW2.out⟩
end Go.Proofs.Ytbfagejdpbagjaa
