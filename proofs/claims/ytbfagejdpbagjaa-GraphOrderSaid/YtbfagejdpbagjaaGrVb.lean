/- GraphOrder: each node in one part, parts in the document's order. No condition. (Written by genGrVb.py.) -/
import Derived.Test.YtbfagejdpbagjaaGrVc
import Derived.Test.YtbfagejdpbagjaaGrU
set_option linter.unusedVariables false
set_option linter.unusedSimpArgs false
namespace Go.Proofs.Ytbfagejdpbagjaa.graphOrder
open Go Go.RowKit Go.ChangeShapes Go.WideShapes Go.ChangeAt

def wI (k : Nat) (f : Nat → Int) : List Value := (List.range k).map fun i => .int .i64 (f i)
theorem wI_len (k : Nat) (f : Nat → Int) : (wI k f).length = k := by simp [wI]
theorem wI_at {k : Nat} (f : Nat → Int) {i : Nat} (hi : i < k) : (wI k f)[i]? = some (.int .i64 (f i)) := by
  unfold wI
  rw [List.getElem?_map, List.getElem?_range hi]; rfl
theorem wI_congr {k : Nat} {f g : Nat → Int} (h : ∀ i, i < k → f i = g i) : wI k f = wI k g := List.map_congr_left fun i hi => by rw [h i (List.mem_range.1 hi)]
theorem wI_set {k : Nat} (f : Nat → Int) (i : Nat) (x : Int) : (wI k f).set i (.int .i64 x) = wI k (upd f i x) := by
  refine List.ext_getElem? fun j => ?_
  rw [List.getElem?_set, wI_len]
  by_cases hj : j < k
  · rw [wI_at (upd f i x) hj, wI_at f hj]
    by_cases e : i = j
    · subst e
      rw [if_pos rfl, if_pos hj, upd_same]
    · rw [if_neg e, upd_other (fun q => e q.symm)]
  · have h1 : (wI k f)[j]? = none := List.getElem?_eq_none (by rw [wI_len]; omega)
    have h2 : (wI k (upd f i x))[j]? = none := List.getElem?_eq_none (by rw [wI_len]; omega)
    rw [h1, h2]
    by_cases e : i = j
    · subst e; rw [if_pos rfl, if_neg hj]
    · rw [if_neg e]
theorem wI_zero (k : Nat) : List.replicate k (Value.int .i64 0) = wI k fun _ => 0 := by
  refine List.ext_getElem? fun j => ?_
  by_cases hj : j < k
  · rw [wI_at _ hj, List.getElem?_replicate, if_pos hj]
  · rw [List.getElem?_eq_none (by simp; omega), List.getElem?_eq_none (by rw [wI_len]; omega)]
theorem right_nat (k : Nat) (E : List (Nat × Nat)) (A : Option Addr) (ne c : Nat) (w : World) (hr : RdE w w.heap.size A ne (ei E)) (hE : In k E) (hk : k ≤ 60) (hne : ne ≤ 300) :
    Calls Try.prog 15 #[ni k, .slice A ne c] w fun e w' => e = .returned (.bool true) ∧ w' = w := by
  have h := right_any (k : Int) A ne c (ei E) w hr
  have e : rightB (k : Int) ne (ei E) = true := by
    unfold rightB
    rw [decide_eq_true (by omega), decide_eq_true (by omega)]
    simp only [Bool.true_and, List.all_eq_true]
    intro x hx
    unfold ei at hx
    obtain ⟨y, hy, rfl⟩ := List.mem_map.1 hx
    have := hE y hy
    unfold okE
    simp
    omega
  rw [e] at h
  exact h
theorem flat_step {L : List (List Nat)} {p : Nat} {pt : List Nat} (h : L[p]? = some pt) : (L.take (p + 1)).flatten = (L.take p).flatten ++ pt := by
  rw [List.take_add_one, h, List.flatten_append]
  simp
theorem not_done {n : Nat} {E : List (Nat × Nat)} {L : List (List Nat)} (h : IsParts n E L) {p i y : Nat} {pt : List Nat} (hp : L[p]? = some pt) (hy : pt[i]? = some y) : y ∉ (L.take p).flatten ++ pt.take i := by
  intro hm
  have hmem := List.mem_of_getElem? hy
  rcases List.mem_append.1 hm with hm | hm
  · rw [List.mem_flatten] at hm
    obtain ⟨q, h1, h2⟩ := hm
    obtain ⟨j, hj, e⟩ := List.getElem_of_mem h1
    have hj2 : (L.take p)[j]? = some q := by rw [List.getElem?_eq_getElem hj, e]
    rw [List.getElem?_take] at hj2
    split at hj2
    · have a1 := (h.of_eq hj2 h2).2
      have a2 := (h.of_eq hp hmem).2
      omega
    · cases hj2
  · obtain ⟨j, hj, e⟩ := List.getElem_of_mem hm
    have hj2 : (pt.take i)[j]? = some y := by rw [List.getElem?_eq_getElem hj, e]
    rw [List.getElem?_take] at hj2
    split at hj2
    · rename_i hlt
      obtain ⟨v, _, e2⟩ := h.cls pt (List.mem_of_getElem? hp)
      have hnd : pt.Nodup := by rw [e2]; exact part_nodup
      obtain ⟨q1, q2⟩ := List.getElem?_eq_some_iff.1 hy
      obtain ⟨q3, q4⟩ := List.getElem?_eq_some_iff.1 hj2
      exact absurd (q4.trans q2.symm) (List.pairwise_iff_getElem.1 hnd j i q3 q1 hlt)
    · cases hj2
set_option maxRecDepth 100000 in
set_option maxHeartbeats 1000000 in
theorem walkNot (n : Int) (A : Option Addr) (ne c : Nat) (E0 : List (Int × Int)) (w : World) (hr : RdE w w.heap.size A ne E0) (hf : rightB n ne E0 = false) :
    Calls Try.prog 4 #[.int .i64 n, .slice A ne c] w fun e w' => e = .returned (.bool true) ∧ Below w.heap.size w w' := by
  have hright := right_any n A ne c E0 w hr
  rw [hf] at hright
  clear hr hf
  go_enter Try.func4, Try.ntmps4
  repeat (first | go_skip | go_guarded | go_step)
  refine hright.mono ?_
  rintro e w1 ⟨rfl, rfl⟩
  clear hright
  dsimp only
  repeat (first | go_skip | go_guarded | go_step)
  refine (works_any _).mono ?_
  rintro e wz ⟨rfl, hbz⟩
  have HBZ := Lib.hid hbz
  clear hbz
  dsimp only
  repeat (first | go_skip | go_guarded | go_step)
  go_ret
  exact ⟨rfl, HBZ.out⟩
set_option maxRecDepth 100000 in
set_option maxHeartbeats 4000000 in
theorem walk (k : Nat) (E : List (Nat × Nat)) (A : Option Addr) (ne c : Nat) (w : World) (hr : RdE w w.heap.size A ne (ei E)) (hE : In k E) (hk : k ≤ 60) (hne : ne ≤ 300) :
    Calls Try.prog 4 #[ni k, .slice A ne c] w fun e w' => e = .returned (.bool true) ∧ Below w.heap.size w w' := by
  have hright := right_nat k E A ne c w hr hE hk hne
  have hlen : E.length = ne := by rw [← ei_len]; exact hr.len
  have HR := Lib.hid hr
  have HE := Lib.hid hE
  obtain ⟨i0, hi0, hz0, hz1, hz2⟩ := info_parts intInfo
  have hb4 : i0.bytes * k ≤ 281474976710656 := by rw [hz2]; omega
  have hmx : k ≤ maxLen := by simp only [maxLen]; omega
  clear hr hE
  go_enter Try.func4, Try.ntmps4
  repeat (first | go_skip | go_guarded | go_step)
  refine hright.mono ?_
  rintro e w1 ⟨rfl, rfl⟩
  clear hright
  dsimp only
  repeat (first | go_skip | go_guarded | go_step)
  refine (parts_nat k E A ne c w1 HR.out (by omega) HE.out (by omega)).mono ?_
  rintro e w2 ⟨A1, c1, L, R, rfl, hrp, hord, hll, hb2⟩
  have hI := hord.isParts HE.out
  have HI := Lib.hid hI
  have HO := Lib.hid hord
  have HRP := Lib.hid hrp
  have HB2 := Lib.hid hb2
  have HR2 := Lib.hid ((HR.out.below hb2).more hb2.size)
  have hlk : L.length ≤ k := hI.len_le
  obtain ⟨ll, hll2⟩ : ∃ ll, ll = L.length := ⟨_, rfl⟩
  rw [← hll2] at hlk ⊢
  have HLL := Lib.hid hll2
  clear hrp hord hb2 hI hll hll2
  dsimp only
  repeat (first
    | (at_make; refine wpList_make_bk _ rfl (.tmp 30) (.tmp 30) 33 rfl 3 i0 _ Try.underlying33 hi0 hz0 hz1 rfl .i64 .i64 (k : Int) (k : Int) k k rfl rfl rfl rfl (Nat.le_refl _) hb4 hmx ?_
       intro W1 hb1 hbw1 hs1
       have HB1 := Lib.hid hb1
       have HW1 := Lib.hid hbw1
       have HS1 := Lib.hid hs1
       clear hb1 hbw1 hs1)
    | go_skip | go_guarded | go_step)
  obtain ⟨gW, hgW⟩ : ∃ gW, gW = w2.heap.size := ⟨_, rfl⟩
  rw [← hgW]
  have HGW := Lib.hid hgW
  have HB0 := Lib.hid (show Bk W1 gW 3 (wI k fun _ => 0) by rw [hgW, ← wI_zero]; exact HB1.out)
  clear hgW HB1
  go_loopw [8] (fun q wr => ∃ (v : Nat) (f : Nat → Int), v ≤ k ∧ q = .int .i64 (v : Int) ∧ Bk wr gW 3 (wI k f) ∧ (∀ x, x < v → f x = -1) ∧ Below w2.heap.size w2 wr) (fun q _ => k - (intOf q).toNat)
  case atStart => exact ⟨0, _, by omega, rfl, HB0.out, fun x hx => absurd hx (Nat.not_lt_zero _), HW1.out⟩
  case round =>
    rename World => wr
    obtain ⟨v, f, hv, rfl, hbk, hf, hbw⟩ := hrel
    have HBK := Lib.hid hbk
    have HF := Lib.hid hf
    have HBW := Lib.hid hbw
    clear hbk hf hbw
    by_cases hlt : v < k
    · have hvi : (v : Int) < (k : Int) := by omega
      have hv0 : (0 : Int) ≤ (v : Int) := by omega
      have cv := (HBK.out.cell v).trans (wI_at _ hlt)
      have fv := HBK.out.frozen v
      repeat (first | go_skip | go_guarded | go_step)
      have hset := HBK.out.set_ v (.int .i64 (-1))
      rw [wI_set] at hset
      have hbl := HBW.out.setCell (p := ⟨gW, v, none⟩) (by rw [HGW.out]; exact Nat.le_refl _) (.int .i64 (-1))
      go_roundw
      case rel => exact ⟨v + 1, _, by omega, by go_num, hset, (fun x hx => by
        by_cases e : x = v
        · subst e; exact upd_same
        · rw [upd_other e]; exact HF.out x (by omega)), hbl⟩
      case measure => simp [intOf]; omega
    · obtain rfl : k = v := by omega
      have hvi : ¬ (k : Int) < (k : Int) := by omega
      repeat (first | go_skip | go_guarded | go_step)
      go_loopw [9] (fun q wr => ∃ (p : Nat) (f : Nat → Int), p ≤ ll ∧ q = .int .i64 (p : Int) ∧ Bk wr gW 3 (wI k f) ∧ (∀ x, x < k → f x = if x ∈ (L.take p).flatten then (ofQ L x : Int) else -1) ∧ Below w2.heap.size w2 wr) (fun q _ => ll - (intOf q).toNat)
      case atStart => exact ⟨0, f, by omega, rfl, HBK.out, (fun x hx => by rw [HF.out x hx]; simp), HBW.out⟩
      case round =>
        rename World => wp
        obtain ⟨p, f2, hp, rfl, hbk2, hf2, hbw2⟩ := hrel
        have HBK2 := Lib.hid hbk2
        have HF2 := Lib.hid hf2
        have HBW2 := Lib.hid hbw2
        clear hbk2 hf2 hbw2
        by_cases hltp : p < ll
        · have hpi : (p : Int) < (ll : Int) := by omega
          obtain ⟨b, o, r, pt, hA1, hbl, _, hpt, hc, hr1, _, hcell⟩ := HRP.out.at_ (i := p) (by rw [← HLL.out]; exact hltp)
          subst hA1
          have hpn0 : pt ≠ [] := HI.out.ne (List.mem_of_getElem? hpt)
          have hps : pt.Pairwise (· < ·) := by
            obtain ⟨v, _, e⟩ := HI.out.cls pt (List.mem_of_getElem? hpt)
            rw [e]; exact part_sorted
          have hplk : pt.length ≤ 4096 := by have := order_cls HO.out pt (List.mem_of_getElem? hpt); omega
          obtain ⟨pn, hpn⟩ : ∃ pn, pn = pt.length := ⟨_, rfl⟩
          obtain ⟨gp, hgp⟩ : ∃ gp, gp = r.1 := ⟨_, rfl⟩
          have hpos : 0 < pn := by rw [hpn]; exact List.length_pos_iff.2 hpn0
          have HPT := Lib.hid hpt
          have HPS := Lib.hid hps
          have HPN := Lib.hid hpn
          have HCP := Lib.hid (show ∀ V, Below w2.heap.size w2 V → V.cell? ⟨b, o + p, none⟩ = some (.slice (some ⟨gp, 0, none⟩) pn r.2) from fun V hV => (hV.cell (p := ⟨b, o + p, none⟩) hbl).trans (by rw [hgp, hpn]; exact hc))
          have HCE := Lib.hid (show ∀ V, Below w2.heap.size w2 V → ∀ j y, pt[j]? = some y → V.cell? ⟨gp, j, none⟩ = some (ni y) from fun V hV j y hy => by rw [hgp]; exact (hV.cell (p := ⟨r.1, j, none⟩) hr1).trans (hcell j y hy))
          rw [← hpn] at hplk
          have hne0 : ((pn : Int) == 0) = false := by simp; omega
          have hne1 : ¬ (pn : Int) = 0 := by omega
          clear hbl hpt hc hr1 hcell hpn0 hps hpn hgp
          have c0 := HCP.out wp HBW2.out
          repeat (first | go_skip | go_guarded | go_step)
          clear c0
          go_loopw [10] (fun q wr => ∃ (i : Nat) (f : Nat → Int), i ≤ pn ∧ q = .int .i64 (i : Int) ∧ Bk wr gW 3 (wI k f) ∧ (∀ x, x < k → f x = if x ∈ (L.take p).flatten ++ pt.take i then (ofQ L x : Int) else -1) ∧ Below w2.heap.size w2 wr) (fun q _ => pn - (intOf q).toNat)
          case atStart => exact ⟨0, f2, by omega, rfl, HBK2.out, (fun x hx => by rw [HF2.out x hx]; simp), HBW2.out⟩
          case round =>
            rename World => wi
            obtain ⟨i, f3, hi, rfl, hbk3, hf3, hbw3⟩ := hrel
            have HBK3 := Lib.hid hbk3
            have HF3 := Lib.hid hf3
            have HBW3 := Lib.hid hbw3
            clear hbk3 hf3 hbw3
            have c0 := HCP.out wi HBW3.out
            by_cases hlti : i < pn
            · have hii : (i : Int) < (pn : Int) := by omega
              obtain ⟨y, hy⟩ : ∃ y, pt[i]? = some y := ⟨_, List.getElem?_eq_getElem (by rw [← HPN.out]; exact hlti)⟩
              have c1 := HCE.out wi HBW3.out i y hy
              have hyk := (HI.out.of_eq HPT.out (List.mem_of_getElem? hy)).1
              have hyq := (HI.out.of_eq HPT.out (List.mem_of_getElem? hy)).2
              have hyn := not_done HI.out HPT.out hy
              have cw : wi.cell? ⟨gW, y, none⟩ = some (.int .i64 (-1)) := by
                rw [HBK3.out.cell y, wI_at _ hyk, HF3.out y hyk, if_neg hyn]
              have fw := HBK3.out.frozen y
              have hyi : (y : Int) < (k : Int) := by omega
              have hy0 : (0 : Int) ≤ (y : Int) := by omega
              have hyi2 : ¬ (k : Int) ≤ (y : Int) := by omega
              have hy2 : ¬ (y : Int) < 0 := by omega
              have HY := Lib.hid hy
              have HYQ := Lib.hid hyq
              clear hy hyq hyn
              have HST := Lib.hid (show ∀ x, x < k → upd f3 y (p : Int) x = if x ∈ (L.take p).flatten ++ pt.take (i + 1) then (ofQ L x : Int) else -1 from fun x hx => by
                have e1 : pt.take (i + 1) = pt.take i ++ [y] := by rw [List.take_add_one, HY.out]; rfl
                rw [e1, ← List.append_assoc]
                by_cases e : x = y
                · subst e
                  rw [upd_same, if_pos (by simp), HYQ.out]
                · rw [upd_other e, HF3.out x hx]
                  have : x ∈ (L.take p).flatten ++ pt.take i ++ [y] ↔ x ∈ (L.take p).flatten ++ pt.take i := by
                    rw [List.mem_append (t := [y])]
                    simp [e]
                  simp only [this])
              by_cases hi0' : i = 0
              · subst hi0'
                repeat (first | go_skip | go_guarded | go_step)
                have hset := HBK3.out.set_ y (.int .i64 (p : Int))
                rw [wI_set] at hset
                have hbl := HBW3.out.setCell (p := ⟨gW, y, none⟩) (by rw [HGW.out]; exact Nat.le_refl _) (.int .i64 (p : Int))
                go_roundw
                case rel => exact ⟨0 + 1, _, by omega, by first | rfl | go_num, hset, HST.out, hbl⟩
                case measure => simp [intOf]; omega
              · obtain ⟨j, rfl⟩ : ∃ j, i = j + 1 := ⟨i - 1, by omega⟩
                obtain ⟨z, hz⟩ : ∃ z, pt[j]? = some z := ⟨_, List.getElem?_eq_getElem (by rw [← HPN.out]; omega)⟩
                have c2 := HCE.out wi HBW3.out j z hz
                have hzy : z < y := by
                  obtain ⟨q1, q2⟩ := List.getElem?_eq_some_iff.1 hz
                  obtain ⟨q3, q4⟩ := List.getElem?_eq_some_iff.1 HY.out
                  have := List.pairwise_iff_getElem.1 HPS.out j (j + 1) q1 q3 (by omega)
                  rw [q2, q4] at this
                  exact this
                have hzy2 : ¬ (y : Int) ≤ (z : Int) := by omega
                have hjp : (0 : Int) < (j : Int) + 1 := by omega
                have hjp2 : (0 : Int) < ((j + 1 : Nat) : Int) := by omega
                have hwr : IntKind.i64.wrap (((j + 1 : Nat) : Int) - 1) = (j : Int) := by rw [IntKind.wrap_i64]; omega
                have hwr2 : IntKind.i64.wrap ((j : Int) + 1 - 1) = (j : Int) := by rw [IntKind.wrap_i64]; omega
                have hjn : (j : Int) < (pn : Int) := by omega
                have hj0 : (0 : Int) ≤ (j : Int) := by omega
                clear hz
                repeat (first | go_skip | go_guarded | go_step)
                have hset := HBK3.out.set_ y (.int .i64 (p : Int))
                rw [wI_set] at hset
                have hbl := HBW3.out.setCell (p := ⟨gW, y, none⟩) (by rw [HGW.out]; exact Nat.le_refl _) (.int .i64 (p : Int))
                go_roundw
                case rel => exact ⟨j + 1 + 1, _, by omega, by go_num, hset, HST.out, hbl⟩
                case measure => simp [intOf]; omega
            · obtain rfl : pn = i := by omega
              have hii : ¬ (pn : Int) < (pn : Int) := by omega
              repeat (first | go_skip | go_guarded | go_step)
              go_roundw
              case rel => exact ⟨p + 1, f3, by omega, by go_num, HBK3.out, (fun x hx => by
                rw [HF3.out x hx, flat_step HPT.out, List.take_of_length_le (l := pt) (i := pn) (by rw [← HPN.out]; exact Nat.le_refl _)]), HBW3.out⟩
              case measure => simp [intOf]; omega
        · obtain rfl : ll = p := by omega
          have hpi : ¬ (ll : Int) < (ll : Int) := by omega
          have hbw : Bk wp gW 3 (wI k fun x => (ofQ L x : Int)) := by
            have e : wI k f2 = wI k fun x => (ofQ L x : Int) := wI_congr fun x hx => by
              have hlle : L.length ≤ ll := by rw [← HLL.out]; exact Nat.le_refl _
              obtain ⟨p, h1, h2⟩ := HI.out.cover x hx
              rw [HF2.out x hx, List.take_of_length_le hlle, if_pos (List.mem_flatten.2 ⟨p, h1, h2⟩)]
            rw [← e]; exact HBK2.out
          have HWB := Lib.hid hbw
          have HLATE := Lib.hid (fun (u v : Nat) (hu : u < k) (hc : Com E u v) => HO.out.later HE.out hu hc)
          have HRPp := Lib.hid ((HRP.out.below HBW2.out).more HBW2.out.size)
          have HREp := Lib.hid ((HR2.out.below HBW2.out).more HBW2.out.size)
          have HBWP := Lib.hid (HB2.out.trans (HBW2.out.mono HB2.out.size))
          clear hbw
          repeat (first | go_skip | go_guarded | go_step)
          go_loopw [12] (fun q wr => ∃ i : Nat, i ≤ ne ∧ q = .int .i64 (i : Int) ∧ Below wp.heap.size wp wr) (fun q _ => ne - (intOf q).toNat)
          case atStart => exact ⟨0, by omega, rfl, Below.refl _ _⟩
          case round =>
            rename World => wr2
            obtain ⟨i, hi, rfl, hbw⟩ := hrel
            have HBR := Lib.hid hbw
            clear hbw
            by_cases hlti : i < ne
            · have hii : (i : Int) < (ne : Int) := by omega
              obtain ⟨be, oe, ed, hA, hbe, he, hc0, hc1⟩ := HREp.out.at_ hlti
              subst hA
              obtain ⟨⟨a, b⟩, hx, rfl⟩ := ei_at he
              obtain ⟨ha, hb⟩ := HE.out _ (List.mem_of_getElem? hx)
              have hle := HLATE.out a b ha (Com.one (List.mem_of_getElem? hx))
              dsimp only at ha hb hc0 hc1
              have hall : ∀ q, Below wp.heap.size wp (wr2.drewN q) := fun q => belowDrews HBR.out q
              obtain ⟨oa, hoa⟩ : ∃ oa, oa = ofQ L a := ⟨_, rfl⟩
              obtain ⟨ob, hob⟩ : ∃ ob, ob = ofQ L b := ⟨_, rfl⟩
              rw [← hoa, ← hob] at hle
              have qa := fun q => ((hall q).cell (p := ⟨be, oe + i * 2, none⟩) hbe).trans hc0
              have qb := fun q => ((hall q).cell (p := ⟨be, oe + i * 2 + 1, none⟩) hbe).trans hc1
              have qc : ∀ q, (wr2.drewN q).cell? ⟨gW, a, none⟩ = some (.int .i64 (oa : Int)) := fun q => by rw [hoa]; exact ((hall q).cell (p := ⟨gW, a, none⟩) HWB.out.lt).trans ((HWB.out.cell a).trans (wI_at _ ha))
              have qd : ∀ q, (wr2.drewN q).cell? ⟨gW, b, none⟩ = some (.int .i64 (ob : Int)) := fun q => by rw [hob]; exact ((hall q).cell (p := ⟨gW, b, none⟩) HWB.out.lt).trans ((HWB.out.cell b).trans (wI_at _ hb))
              have hgt : ¬ (oa : Int) < (ob : Int) := by omega
              have hai : (a : Int) < (k : Int) := by omega
              have ha0 : (0 : Int) ≤ (a : Int) := by omega
              have hbi : (b : Int) < (k : Int) := by omega
              have hb0 : (0 : Int) ≤ (b : Int) := by omega
              clear hall he hc0 hc1 hbe hx hoa hob
              go_upto_region 26 with (fail)
              go_quiet (fail)
              repeat (first | go_skip | go_guarded | go_step)
              have hb4 := belowDrews HBR.out nq
              go_roundw
              case rel => exact ⟨i + 1, by omega, by go_num, hb4⟩
              case measure => simp [intOf]; omega
            · obtain rfl : ne = i := by omega
              have hii : ¬ (ne : Int) < (ne : Int) := by omega
              repeat (first | go_skip | go_guarded | go_step)
              go_loopw [13] (fun q wr => ∃ v : Nat, v ≤ k ∧ q = .int .i64 (v : Int) ∧ Below wp.heap.size wp wr) (fun q _ => k - (intOf q).toNat)
              case atStart => exact ⟨0, by omega, rfl, HBR.out⟩
              case round =>
                rename World => w3
                obtain ⟨v, hv, rfl, hbw⟩ := hrel
                have HB3 := Lib.hid hbw
                clear hbw
                by_cases hltv : v < k
                · have hvi : (v : Int) < (k : Int) := by omega
                  have hv0 : (0 : Int) ≤ (v : Int) := by omega
                  obtain ⟨ov, hov⟩ : ∃ ov, ov = ofQ L v := ⟨_, rfl⟩
                  have HOV := Lib.hid hov
                  have HCV := Lib.hid (show ∀ V, Below wp.heap.size wp V → V.cell? ⟨gW, v, none⟩ = some (.int .i64 (ov : Int)) from fun V hV => by rw [hov]; exact (hV.cell (p := ⟨gW, v, none⟩) HWB.out.lt).trans ((HWB.out.cell v).trans (wI_at _ hltv)))
                  have hpx : partIx L (v : Int) = (ov : Int) := by rw [hov]; exact partIx_at HI.out hltv
                  have HPX := Lib.hid hpx
                  have hov0 : ¬ (ov : Int) < 0 := by omega
                  have hovn : ((ov : Int) != ov) = false := by simp
                  clear hov hpx
                  go_upto_region 31 with (fail)
                  have HW3 := Lib.hid (Below.refl w3.heap.size w3)
                  refine wp_region_held_drew (S := fun V => Below w3.heap.size w3 V) (by kernel_rfl) ?_ (fun hHeld => ?_)
                  · exact (Below.refl w3.heap.size w3).drew
                  refine wpAnyH_take (i := 0) (oi := ?oid1) (v := ?vd1) ?hod1 (by kernel_rfl) ?hfd1 ?hrd1 ?hQd1 ?hyd1 hHeld ?restd1
                  case hod1 => (simp only [List.getElem?_toArray, List.getElem?_cons_succ, List.getElem?_cons_zero]; exact rfl)
                  case hfd1 => kernel_rfl
                  case hrd1 => kernel_rfl
                  case hQd1 => exact fun _ _ _ h => h
                  case hyd1 =>
                    refine Or.inl ⟨by rfl, ?_⟩
                    intro V hSV
                    go_simp
                    (try with_reducible rfl)
                  try simp only [Act.put, List.setIfInBounds_toArray, List.set_cons_zero, List.set_cons_succ]
                  refine wpAnyH_take (i := 1) (oi := ?oid2) (v := ?vd2) ?hod2 (by kernel_rfl) ?hfd2 ?hrd2 ?hQd2 ?hyd2 hHeld ?restd2
                  case hod2 => (simp only [List.getElem?_toArray, List.getElem?_cons_succ, List.getElem?_cons_zero]; exact rfl)
                  case hfd2 => kernel_rfl
                  case hrd2 => kernel_rfl
                  case hQd2 => exact fun _ _ _ h => h
                  case hyd2 =>
                    refine Or.inl ⟨by rfl, ?_⟩
                    intro V hSV
                    go_simp
                    (try with_reducible rfl)
                  try simp only [Act.put, List.setIfInBounds_toArray, List.set_cons_zero, List.set_cons_succ]
                  refine wpAnyH_take (i := 2) (oi := ?oid3) (v := ?vd3) ?hod3 (by kernel_rfl) ?hfd3 ?hrd3 ?hQd3 ?hyd3 hHeld ?restd3
                  case hod3 => (simp only [List.getElem?_toArray, List.getElem?_cons_succ, List.getElem?_cons_zero]; exact rfl)
                  case hfd3 => kernel_rfl
                  case hrd3 => kernel_rfl
                  case hQd3 => exact fun _ _ _ h => h
                  case hyd3 =>
                    refine Or.inl ⟨by rfl, ?_⟩
                    intro V hSV
                    go_simp
                    (try with_reducible rfl)
                  try simp only [Act.put, List.setIfInBounds_toArray, List.set_cons_zero, List.set_cons_succ]
                  refine wpAnyH_take (i := 3) (oi := ?oid4) (v := ?vd4) ?hod4 (by kernel_rfl) ?hfd4 ?hrd4 ?hQd4 ?hyd4 hHeld ?restd4
                  case hod4 => (simp only [List.getElem?_toArray, List.getElem?_cons_succ, List.getElem?_cons_zero]; exact rfl)
                  case hfd4 => kernel_rfl
                  case hrd4 => kernel_rfl
                  case hQd4 => exact fun _ _ _ h => h
                  case hyd4 =>
                    refine Or.inl ⟨by rfl, ?_⟩
                    intro V hSV
                    have qv := HCV.out V (HB3.out.trans (Below.mono hSV HB3.out.size))
                    go_simp
                    (try with_reducible rfl)
                  try simp only [Act.put, List.setIfInBounds_toArray, List.set_cons_zero, List.set_cons_succ]
                  refine wpAnyH_take (i := 4) (oi := ?oid5) (v := .bool false) ?hod5 (by kernel_rfl) ?hfd5 ?hrd5 ?hQd5 ?hyd5 hHeld ?restd5
                  case hod5 => (simp only [List.getElem?_toArray, List.getElem?_cons_succ, List.getElem?_cons_zero]; exact rfl)
                  case hfd5 => kernel_rfl
                  case hrd5 => kernel_rfl
                  case hQd5 => exact fun _ _ _ h => h
                  case hyd5 =>
                    refine Or.inl ⟨by rfl, ?_⟩
                    intro V hSV
                    go_simp
                    (try with_reducible rfl)
                  try simp only [Act.put, List.setIfInBounds_toArray, List.set_cons_zero, List.set_cons_succ]
                  refine wpAnyH_take (i := 5) (oi := ?oid6) (v := ?vd6) ?hod6 (by kernel_rfl) ?hfd6 ?hrd6 ?hQd6 ?hyd6 hHeld ?restd6
                  case hod6 => (simp only [List.getElem?_toArray, List.getElem?_cons_succ, List.getElem?_cons_zero]; exact rfl)
                  case hfd6 => kernel_rfl
                  case hrd6 => kernel_rfl
                  case hQd6 => exact fun _ _ _ h => h
                  case hyd6 =>
                    refine Or.inl ⟨by rfl, ?_⟩
                    intro V hSV
                    go_simp
                    (try with_reducible rfl)
                  try simp only [Act.put, List.setIfInBounds_toArray, List.set_cons_zero, List.set_cons_succ]
                  refine wpAnyH_take (i := 6) (oi := ?oid7) (v := ?vd7) ?hod7 (by kernel_rfl) ?hfd7 ?hrd7 ?hQd7 ?hyd7 hHeld ?restd7
                  case hod7 => (simp only [List.getElem?_toArray, List.getElem?_cons_succ, List.getElem?_cons_zero]; exact rfl)
                  case hfd7 => kernel_rfl
                  case hrd7 => kernel_rfl
                  case hQd7 => exact fun _ _ _ h => h
                  case hyd7 =>
                    refine Or.inl ⟨by rfl, ?_⟩
                    intro V hSV
                    go_simp
                    (try with_reducible rfl)
                  try simp only [Act.put, List.setIfInBounds_toArray, List.set_cons_zero, List.set_cons_succ]
                  refine wpAnyH_take (i := 7) (oi := ?oid8) (v := ?vd8) ?hod8 (by kernel_rfl) ?hfd8 ?hrd8 ?hQd8 ?hyd8 hHeld ?restd8
                  case hod8 => (simp only [List.getElem?_toArray, List.getElem?_cons_succ, List.getElem?_cons_zero]; exact rfl)
                  case hfd8 => kernel_rfl
                  case hrd8 => kernel_rfl
                  case hQd8 => exact fun _ _ _ h => h
                  case hyd8 =>
                    refine Or.inl ⟨by rfl, ?_⟩
                    intro V hSV
                    go_simp
                    (try with_reducible rfl)
                  try simp only [Act.put, List.setIfInBounds_toArray, List.set_cons_zero, List.set_cons_succ]
                  refine wpAnyH_take (i := 9) (oi := ?oid9) (v := ?vd9) ?hod9 (by kernel_rfl) ?hfd9 ?hrd9 ?hQd9 ?hyd9 hHeld ?restd9
                  case hod9 => (simp only [List.getElem?_toArray, List.getElem?_cons_succ, List.getElem?_cons_zero]; exact rfl)
                  case hfd9 => kernel_rfl
                  case hrd9 => kernel_rfl
                  case hQd9 => exact fun _ _ _ h => h
                  case hyd9 =>
                    refine Or.inl ⟨by rfl, ?_⟩
                    intro V hSV
                    go_simp
                    (try with_reducible rfl)
                  try simp only [Act.put, List.setIfInBounds_toArray, List.set_cons_zero, List.set_cons_succ]
                  refine wpAnyH_take (i := 10) (oi := ?oid10) (v := ?vd10) ?hod10 (by kernel_rfl) ?hfd10 ?hrd10 ?hQd10 ?hyd10 hHeld ?restd10
                  case hod10 => (simp only [List.getElem?_toArray, List.getElem?_cons_succ, List.getElem?_cons_zero]; exact rfl)
                  case hfd10 => kernel_rfl
                  case hrd10 => kernel_rfl
                  case hQd10 => exact fun _ _ _ h => h
                  case hyd10 =>
                    refine Or.inl ⟨by rfl, ?_⟩
                    intro V hSV
                    go_simp
                    (try with_reducible rfl)
                  try simp only [Act.put, List.setIfInBounds_toArray, List.set_cons_zero, List.set_cons_succ]
                  refine wpAnyH_take (i := 11) (oi := ?oid11) (v := ?vd11) ?hod11 (by kernel_rfl) ?hfd11 ?hrd11 ?hQd11 ?hyd11 hHeld ?restd11
                  case hod11 => (simp only [List.getElem?_toArray, List.getElem?_cons_succ, List.getElem?_cons_zero]; exact rfl)
                  case hfd11 => kernel_rfl
                  case hrd11 => kernel_rfl
                  case hQd11 => exact fun _ _ _ h => h
                  case hyd11 =>
                    refine Or.inl ⟨by rfl, ?_⟩
                    intro V hSV
                    go_simp
                    (try with_reducible rfl)
                  try simp only [Act.put, List.setIfInBounds_toArray, List.set_cons_zero, List.set_cons_succ]
                  refine wpAnyH_take (i := 12) (oi := ?oid12) (v := ?vd12) ?hod12 (by kernel_rfl) ?hfd12 ?hrd12 ?hQd12 ?hyd12 hHeld ?restd12
                  case hod12 => (simp only [List.getElem?_toArray, List.getElem?_cons_succ, List.getElem?_cons_zero]; exact rfl)
                  case hfd12 => kernel_rfl
                  case hrd12 => kernel_rfl
                  case hQd12 => exact fun _ _ _ h => h
                  case hyd12 =>
                    refine Or.inl ⟨by rfl, ?_⟩
                    intro V hSV
                    have qv := HCV.out V (HB3.out.trans (Below.mono hSV HB3.out.size))
                    go_simp
                    (try with_reducible rfl)
                  try simp only [Act.put, List.setIfInBounds_toArray, List.set_cons_zero, List.set_cons_succ]
                  refine wpAnyH_ready (rs := [8]) (by kernel_rfl) (by simp) ?_
                  refine AllReadyH.cons (o := ?od13) ?hod13 (fun K hK => ?kd13) ?md13
                  case hod13 => (simp only [List.getElem?_toArray, List.getElem?_cons_succ, List.getElem?_cons_zero]; exact rfl)
                  case kd13 =>
                    go_simp
                    refine (part_any A1 ll c1 L R (v : Int) _ ((HRPp.out.below (HB3.out.trans (Below.mono hHeld HB3.out.size))).more (Nat.le_trans HB3.out.size (Below.size hHeld))) HLL.out.symm (by omega) (fun p hp => by have := order_cls HO.out p hp; omega)).mono ?_
                    rintro e Vd13 ⟨rfl, hbd13⟩
                    rw [HPX.out]
                    (try dsimp only)
                    refine hK.out _ _ ?_ (fun hHeld => ?_)
                    · exact Below.trans hHeld (hbd13.mono (Below.size hHeld))
                    clear hK K
                    try simp only [Act.put, List.setIfInBounds_toArray, List.set_cons_zero, List.set_cons_succ]
                    refine wpAnyH_take (i := 13) (oi := ?oid14) (v := .bool false) ?hod14 (by kernel_rfl) ?hfd14 ?hrd14 ?hQd14 ?hyd14 hHeld ?restd14
                    case hod14 => (simp only [List.getElem?_toArray, List.getElem?_cons_succ, List.getElem?_cons_zero]; exact rfl)
                    case hfd14 => kernel_rfl
                    case hrd14 => kernel_rfl
                    case hQd14 => exact fun _ _ _ h => h
                    case hyd14 =>
                      refine Or.inl ⟨by rfl, ?_⟩
                      intro V hSV
                      go_simp
                      (try with_reducible rfl)
                    try simp only [Act.put, List.setIfInBounds_toArray, List.set_cons_zero, List.set_cons_succ]
                    refine wpAnyH_take (i := 14) (oi := ?oid15) (v := ?vd15) ?hod15 (by kernel_rfl) ?hfd15 ?hrd15 ?hQd15 ?hyd15 hHeld ?restd15
                    case hod15 => (simp only [List.getElem?_toArray, List.getElem?_cons_succ, List.getElem?_cons_zero]; exact rfl)
                    case hfd15 => kernel_rfl
                    case hrd15 => kernel_rfl
                    case hQd15 => exact fun _ _ _ h => h
                    case hyd15 =>
                      refine Or.inl ⟨by rfl, ?_⟩
                      intro V hSV
                      go_simp
                      (try with_reducible rfl)
                    try simp only [Act.put, List.setIfInBounds_toArray, List.set_cons_zero, List.set_cons_succ]
                    refine wpAnyH_done (by kernel_rfl) ?_ _
                    have hb3 := HB3.out.trans (Below.mono hHeld HB3.out.size)
                    have HB4 := Lib.hid hb3
                    clear hHeld hb3
                    repeat (first | go_skip | go_guarded | go_step)
                    refine (rComes_any k E A ne c v _ ((HREp.out.below HB4.out).more HB4.out.size) HE.out (by omega) (by omega) hltv).mono ?_
                    rintro e w5 ⟨g, rfl, hbk5, hg5, hb5⟩
                    have HBK5 := Lib.hid hbk5
                    have HB5 := Lib.hid (HB4.out.trans (hb5.mono HB4.out.size))
                    clear hbk5 hg5 hb5
                    dsimp only
                    repeat (first | go_skip | go_guarded | go_step)
                    go_loopw [15] (fun q wr => ∃ u : Nat, u ≤ v ∧ q = .int .i64 (u : Int) ∧ Below w5.heap.size w5 wr) (fun q _ => v - (intOf q).toNat)
                    case atStart => exact ⟨0, by omega, rfl, Below.refl _ _⟩
                    case round =>
                      rename World => w6
                      obtain ⟨u, hu, rfl, hbw⟩ := hrel
                      have HB6 := Lib.hid hbw
                      clear hbw
                      have HB56 := Lib.hid (HB5.out.trans (HB6.out.mono HB5.out.size))
                      by_cases hltu : u < v
                      · have hui : (u : Int) < (v : Int) := by omega
                        have huk : u < k := by omega
                        have huk2 : (u : Int) < (k : Int) := by omega
                        have hu0 : (0 : Int) ≤ (u : Int) := by omega
                        repeat (first | go_skip | go_guarded | go_step)
                        refine (rComes_any k E A ne c u w6 ((HREp.out.below HB56.out).more HB56.out.size) HE.out (by omega) (by omega) huk).mono ?_
                        rintro e w7 ⟨g2, rfl, hbk7, hg7, hb7⟩
                        have HB7 := Lib.hid hb7
                        have hB67 : Below w5.heap.size w5 w7 := HB6.out.trans (hb7.mono HB6.out.size)
                        have HB67 := Lib.hid hB67
                        have hBp7 : Below wp.heap.size wp w7 := HB5.out.trans (hB67.mono HB5.out.size)
                        obtain ⟨ou, hou⟩ : ∃ ou, ou = ofQ L u := ⟨_, rfl⟩
                        have hall : ∀ q, Below w7.heap.size w7 (w7.drewN q) := fun q => belowDrews (Below.refl _ _) q
                        have qv : ∀ q, (w7.drewN q).cell? ⟨gW, v, none⟩ = some (.int .i64 (ov : Int)) := fun q => HCV.out _ (belowDrews hBp7 q)
                        have qu : ∀ q, (w7.drewN q).cell? ⟨gW, u, none⟩ = some (.int .i64 (ou : Int)) := fun q => by
                          rw [hou]
                          exact ((belowDrews hBp7 q).cell (p := ⟨gW, u, none⟩) HWB.out.lt).trans ((HWB.out.cell u).trans (wI_at _ huk))
                        have qvu : ∀ q, (w7.drewN q).cell? ⟨g, u, none⟩ = some (.bool (comB E v u)) := fun q => ((belowDrews hB67 q).cell (p := ⟨g, u, none⟩) HBK5.out.lt).trans ((HBK5.out.cell u).trans (bC_at _ huk))
                        have quv : ∀ q, (w7.drewN q).cell? ⟨g2, v, none⟩ = some (.bool (comB E u v)) := fun q => ((hall q).cell (p := ⟨g2, v, none⟩) hbk7.lt).trans ((hbk7.cell v).trans (bC_at _ hltv))
                        have hiff : ou = ov ↔ Both E u v := by rw [hou, HOV.out]; exact HI.out.both_iff huk hltv
                        have HIFF := Lib.hid hiff
                        clear hbk7 hg7 hb7 hB67 hBp7 hou hall hiff
                        dsimp only
                        cases hvu : comB E v u with
                        | false =>
                          have hne2 : ((ou : Int) == (ov : Int)) = false := by
                            have : ¬ ou = ov := fun e => comB_false.1 hvu (HIFF.out.1 e).2
                            simp; omega
                          rw [hvu] at qvu
                          clear hvu
                          go_upto_region 38 with (fail)
                          go_quiet (fail)
                          repeat (first | go_skip | go_guarded | go_step)
                          have hb8 := belowDrews HB67.out nq
                          go_roundw
                          case rel => exact ⟨u + 1, by omega, by go_num, hb8⟩
                          case measure => simp [intOf]; omega
                        | true =>
                          cases huv : comB E u v with
                          | false =>
                            have hne2 : ((ou : Int) == (ov : Int)) = false := by
                              have : ¬ ou = ov := fun e => comB_false.1 huv (HIFF.out.1 e).1
                              simp; omega
                            rw [hvu] at qvu
                            rw [huv] at quv
                            clear hvu huv
                            go_upto_region 38 with (fail)
                            go_quiet (fail)
                            repeat (first | go_skip | go_guarded | go_step)
                            have hb8 := belowDrews HB67.out nq
                            go_roundw
                            case rel => exact ⟨u + 1, by omega, by go_num, hb8⟩
                            case measure => simp [intOf]; omega
                          | true =>
                            have hne2 : ((ou : Int) == (ov : Int)) = true := by
                              have : ou = ov := HIFF.out.2 ⟨comB_true.1 huv, comB_true.1 hvu⟩
                              simp; omega
                            rw [hvu] at qvu
                            rw [huv] at quv
                            clear hvu huv
                            go_upto_region 38 with (fail)
                            go_quiet (fail)
                            repeat (first | go_skip | go_guarded | go_step)
                            have hb8 := belowDrews HB67.out nq
                            go_roundw
                            case rel => exact ⟨u + 1, by omega, by go_num, hb8⟩
                            case measure => simp [intOf]; omega
                      · obtain rfl : v = u := by omega
                        have hui : ¬ (v : Int) < (v : Int) := by omega
                        repeat (first | go_skip | go_guarded | go_step)
                        go_roundw
                        case rel => exact ⟨v + 1, by omega, by go_num, HB56.out⟩
                        case measure => simp [intOf]; omega
                  exact AllReadyH.nil
                · obtain rfl : k = v := by omega
                  have hvi : ¬ (k : Int) < (k : Int) := by omega
                  have HB9 := Lib.hid (HBWP.out.trans (HB3.out.mono HBWP.out.size))
                  repeat (first | go_skip | go_guarded | go_step)
                  refine (works_any _).mono ?_
                  rintro e wz ⟨rfl, hbz⟩
                  have HBZ := Lib.hid (HB9.out.trans (hbz.mono HB9.out.size))
                  clear hbz
                  dsimp only
                  repeat (first | go_skip | go_guarded | go_step)
                  go_ret
                  exact ⟨rfl, HBZ.out⟩

theorem both (n : Int) (A : Option Addr) (ne c : Nat) (E0 : List (Int × Int)) (w : World) (hr : RdE w w.heap.size A ne E0) :
    Calls Try.prog 4 #[.int .i64 n, .slice A ne c] w fun e w' => e = .returned (.bool true) ∧ Below w.heap.size w w' := by
  cases hf : rightB n ne E0 with
  | false => exact walkNot n A ne c E0 w hr hf
  | true =>
    unfold rightB at hf
    simp only [Bool.and_eq_true, decide_eq_true_eq] at hf
    obtain ⟨⟨h0, h1, h2⟩, h3⟩ := hf
    obtain ⟨k, rfl⟩ : ∃ k : Nat, n = (k : Int) := ⟨n.toNat, by omega⟩
    obtain ⟨E, rfl, hE⟩ := okE_nat h3
    exact walk k E A ne c w hr hE (by omega) h2

set_option maxRecDepth 100000 in
theorem lifted (os : Os) (started : os.Started) (H : Type) (enc : TypeId × Value → H) :
    ReturnsInHanded {} Try.checked os 4 .any (Rows.graphOrderSpec.pre6 enc Try.prog Try.f4 Rows.graphOrderRow.domain false) (Rows.graphOrderSpec.post enc Try.prog Try.f4 false true false false) := by
  refine returnsInHanded_of_change_sized (C := Try.checked) ownK started (by kernel_rfl) Try.func4
    (ChangeSpec.witness6 (enc := enc) (C := Try.checked) false ⟨#[], #[.int .i64 0, .slice none 0 0], []⟩ 8 (by kernel_rfl) (by kernel_rfl) (by kernel_rfl) (by kernel_rfl)) ?_
  intro W base args ds gs before hval0 hW hcnd hsz0 _
  have hval : ∀ (j : Nat) t v, Try.f4.params[j]? = some t → args[j]? = some v → Value.okWide Try.prog W .any base t v := hval0
  have hlt : ∀ x ∈ before, x.block < W.heap.size := fun x hx => by simpa using hW.lt x hx
  have hW' := hW
  obtain ⟨p, q, hA0, hV, rfl, hfz, hnd⟩ := hW
  have hA : DataW.TrodAll enc Try.prog W 0 (fun _ => true) true Try.f4.params.toList args.toList ds p := hA0
  rw [Try.params4] at hA hval
  obtain ⟨v0, vs0, d0, ds0, p0, q0, hargs, rfl, rfl, h0, r0⟩ := trodAll_cons hA
  obtain ⟨v1, vs1, d1, ds1, p1, q1, rfl, rfl, rfl, h1, r1⟩ := trodAll_cons r0
  obtain ⟨rfl, rfl, rfl⟩ := trodAll_nil r1
  obtain rfl : args = #[v0, v1] := by cases args; simp_all
  obtain ⟨rfl, rfl⟩ := trodVars_none hV
  obtain ⟨A1, n1, c1, E0, rfl, hk1, hm1, hr1⟩ := open_edges (hval 1 22 v1 rfl rfl) h1 (fun x hx => hlt x (by simp [hx]))
  obtain ⟨n, rfl, rfl, rfl, _⟩ := open_int Try.underlying3 (hval 0 3 v0 rfl rfl) h0
  refine (both n A1 n1 c1 E0 W hr1).mono fun e W' ⟨he, hg⟩ => ?_
  subst he
  exact ⟨_, rfl, post_law laidOut rfl (by kernel_rfl) hW' hg rfl Try.underlying4 rfl rfl rfl⟩

theorem proved : Rows.GraphOrderSaid :=
  OpenClaim.holds_of_wide 4 Try.f4 rfl rfl rfl rfl rfl rfl rfl ⟨rfl, rfl, rfl, rfl, rfl⟩ rfl rfl rfl rfl rfl (by kernel_rfl) Try.func4 (by kernel_rfl)
    (of_decide_eq_true (by kernel_rfl)) (by unfold Func.isWrapper; first | (rw [if_pos (by decide +kernel)]; kernel_rfl) | (rw [if_neg (by decide +kernel)]; exact ⟨rfl, rfl⟩))
    (fun os started H enc _ => lifted os started H enc)
#print axioms proved
end Go.Proofs.Ytbfagejdpbagjaa.graphOrder
