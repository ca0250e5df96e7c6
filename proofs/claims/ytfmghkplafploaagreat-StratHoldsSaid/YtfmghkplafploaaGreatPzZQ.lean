/- Texts, packed: StO -/
import Derived.Test.YtfmghkplafploaaGreatPzZP
import Derived.Test.YtfmghkplafploaaGreatRows
set_option linter.unusedVariables false
set_option linter.unusedSimpArgs false
namespace Go.Proofs.YtfmghkplafploaaGreat.stratHolds
open Go Go.RowKit Go.ChangeShapes Go.WideShapes Go.ChangeAt

/-- What has been counted. -/
def cntC (n : Nat) (σ : Nat → Nat) : List Value := (List.range n).map fun a => nj (σ a)
theorem cntC_at {n a : Nat} {σ : Nat → Nat} (h : a < n) : (cntC n σ)[a]? = some (nj (σ a)) := by
  unfold cntC
  rw [List.getElem?_map, List.getElem?_range h]
  rfl
theorem cntC_set {n a : Nat} {σ : Nat → Nat} (v : Nat) : (cntC n σ).set a (nj v) = cntC n (fun b => if b = a then v else σ b) := by
  have hl : ∀ σ : Nat → Nat, (cntC n σ).length = n := fun σ => by unfold cntC; simp
  refine List.ext_getElem? fun i => ?_
  rw [List.getElem?_set]
  rcases Nat.lt_or_ge i n with hi | hi
  · rw [cntC_at hi, cntC_at hi, hl]
    by_cases h : a = i
    · subst h
      rw [if_pos rfl, if_pos hi, if_pos rfl]
    · rw [if_neg h, if_neg (fun e => h e.symm)]
  · rw [List.getElem?_eq_none (l := cntC n σ) (by rw [hl]; exact hi), List.getElem?_eq_none (l := cntC n _) (by rw [hl]; exact hi), hl]
    by_cases h : a = i
    · rw [if_pos h, if_neg (by omega)]
    · rw [if_neg h]
theorem cntC_zero (n : Nat) : cntC n (fun _ => 0) = List.replicate n (.int .i64 0) := by
  unfold cntC
  rw [List.map_const', List.length_range]
  try rfl
theorem rowM_nodup (l : List Nat) (k : Nat) : (rowM l k).Nodup := List.nodup_range.filter _
theorem strM_at {l : List Nat} {i : Nat} {s : List Nat} (h : (strM l)[i]? = some s) : i < topM l ∧ s = rowM l i := by
  unfold strM at h
  rw [List.getElem?_map] at h
  rcases Nat.lt_or_ge i (topM l) with hi | hi
  · rw [List.getElem?_range hi] at h
    cases h
    exact ⟨hi, rfl⟩
  · rw [List.getElem?_eq_none (by rw [List.length_range]; exact hi)] at h
    cases h
theorem done_new {l : List Nat} {i k v : Nat} {s : List Nat} (hs : (strM l)[i]? = some s) (hv : s[k]? = some v) : v ∉ ((strM l).take i).flatten ++ s.take k := by
  obtain ⟨hi, rfl⟩ := strM_at hs
  have hvi := rowM_mem.1 (List.mem_of_getElem? hv)
  intro hm
  rcases List.mem_append.1 hm with hm | hm
  · obtain ⟨t, ht, hvt⟩ := List.mem_flatten.1 hm
    obtain ⟨j, hj⟩ := List.mem_iff_getElem?.1 ht
    rw [List.getElem?_take] at hj
    split at hj
    · rename_i hji
      obtain ⟨_, rfl⟩ := strM_at hj
      have := rowM_mem.1 hvt
      rw [hvi] at this
      cases this
      omega
    · cases hj
  · obtain ⟨j, hj⟩ := List.mem_iff_getElem?.1 hm
    rw [List.getElem?_take] at hj
    split at hj
    · rename_i hjk
      obtain ⟨q1, q2⟩ := List.getElem?_eq_some_iff.1 hj
      obtain ⟨q3, q4⟩ := List.getElem?_eq_some_iff.1 hv
      exact List.pairwise_iff_getElem.1 (rowM_nodup l i) j k q1 q3 hjk (by rw [q2, q4])
    · cases hj
theorem done_all {l : List Nat} {v : Nat} (hv : v < l.length) : v ∈ (strM l).flatten := by
  have h1 : l[v]? = some l[v] := List.getElem?_eq_getElem hv
  refine List.mem_flatten.2 ⟨rowM l l[v], ?_, rowM_mem.2 h1⟩
  exact List.mem_map.2 ⟨l[v], List.mem_range.2 (topM_lt l (List.getElem_mem hv)), rfl⟩
/-- .. with just so many done. -/
def Cnt (n : Nat) (σ : Nat → Nat) (D : List Nat) : Prop := ∀ x, x < n → σ x = if x ∈ D then 1 else 0
theorem Cnt.step {n : Nat} {σ : Nat → Nat} {D : List Nat} (h : Cnt n σ D) {v : Nat} (hv : v < n) (hn : v ∉ D) : Cnt n (fun b => if b = v then σ v + 1 else σ b) (D ++ [v]) := fun x hx => by
  have h1 := h x hx
  have h2 := h v hv
  rw [if_neg hn] at h2
  dsimp only
  by_cases e : x = v
  · subst e
    rw [if_pos rfl, h2, if_pos (by simp)]
  · rw [if_neg e, h1]
    by_cases hx' : x ∈ D
    · rw [if_pos hx', if_pos (by simp [hx'])]
    · rw [if_neg hx', if_neg (by simp [hx', e])]
theorem less_edges {C : List Cl} {k : Nat} {e : Ed} (h : e ∈ edL (lessC C k)) : e ∈ edL C := by
  obtain ⟨x, hx, he⟩ := List.mem_flatMap.1 h
  exact List.mem_flatMap.2 ⟨x, (less_sub C k).subset hx, he⟩
theorem less_preds {C : List Cl} {k : Nat} {p : UInt32} (h : p ∈ prL (lessC C k)) : p ∈ prL C := by
  obtain ⟨x, hx, he⟩ := List.mem_flatMap.1 h
  exact List.mem_flatMap.2 ⟨x, (less_sub C k).subset hx, he⟩
theorem few_one (A : Option Addr) (n c : Nat) (Q : List ClA) (C : List Cl) (w : World) (h : RdCs w w.heap.size A n Q C) :
    Calls Tryz.prog 6 #[.slice A n c, .slice none 0 0] w fun e w' => e = .returned (.bool (fewB n 0 C [])) ∧ w' = w :=
  few_any A n c Q C none 0 0 [] w h Rd.nil rfl
set_option maxRecDepth 100000 in
set_option maxHeartbeats 2000000 in
theorem walkFew (wk : TWorksOk) (A : Option Addr) (n c : Nat) (Q : List ClA) (C : List Cl) (a : Nat) (w : World) (h : RdCs w w.heap.size A n Q C) (hf : fewB n 0 C [] = false ∨ 20 < n) :
    Calls Tryz.prog 5 #[.slice A n c, .int .u8 (a : Int)] w fun e w' => e = .returned (.bool true) ∧ Below w.heap.size w w' := by
  have f1 := few_one A n c Q C w h
  have WK := Lib.hid wk
  clear h wk
  cases hb1 : fewB n 0 C [] with
  | false =>
    rw [hb1] at f1
    clear hb1 hf
    go_enter Tryz.func5, Tryz.ntmps5
    repeat (first | go_skip | go_guarded | go_step)
    refine f1.mono ?_
    rintro e w1 ⟨rfl, rfl⟩
    clear f1
    dsimp only
    repeat (first | go_skip | go_guarded | go_step)
    refine (WK.out _).mono ?_
    rintro e wz ⟨rfl, hbz⟩
    have HBZ := Lib.hid (hbz)
    clear hbz
    dsimp only
    repeat (first | go_skip | go_guarded | go_step)
    go_ret
    exact ⟨rfl, HBZ.out⟩
  | true =>
    rw [hb1] at f1 hf
    have hlt : (20 : Int) < (n : Int) := by
      rcases hf with hf | hf
      · cases hf
      · omega
    clear hb1 hf
    go_enter Tryz.func5, Tryz.ntmps5
    repeat (first | go_skip | go_guarded | go_step)
    refine f1.mono ?_
    rintro e w1 ⟨rfl, rfl⟩
    clear f1
    dsimp only
    repeat (first | go_skip | go_guarded | go_step)
    refine (WK.out _).mono ?_
    rintro e wz ⟨rfl, hbz⟩
    have HBZ := Lib.hid (hbz)
    clear hbz
    dsimp only
    repeat (first | go_skip | go_guarded | go_step)
    go_ret
    exact ⟨rfl, HBZ.out⟩
set_option maxRecDepth 100000 in
set_option maxHeartbeats 4000000 in
theorem walkBad (ok : StratOk) (wk : TWorksOk) (A : Option Addr) (n c : Nat) (Q : List ClA) (C : List Cl) (a : Nat) (w : World) (h : RdCs w w.heap.size A n Q C) (hnc : n ≤ c) (hb1 : fewB n 0 C [] = true) (hS : Slim C) (hn : n ≤ 20) (L : List Lv) (er : Nat) (ht : LevTold C er L) (he : er ≠ 0) :
    Calls Tryz.prog 5 #[.slice A n c, .int .u8 (a : Int)] w fun e w' => e = .returned (.bool true) ∧ Below w.heap.size w w' := by
  have f1 := few_one A n c Q C w h
  rw [hb1] at f1
  have HC := Lib.hid h
  have HS := Lib.hid hS
  have OK := Lib.hid ok
  have WK := Lib.hid wk
  have HTT := Lib.hid ht
  have hgt : ¬ (20 : Int) < (n : Int) := by omega
  have hne0 : ((er : Int) != 0) = true := by simp; omega
  have hne : ((er : Int) != (er : Int)) = false := by simp
  clear h hb1 hS ok wk ht he
  go_enter Tryz.func5, Tryz.ntmps5
  repeat (first | go_skip | go_guarded | go_step)
  refine f1.mono ?_
  rintro e w1 ⟨rfl, rfl⟩
  clear f1
  dsimp only
  repeat (first | go_skip | go_guarded | go_step)
  refine (OK.out.levels A n c Q C w1 HC.out hnc HS.out (by omega)).mono ?_
  rintro e w2 ⟨er2, A2, c2, L2, rfl, ht2, hr2, hb2⟩
  obtain ⟨rfl, rfl⟩ := HTT.out.unique ht2
  have HB2 := Lib.hid hb2
  clear ht2 hr2 hb2
  dsimp only
  repeat (first | go_skip | go_guarded | go_step)
  refine (OK.out.strata A n c Q C w2 ((HC.out.below HB2.out).more HB2.out.size) hnc HS.out (by omega)).mono ?_
  rintro e w3 ⟨es, A3, c3, S, R3, rfl, ht3, hr3, hb3⟩
  obtain ⟨rfl, -⟩ := told_both HTT.out ht3
  have HB3 := Lib.hid (HB2.out.trans (hb3.mono HB2.out.size))
  clear ht3 hr3 hb3
  dsimp only
  repeat (first | go_skip | go_guarded | go_step)
  refine (WK.out _).mono ?_
  rintro e wz ⟨rfl, hbz⟩
  have HBZ := Lib.hid (HB3.out.trans (hbz.mono HB3.out.size))
  clear hbz
  dsimp only
  repeat (first | go_skip | go_guarded | go_step)
  go_ret
  exact ⟨rfl, HBZ.out⟩
set_option maxRecDepth 100000 in
set_option maxHeartbeats 16000000 in
theorem walkGood (ok : StratOk) (wk : TWorksOk) (A : Option Addr) (n c : Nat) (Q : List ClA) (C : List Cl) (a : Nat) (w : World) (h : RdCs w w.heap.size A n Q C) (hnc : n ≤ c) (hb1 : fewB n 0 C [] = true) (hS : Slim C) (hn : n ≤ 20) (ha : a ≤ 255) (f : UInt32 → Nat) (h0 : (rightM C).2 = 0) (hls : Least (edL C) f) :
    Calls Tryz.prog 5 #[.slice A n c, .int .u8 (a : Int)] w fun e w' => e = .returned (.bool true) ∧ Below w.heap.size w w' := by
  have f1 := few_one A n c Q C w h
  rw [hb1] at f1
  have hlenC := h.lenC
  obtain ⟨Z, hZ⟩ : ∃ Z, Z = C.zip Q := ⟨_, rfl⟩
  have hfst : Z.map (·.1) = C := by rw [hZ]; exact zip_fst h
  have htop : Rd w w.heap.size 3 A n (Z.flatMap clC) := by rw [hZ]; exact h.top
  have hrow : RowZ w w.heap.size Z := by rw [hZ]; exact h.rowZ
  have HFST := Lib.hid hfst
  have HTOP := Lib.hid htop
  have HROWZ := Lib.hid hrow
  have HLC := Lib.hid hlenC
  have HC := Lib.hid h
  have HS := Lib.hid hS
  have OK := Lib.hid ok
  have WK := Lib.hid wk
  have HLST := Lib.hid hls
  have H0 := Lib.hid h0
  have HPB := Lib.hid (pr_bound hS (by rw [hlenC]; omega))
  have hgt : ¬ (20 : Int) < (n : Int) := by omega
  have hz0 : ((((0 : Nat)) : Int) != 0) = false := by simp
  obtain ⟨i0, hi0, hy0, hy1, hy2⟩ := info_parts intInfoT
  have hb4 : i0.bytes * n ≤ 281474976710656 := by rw [hy2]; omega
  have hmx : n ≤ maxLen := by simp only [maxLen]; omega
  clear h hb1 hS ok wk hls h0 hlenC hZ hfst htop hrow
  go_enter Tryz.func5, Tryz.ntmps5
  repeat (first | go_skip | go_guarded | go_step)
  refine f1.mono ?_
  rintro e w1 ⟨rfl, rfl⟩
  clear f1
  dsimp only
  repeat (first | go_skip | go_guarded | go_step)
  refine (OK.out.levels A n c Q C w1 HC.out hnc HS.out (by omega)).mono ?_
  rintro e w2 ⟨er, A2, c2, Lv_, rfl, ht2, hr2, hb2⟩
  have hcase : ∀ e, LevTold C e Lv_ → e = 0 ∧ (∀ p, p ∈ Lv_.map (·.1) ↔ p ∈ prL C) ∧ ∀ x ∈ Lv_, x.2 = f x.1 := fun e h => by
    cases h with
    | wrong q => exact absurd H0.out q
    | none _ q => exact absurd ⟨f, HLST.out.valid⟩ q
    | some a b c d e => rw [HLST.out.unique b]; exact ⟨rfl, d, e⟩
  obtain ⟨rfl, hmem, hval⟩ := hcase er ht2
  have hof : ∀ p ∈ prL C, ofM Lv_ p = (f p : Int) := fun p hp => by
    have h1 := (hmem p).2 hp
    have h2 := hval _ (lvN_mem h1)
    dsimp only at h2
    rw [ofM_in h1, h2]
  have hlm := ht2.len
  obtain ⟨m, hm⟩ : ∃ m, m = Lv_.length := ⟨_, rfl⟩
  have HOF := Lib.hid hof
  have HR2 := Lib.hid hr2
  have HB2 := Lib.hid hb2
  have HT2 := Lib.hid ht2
  have HMEM := Lib.hid hmem
  rw [← hm] at HR2 hlm ⊢
  have hmb : m ≤ 500000000000 := by have := HPB.out; omega
  have HMM := Lib.hid hm
  clear ht2 hr2 hb2 hcase hmem hval hof hlm hm
  dsimp only
  repeat (first | go_skip | go_guarded | go_step)
  refine (OK.out.strata A n c Q C w2 ((HC.out.below HB2.out).more HB2.out.size) hnc HS.out (by omega)).mono ?_
  rintro e w3 ⟨es, A3, c3, S, R3, rfl, ht3, hr3, hb3⟩
  obtain ⟨rfl, -⟩ := told_both HT2.out ht3
  have hcase : ∀ e, StrTold C e S → e = 0 → S = strM (headsM f C) := fun e h he => by
    cases h with
    | bad _ q => exact absurd he q
    | good a b => rw [HLST.out.unique b]
  have hSS := hcase 0 ht3 rfl
  have hlens := ht3.lens
  have HR3 := Lib.hid hr3
  have HB3 := Lib.hid (HB2.out.trans (hb3.mono HB2.out.size))
  have HR2 := Lib.hid (Rd.more (Rd.below HR2.out hb3) hb3.size)
  obtain ⟨T, hT⟩ : ∃ T, T = S.length := ⟨_, rfl⟩
  rw [← hT] at HR3 hlens ⊢
  have hTb : T ≤ 500000000000 := by have := HPB.out; omega
  have HSS := Lib.hid hSS
  have HTT := Lib.hid hT
  have HSL := Lib.hid hlens.2
  clear ht3 hr3 hb3 hcase hSS hlens hT
  dsimp only
  repeat (first
    | (at_make; refine wpList_make_bk _ rfl (.tmp 47) (.tmp 47) 35 rfl 3 i0 _ Tryz.underlying35 hi0 hy0 hy1 rfl .i64 .i64 (n : Int) (n : Int) n n rfl rfl rfl rfl (Nat.le_refl _) hb4 hmx ?_
       intro W1 hbk1 hbw1 hs1
       obtain ⟨g, hg⟩ : ∃ g, g = w3.heap.size := ⟨_, rfl⟩
       rw [← hg] at hbk1 ⊢
       rw [← cntC_zero] at hbk1
       have HBK := Lib.hid hbk1
       have HG := Lib.hid hg
       have HBW1 := Lib.hid (show Below g w3 W1 by rw [hg]; exact hbw1)
       have hgs : g < W1.heap.size := hbk1.lt
       clear hbk1 hbw1 hs1 hg)
    | go_skip | go_guarded | go_step)
  go_loopw [10] (fun q wr => ∃ (i : Nat) (σ : Nat → Nat), i ≤ T ∧ q = .int .i64 (i : Int) ∧ Bk wr g 3 (cntC n σ) ∧ Cnt n σ ((S.take i).flatten) ∧ Below g w3 wr) (fun q _ => T - (intOf q).toNat)
  case atStart => exact ⟨0, _, by omega, rfl, HBK.out, (fun x hx => by simp), HBW1.out⟩
  case round =>
    rename World => wr
    obtain ⟨i, σ, hi, rfl, hbk, hcnt, hbr⟩ := hrel
    have HBK := Lib.hid hbk
    have HCNT := Lib.hid hcnt
    have HBR := Lib.hid hbr
    clear hbk hcnt hbr
    by_cases hlt : i < T
    · have hii : (i : Int) < (T : Int) := by omega
      obtain ⟨b6, o6, A6, k6, c6, s, hA6, hb6, hs6, hk6, hc6, hr6⟩ := HR3.out.at_ hlt
      have hkn : k6 ≤ n := by
        have := HSL.out s (List.mem_of_getElem? hs6)
        rw [HLC.out] at this
        omega
      have hb6g : b6 < g := by rw [HG.out]; exact hb6
      have HD := Lib.hid (show ∀ V, Below g w3 V → V.cell? ⟨b6, o6 + i, none⟩ = some (.slice A6 k6 c6) from fun V hV => (hV.cell (p := ⟨b6, o6 + i, none⟩) hb6g).trans hc6)
      have HS6 := Lib.hid hs6
      have HK6 := Lib.hid hk6
      have HR6 := Lib.hid hr6
      subst hA6
      clear hs6 hk6 hc6 hr6 hb6
      repeat (first | go_skip | go_guarded | go_step)
      go_loopw [11] (fun q w4 => ∃ (k : Nat) (σ : Nat → Nat), k ≤ k6 ∧ q = .int .i64 (k : Int) ∧ Bk w4 g 3 (cntC n σ) ∧ Cnt n σ ((S.take i).flatten ++ s.take k) ∧ Below g w3 w4) (fun q _ => k6 - (intOf q).toNat)
      case atStart => exact ⟨0, σ, by omega, rfl, HBK.out, by rw [List.take_zero, List.append_nil]; exact HCNT.out, HBR.out⟩
      case round =>
        clear HBK HCNT HBR
        rename World => w4
        obtain ⟨k, σ, hk, rfl, hbk, hcnt, hbr⟩ := hrel
        have HBK := Lib.hid hbk
        have HCNT := Lib.hid hcnt
        have HBR := Lib.hid hbr
        have z0 := HD.out w4 hbr
        clear hbk hcnt hbr
        by_cases hltk : k < k6
        · have hki : (k : Int) < (k6 : Int) := by omega
          obtain ⟨b8, o8, v8, hA8, hb8, hv8, hc8⟩ := HR6.out.at1 hltk
          obtain ⟨v, hv⟩ : ∃ v, s[k]? = some v := ⟨_, List.getElem?_eq_getElem (by rw [HK6.out]; exact hltk)⟩
          rw [List.getElem?_map, hv] at hv8
          cases hv8
          have hst : (strM (headsM f C))[i]? = some s := by rw [← HSS.out]; exact HS6.out
          obtain ⟨_, hsr⟩ := strM_at hst
          have hHv : (headsM f C)[v]? = some i := rowM_mem.1 (by rw [← hsr]; exact List.mem_of_getElem? hv)
          have hvn : v < n := by
            have := (List.getElem?_eq_some_iff.1 hHv).1
            unfold headsM at this
            rw [List.length_map, HLC.out] at this
            exact this
          have hnew := done_new hst hv
          rw [← HSS.out] at hnew
          have q8 := (HBR.out.cell (p := ⟨b8, o8 + k, none⟩) (by rw [HG.out]; exact hb8)).trans hc8
          have HBW4 := Lib.hid (HB3.out.trans (HBR.out.mono (by rw [HG.out]; exact HB3.out.size)))
          obtain ⟨b, o, p, l, Lb, A0, n0, c0, A1, n1, c1, Rr, hA, hb, hx, hq, hd0, hd1, hd2, hrt, hrl⟩ := (HC.out.below HBW4.out).at_ hvn
          have hfp : f p = i := by
            unfold headsM at hHv
            rw [List.getElem?_map, hx] at hHv
            simpa using hHv
          have hcall := lof_any A2 m c2 Lv_ p w4 (Rd.more (Rd.below HR2.out (by have := HBR.out; rwa [HG.out] at this)) (by have := HBR.out.size; exact this)) (by omega)
          rw [HOF.out p (List.mem_flatMap.2 ⟨_, List.mem_of_getElem? hx, by unfold prC; simp⟩), hfp] at hcall
          have HNEW := Lib.hid hnew
          have HTK := Lib.hid (show s.take (k + 1) = s.take k ++ [v] by rw [List.take_add_one, hv]; rfl)
          have y1 : ¬ (v : Int) < 0 := by omega
          have y2 : ¬ (n : Int) ≤ (v : Int) := by omega
          have y3 : ((i : Int) != (i : Int)) = false := by simp
          have y4 : (v : Int) < (n : Int) := by omega
          have y5 : (0 : Int) ≤ (v : Int) := by omega
          have hc9 := (HBK.out.cell v).trans (cntC_at hvn)
          have hf9 := HBK.out.frozen v
          have hsv : σ v = 0 := by rw [HCNT.out v hvn, if_neg hnew]
          rw [hsv] at hc9
          have hbk2 := HBK.out.set_ v (nj 1)
          rw [cntC_set] at hbk2
          have HBK2 := Lib.hid hbk2
          have HCNT2 := Lib.hid (HCNT.out.step hvn hnew)
          have HSV := Lib.hid hsv
          subst hA8 hA
          clear hv hc8 hb8 hst hsr hHv hnew hx hq hrt hrl hb hd1 hd2 hfp hsv hbk2
          repeat (first | go_skip | go_guarded | go_step)
          refine hcall.mono ?_
          rintro e w5 ⟨rfl, rfl⟩
          clear hcall
          dsimp only
          repeat (first | go_skip | go_guarded | go_step)
          go_roundw
          case rel => exact ⟨k + 1, _, by omega, by go_num, HBK2.out, by
            rw [HTK.out, ← List.append_assoc]
            have h := HCNT2.out
            rw [HSV.out] at h
            exact h, HBR.out.setCell (p := ⟨g, v, none⟩) (Nat.le_refl _) _⟩
          case measure => simp [intOf]; omega
        · obtain rfl : k6 = k := by omega
          have hki : ¬ (k6 : Int) < (k6 : Int) := by omega
          repeat (first | go_skip | go_guarded | go_step)
          go_roundw
          case rel => exact ⟨i + 1, σ, by omega, by go_num, HBK.out, by
            rw [List.take_add_one, HS6.out, List.flatten_append]
            have h := HCNT.out
            rw [List.take_of_length_le (l := s) (by rw [HK6.out]; exact Nat.le_refl _)] at h
            simpa using h, HBR.out⟩
          case measure => simp [intOf]; omega
    · obtain rfl : T = i := by omega
      have hii : ¬ (T : Int) < (T : Int) := by omega
      have HONE := Lib.hid (show ∀ x, x < n → σ x = 1 from fun x hx => by
        rw [HCNT.out x hx, if_pos]
        rw [List.take_of_length_le (by rw [HTT.out]; exact Nat.le_refl _), HSS.out]
        exact done_all (by unfold headsM; rw [List.length_map, HLC.out]; exact hx))
      have HBW4 := Lib.hid (HB3.out.trans (HBR.out.mono (by rw [HG.out]; exact HB3.out.size)))
      have HR4 := Lib.hid (show RdV wr wr.heap.size A2 m Lv_ from Rd.more (Rd.below HR2.out (by have := HBR.out; rwa [HG.out] at this)) (by have := HBR.out.size; exact this))
      repeat (first | go_skip | go_guarded | go_step)
      go_loopw [13] (fun q w5 => ∃ i : Nat, i ≤ n ∧ q = .int .i64 (i : Int) ∧ w5 = wr) (fun q _ => n - (intOf q).toNat)
      case atStart => exact ⟨0, by omega, rfl, rfl⟩
      case round =>
        rename World => w5
        obtain ⟨j, hj, rfl, rfl⟩ := hrel
        by_cases hltj : j < n
        · have hji : (j : Int) < (n : Int) := by omega
          obtain ⟨b, o, p, l, Lb, A0, n0, c0, A1, n1, c1, Rr, hA, hb, hx, hq, hd0, hd1, hd2, hrt, hrl⟩ := (HC.out.below HBW4.out).at_ hltj
          have hn1 : n1 ≤ 1000000 := by have := (HS.out _ (List.mem_of_getElem? hx)).2.1; have := hrl.lenL; dsimp only at *; omega
          obtain ⟨hv, hhv⟩ : ∃ hv : Nat, hv = f p := ⟨_, rfl⟩
          have hcall := lof_any A2 m c2 Lv_ p w5 HR4.out (by omega)
          rw [HOF.out p (List.mem_flatMap.2 ⟨_, List.mem_of_getElem? hx, by unfold prC; simp⟩), ← hhv] at hcall
          have hc9 := (HBK.out.cell j).trans (cntC_at hltj)
          rw [HONE.out j hltj] at hc9
          have hz1 : ¬ (hv : Int) < 0 := by omega
          have HX := Lib.hid hx
          have HRL := Lib.hid hrl
          have HHV := Lib.hid hhv
          subst hA
          clear hx hq hrt hrl hb hd1 hhv
          repeat (first | go_skip | go_guarded | go_step)
          refine hcall.mono ?_
          rintro e w6 ⟨rfl, rfl⟩
          clear hcall hd0
          dsimp only
          repeat (first | go_skip | go_guarded | go_step)
          go_loopw [15] (fun q w7 => ∃ k : Nat, k ≤ n1 ∧ q = .int .i64 (k : Int) ∧ w7 = w6) (fun q _ => n1 - (intOf q).toNat)
          case atStart => exact ⟨0, by omega, rfl, rfl⟩
          case round =>
            rename World => w7
            obtain ⟨k, hk, rfl, rfl⟩ := hrel
            by_cases hltk : k < n1
            · have hki : (k : Int) < (n1 : Int) := by omega
              obtain ⟨b3, o3, g3, p3, l3, Ai, ni_, ci, hA1, hb3, hx3, hr3, he0, he1, he2, hrow3⟩ := HRL.out.at2 hltk
              have hE : (p, p3, g3) ∈ edL C := edL_mem HX.out hx3
              obtain ⟨bv, hbv⟩ : ∃ bv : Nat, bv = f p3 := ⟨_, rfl⟩
              have hcall := lof_any A2 m c2 Lv_ p3 w7 HR4.out (by omega)
              rw [HOF.out p3 (edge_body hE), ← hbv] at hcall
              have hle := HLST.out.valid _ hE
              dsimp only at hle
              rw [← hbv, ← HHV.out] at hle
              have hz2 : ¬ (bv : Int) < 0 := by omega
              subst hA1
              clear hx3 hr3 he2 hrow3 hb3 hbv hE
              cases g3 with
              | false =>
                have hz3 : ¬ (hv : Int) < (bv : Int) := by simp only [dl] at hle; omega
                clear hle
                repeat (first | go_skip | go_guarded | go_step)
                refine hcall.mono ?_
                rintro e w8 ⟨rfl, rfl⟩
                clear hcall
                dsimp only
                repeat (first | go_skip | go_guarded | go_step)
                go_roundw
                case rel => exact ⟨k + 1, by omega, by go_num, (by first | rfl | trivial)⟩
                case measure => simp [intOf]; omega
              | true =>
                have hz3 : ¬ (hv : Int) < (bv : Int) := by simp only [dl, if_true] at hle; omega
                have hz4 : ((hv : Int) == (bv : Int)) = false := by simp only [dl, if_true] at hle; simp; omega
                clear hle
                repeat (first | go_skip | go_guarded | go_step)
                refine hcall.mono ?_
                rintro e w8 ⟨rfl, rfl⟩
                clear hcall
                dsimp only
                repeat (first | go_skip | go_guarded | go_step)
                go_roundw
                case rel => exact ⟨k + 1, by omega, by go_num, (by first | rfl | trivial)⟩
                case measure => simp [intOf]; omega
            · obtain rfl : n1 = k := by omega
              have hki : ¬ (n1 : Int) < (n1 : Int) := by omega
              repeat (first | go_skip | go_guarded | go_step)
              go_roundw
              case rel => exact ⟨j + 1, by omega, by go_num, (by first | rfl | trivial)⟩
              case measure => simp [intOf]; omega
        · obtain rfl : n = j := by omega
          have hji : ¬ (n : Int) < (n : Int) := by omega
          rcases Nat.eq_zero_or_pos n with hn0 | hn0
          · have hzn : ((n : Int) == 0) = true := by simp; omega
            have hm0 : m = 0 := by
              have h1 := HT2.out.len
              have hc0 : C = [] := List.eq_nil_of_length_eq_zero (by rw [HLC.out]; exact hn0)
              rw [← HMM.out, hc0] at h1
              simp [prL] at h1
              omega
            have hzm : ((m : Int) == 0) = true := by simp; omega
            clear hn0 hm0
            repeat (first | go_skip | go_guarded | go_step)
            refine (WK.out _).mono ?_
            rintro e wz ⟨rfl, hbz⟩
            have HBZ := Lib.hid (HBW4.out.trans (hbz.mono HBW4.out.size))
            clear hbz
            dsimp only
            repeat (first | go_skip | go_guarded | go_step)
            go_ret
            exact ⟨rfl, HBZ.out⟩
          · have hzn : ((n : Int) == 0) = false := by simp; omega
            obtain ⟨k, hk⟩ : ∃ k : Nat, k = a % n := ⟨_, rfl⟩
            have hkn : k < n := by rw [hk]; exact Nat.mod_lt _ hn0
            have htk : Int.tmod (a : Int) (n : Int) = (k : Int) := by rw [Int.tmod_eq_emod_of_nonneg (by omega), hk]; simp
            have hwa : IntKind.i64.wrap (a : Int) = (a : Int) := by rw [IntKind.wrap_i64]; omega
            have hwk : IntKind.i64.wrap (k : Int) = (k : Int) := by rw [IntKind.wrap_i64]; omega
            have hwk1 : IntKind.i64.wrap ((k : Int) + 1) = (k : Int) + 1 := by rw [IntKind.wrap_i64]; omega
            have hnz2 : ¬ (n : Int) = 0 := by omega
            have hk0 : (0 : Int) ≤ (k : Int) := by omega
            have hkc : (k : Int) ≤ (c : Int) := by omega
            have hk10 : (0 : Int) ≤ (k : Int) + 1 := by omega
            have hk1n : (k : Int) + 1 ≤ (n : Int) := by omega
            have HTA := Lib.hid (fun (V : World) (hV : Below w5.heap.size w5 V) => Rd.below (rdZ_take HTOP.out (by omega : k ≤ n)) (HBW4.out.trans (hV.mono HBW4.out.size)))
            have HDR := Lib.hid (fun (V : World) (hV : Below w5.heap.size w5 V) => Rd.below (rdZ_drop HTOP.out (by omega : k + 1 ≤ n) hnc) (HBW4.out.trans (hV.mono HBW4.out.size)))
            clear hk hn0 HBK HCNT HONE
            repeat (first | go_skip | go_guarded | go_step)
            refine wp_region_any (by kernel_rfl) ?_
            try (change wpAny _ _ _ _ _ _ _ (World.drew _))
            have hf0 := belowDrews (Below.refl w5.heap.size w5) 1
            refine wpAny_take (i := 1) (oi := ?oid15) (v := ?vd15) ?hod15 (by kernel_rfl) ?hfd15 ?hrd15 ?hQd15 ?hyd15 ?restd15
            case hod15 => (simp only [List.getElem?_toArray, List.getElem?_cons_succ, List.getElem?_cons_zero]; exact rfl)
            case hfd15 => kernel_rfl
            case hrd15 => kernel_rfl
            case hQd15 => exact fun _ _ _ h => h
            case hyd15 =>
              refine Or.inl ⟨by rfl, ?_⟩
              intro w
              go_simp
              (try with_reducible rfl)
            try simp only [Act.put, List.setIfInBounds_toArray, List.set_cons_zero, List.set_cons_succ]
            refine wpAny_take (i := 2) (oi := ?oid16) (v := ?vd16) ?hod16 (by kernel_rfl) ?hfd16 ?hrd16 ?hQd16 ?hyd16 ?restd16
            case hod16 => (simp only [List.getElem?_toArray, List.getElem?_cons_succ, List.getElem?_cons_zero]; exact rfl)
            case hfd16 => kernel_rfl
            case hrd16 => kernel_rfl
            case hQd16 => exact fun _ _ _ h => h
            case hyd16 =>
              refine Or.inl ⟨by rfl, ?_⟩
              intro w
              go_simp
              (try with_reducible rfl)
            try simp only [Act.put, List.setIfInBounds_toArray, List.set_cons_zero, List.set_cons_succ]
            refine wpAny_take (i := 3) (oi := ?oid17) (v := ?vd17) ?hod17 (by kernel_rfl) ?hfd17 ?hrd17 ?hQd17 ?hyd17 ?restd17
            case hod17 => (simp only [List.getElem?_toArray, List.getElem?_cons_succ, List.getElem?_cons_zero]; exact rfl)
            case hfd17 => kernel_rfl
            case hrd17 => kernel_rfl
            case hQd17 => exact fun _ _ _ h => h
            case hyd17 =>
              refine Or.inl ⟨by rfl, ?_⟩
              intro w
              go_simp
              (try with_reducible rfl)
            try simp only [Act.put, List.setIfInBounds_toArray, List.set_cons_zero, List.set_cons_succ]
            refine wpAny_take (i := 5) (oi := ?oid18) (v := ?vd18) ?hod18 (by kernel_rfl) ?hfd18 ?hrd18 ?hQd18 ?hyd18 ?restd18
            case hod18 => (simp only [List.getElem?_toArray, List.getElem?_cons_succ, List.getElem?_cons_zero]; exact rfl)
            case hfd18 => kernel_rfl
            case hrd18 => kernel_rfl
            case hQd18 => exact fun _ _ _ h => h
            case hyd18 =>
              refine Or.inl ⟨by rfl, ?_⟩
              intro w
              go_simp
              (try with_reducible rfl)
            try simp only [Act.put, List.setIfInBounds_toArray, List.set_cons_zero, List.set_cons_succ]
            refine wpAny_take (i := 6) (oi := ?oid19) (v := ?vd19) ?hod19 (by kernel_rfl) ?hfd19 ?hrd19 ?hQd19 ?hyd19 ?restd19
            case hod19 => (simp only [List.getElem?_toArray, List.getElem?_cons_succ, List.getElem?_cons_zero]; exact rfl)
            case hfd19 => kernel_rfl
            case hrd19 => kernel_rfl
            case hQd19 => exact fun _ _ _ h => h
            case hyd19 =>
              refine Or.inl ⟨by rfl, ?_⟩
              intro w
              go_simp
              (try with_reducible rfl)
            try simp only [Act.put, List.setIfInBounds_toArray, List.set_cons_zero, List.set_cons_succ]
            refine wpAny_take (i := 7) (oi := ?oid20) (v := ?vd20) ?hod20 (by kernel_rfl) ?hfd20 ?hrd20 ?hQd20 ?hyd20 ?restd20
            case hod20 => (simp only [List.getElem?_toArray, List.getElem?_cons_succ, List.getElem?_cons_zero]; exact rfl)
            case hfd20 => kernel_rfl
            case hrd20 => kernel_rfl
            case hQd20 => exact fun _ _ _ h => h
            case hyd20 =>
              refine Or.inl ⟨by rfl, ?_⟩
              intro w
              go_simp
              (try with_reducible rfl)
            try simp only [Act.put, List.setIfInBounds_toArray, List.set_cons_zero, List.set_cons_succ]
            refine wpAny_take (i := 8) (oi := ?oid21) (v := ?vd21) ?hod21 (by kernel_rfl) ?hfd21 ?hrd21 ?hQd21 ?hyd21 ?restd21
            case hod21 => (simp only [List.getElem?_toArray, List.getElem?_cons_succ, List.getElem?_cons_zero]; exact rfl)
            case hfd21 => kernel_rfl
            case hrd21 => kernel_rfl
            case hQd21 => exact fun _ _ _ h => h
            case hyd21 =>
              refine Or.inl ⟨by rfl, ?_⟩
              intro w
              go_simp
              (try with_reducible rfl)
            try simp only [Act.put, List.setIfInBounds_toArray, List.set_cons_zero, List.set_cons_succ]
            refine wpAny_ready (rs := [0]) (by kernel_rfl) (by simp) ?_
            refine AllReady.cons (o := ?od22) ?hod22 (fun K hK => ?kd22) ?md22
            case hod22 => (simp only [List.getElem?_toArray, List.getElem?_cons_succ, List.getElem?_cons_zero]; exact rfl)
            case kd22 =>
              refine anyd_emptyC (by rfl) rfl w5.heap.size hf0.size ?_
              intro Vd22 Ad22 cd22 hod22 hvd22
              have hfd22 : Below w5.heap.size w5 Vd22 := hf0.trans (hvd22.mono hf0.size)
              (try dsimp only)
              refine hK _ _ ?_
              clear hK K
              try simp only [Act.put, List.setIfInBounds_toArray, List.set_cons_zero, List.set_cons_succ]
              refine wpAny_ready (rs := [4]) (by kernel_rfl) (by simp) ?_
              refine AllReady.cons (o := ?od23) ?hod23 (fun K hK => ?kd23) ?md23
              case hod23 => (simp only [List.getElem?_toArray, List.getElem?_cons_succ, List.getElem?_cons_zero]; exact rfl)
              case kd23 =>
                refine anyd_appC0 (by rfl) (.tmp 180) (.tmp 183) rfl w5.heap.size Ad22 cd22 (by rfl) hod22 _ A k c _ (by rfl) (HTA.out _ hfd22) (by omega) hfd22.size ?_
                intro Ad23 cd23 Vd23 hod23 htd23 hgd23
                have hfd23 : Below w5.heap.size w5 Vd23 := hfd22.trans (htd23.below (B := w5.heap.size) (fun y _ e => (hod22.low e).1) hfd22.size)
                (try dsimp only)
                refine hK _ _ ?_
                clear hK K
                try simp only [Act.put, List.setIfInBounds_toArray, List.set_cons_zero, List.set_cons_succ]
                refine wpAny_ready (rs := [9]) (by kernel_rfl) (by simp) ?_
                refine AllReady.cons (o := ?od24) ?hod24 (fun K hK => ?kd24) ?md24
                case hod24 => (simp only [List.getElem?_toArray, List.getElem?_cons_succ, List.getElem?_cons_zero]; exact rfl)
                case kd24 =>
                  refine anyd_appC (by rfl) (.tmp 184) (.tmp 188) rfl w5.heap.size Ad23 cd23 k _ (by rfl) hod23 _ _ (n - (k + 1)) (c - (k + 1)) _ (by rfl) (HDR.out _ hfd23) (by omega) hfd23.size ?_
                  intro Ad24 cd24 Vd24 hod24 htd24 hgd24
                  have hfd24 : Below w5.heap.size w5 Vd24 := hfd23.trans (htd24.below (B := w5.heap.size) (fun y _ e => (hod23.low e).1) hfd23.size)
                  (try dsimp only)
                  refine hK _ _ ?_
                  clear hK K
                  try simp only [Act.put, List.setIfInBounds_toArray, List.set_cons_zero, List.set_cons_succ]
                  refine wpAny_ready (rs := [10]) (by kernel_rfl) (by simp) ?_
                  refine AllReady.cons (o := ?od25) ?hod25 (fun K hK => ?kd25) ?md25
                  case hod25 => (simp only [List.getElem?_toArray, List.getElem?_cons_succ, List.getElem?_cons_zero]; exact rfl)
                  case kd25 =>
                    have hYC : (Z.take k ++ Z.drop (k + 1)).map (·.1) = lessC C k := by
                      rw [List.map_append, List.map_take, List.map_drop, HFST.out]
                      rfl
                    have hrz : RowZ w1 w1.heap.size (Z.take k ++ Z.drop (k + 1)) := HROWZ.out.sub (fun y hy => by
                      rcases List.mem_append.1 hy with hy | hy
                      · exact List.mem_of_mem_take hy
                      · exact List.mem_of_mem_drop hy)
                    have hBX := HBW4.out.trans (hfd24.mono HBW4.out.size)
                    have hSY : Slim (lessC C k) := fun x hx => HS.out x ((less_sub C k).subset hx)
                    have hcl := OK.out.levels Ad24 (k + (n - (k + 1))) cd24 _ _ _ (rdCs_of hod24.rd ((hrz.below hBX).more hBX.size)) hod24.le (by rw [hYC]; exact hSY) (by omega)
                    rw [hYC] at hcl
                    go_simp
                    refine hcl.mono ?_
                    rintro e Vd25 ⟨er, A7, c7, L7, rfl, ht7, hr7, hvd25⟩
                    have hfd25 : Below w5.heap.size w5 Vd25 := hfd24.trans (hvd25.mono hfd24.size)
                    have hcase : ∀ e, LevTold (lessC C k) e L7 → e = 0 ∧ ∀ x ∈ L7, x.1 ∈ prL C ∧ x.2 ≤ f x.1 := fun e h => by
                      have hv7 : Valid (edL (lessC C k)) f := fun d hd => HLST.out.valid d (less_edges hd)
                      cases h with
                      | wrong q => exact absurd (right_less (less_sub C k) H0.out) q
                      | none _ q => exact absurd ⟨f, hv7⟩ q
                      | some a b c d e =>
                        refine ⟨rfl, fun x hx => ⟨less_preds ((d x.1).1 (List.mem_map.2 ⟨x, hx, rfl⟩)), ?_⟩⟩
                        rw [e x hx]
                        exact b.le f hv7 x.1
                    have hlm7 := ht7.len
                    have hpb7 := pr_bound hSY (by
                      have := (less_sub C k).length_le
                      rw [HLC.out] at this
                      omega)
                    obtain ⟨rfl, hval7⟩ := hcase er ht7
                    have HV7 := Lib.hid hval7
                    have HR7 := Lib.hid hr7
                    have HF7 := Lib.hid hfd25
                    obtain ⟨m7, hm7⟩ : ∃ m7, m7 = L7.length := ⟨_, rfl⟩
                    rw [← hm7] at HR7 hlm7 ⊢
                    have hmb7 : m7 ≤ 500000000000 := by omega
                    clear hcase hlm7 hpb7 hval7 hr7 ht7 hcl hm7 hYC hrz hBX hSY
                    rw [show (((0 : Nat)) : Int) = (0 : Int) from rfl]
                    (try dsimp only)
                    refine hK _ _ ?_
                    clear hK K
                    try simp only [Act.put, List.setIfInBounds_toArray, List.set_cons_zero, List.set_cons_succ]
                    refine wpAny_take (i := 11) (oi := ?oid26) (v := ?vd26) ?hod26 (by kernel_rfl) ?hfd26 ?hrd26 ?hQd26 ?hyd26 ?restd26
                    case hod26 => (simp only [List.getElem?_toArray, List.getElem?_cons_succ, List.getElem?_cons_zero]; exact rfl)
                    case hfd26 => kernel_rfl
                    case hrd26 => kernel_rfl
                    case hQd26 => exact fun _ _ _ h => h
                    case hyd26 =>
                      refine Or.inl ⟨by rfl, ?_⟩
                      intro w
                      go_simp
                      (try with_reducible rfl)
                    try simp only [Act.put, List.setIfInBounds_toArray, List.set_cons_zero, List.set_cons_succ]
                    refine wpAny_take (i := 12) (oi := ?oid27) (v := ?vd27) ?hod27 (by kernel_rfl) ?hfd27 ?hrd27 ?hQd27 ?hyd27 ?restd27
                    case hod27 => (simp only [List.getElem?_toArray, List.getElem?_cons_succ, List.getElem?_cons_zero]; exact rfl)
                    case hfd27 => kernel_rfl
                    case hrd27 => kernel_rfl
                    case hQd27 => exact fun _ _ _ h => h
                    case hyd27 =>
                      refine Or.inl ⟨by rfl, ?_⟩
                      intro w
                      go_simp
                      (try with_reducible rfl)
                    try simp only [Act.put, List.setIfInBounds_toArray, List.set_cons_zero, List.set_cons_succ]
                    refine wpAny_take (i := 13) (oi := ?oid28) (v := ?vd28) ?hod28 (by kernel_rfl) ?hfd28 ?hrd28 ?hQd28 ?hyd28 ?restd28
                    case hod28 => (simp only [List.getElem?_toArray, List.getElem?_cons_succ, List.getElem?_cons_zero]; exact rfl)
                    case hfd28 => kernel_rfl
                    case hrd28 => kernel_rfl
                    case hQd28 => exact fun _ _ _ h => h
                    case hyd28 =>
                      refine Or.inl ⟨by rfl, ?_⟩
                      intro w
                      go_simp
                      (try with_reducible rfl)
                    try simp only [Act.put, List.setIfInBounds_toArray, List.set_cons_zero, List.set_cons_succ]
                    refine wpAny_take (i := 14) (oi := ?oid29) (v := ?vd29) ?hod29 (by kernel_rfl) ?hfd29 ?hrd29 ?hQd29 ?hyd29 ?restd29
                    case hod29 => (simp only [List.getElem?_toArray, List.getElem?_cons_succ, List.getElem?_cons_zero]; exact rfl)
                    case hfd29 => kernel_rfl
                    case hrd29 => kernel_rfl
                    case hQd29 => exact fun _ _ _ h => h
                    case hyd29 =>
                      refine Or.inl ⟨by rfl, ?_⟩
                      intro w
                      go_simp
                      (try with_reducible rfl)
                    try simp only [Act.put, List.setIfInBounds_toArray, List.set_cons_zero, List.set_cons_succ]
                    refine wpAny_take (i := 15) (oi := ?oid30) (v := ?vd30) ?hod30 (by kernel_rfl) ?hfd30 ?hrd30 ?hQd30 ?hyd30 ?restd30
                    case hod30 => (simp only [List.getElem?_toArray, List.getElem?_cons_succ, List.getElem?_cons_zero]; exact rfl)
                    case hfd30 => kernel_rfl
                    case hrd30 => kernel_rfl
                    case hQd30 => exact fun _ _ _ h => h
                    case hyd30 =>
                      refine Or.inl ⟨by rfl, ?_⟩
                      intro w
                      go_simp
                      (try with_reducible rfl)
                    try simp only [Act.put, List.setIfInBounds_toArray, List.set_cons_zero, List.set_cons_succ]
                    refine wpAny_done (by kernel_rfl) ?_ _
                    generalize (if c = k + 1 then A else A.map (fun x => x.add ((k + 1) * 3))) = AD
                    have HB7 := Lib.hid (HBW4.out.trans (HF7.out.mono HBW4.out.size))
                    have HRL7 := Lib.hid (Rd.more (Rd.below HR4.out HF7.out) HF7.out.size)
                    generalize Vd25 = w7 at HR7 HF7 HB7 HRL7 ⊢
                    clear HTA HDR
                    repeat (first | go_skip | go_guarded | go_step)
                    go_loopw [20] (fun q w8 => ∃ i : Nat, i ≤ m7 ∧ q = .int .i64 (i : Int) ∧ Below w7.heap.size w7 w8) (fun q _ => m7 - (intOf q).toNat)
                    case atStart => exact ⟨0, by omega, rfl, Below.refl _ _⟩
                    case round =>
                      rename World => w8
                      obtain ⟨j, hj, rfl, hb8⟩ := hrel
                      have HB8 := Lib.hid hb8
                      clear hb8
                      by_cases hltj2 : j < m7
                      · have hji2 : (j : Int) < (m7 : Int) := by omega
                        obtain ⟨b6, o6, x, hA6, hb6, hx6, hx0, hx1⟩ := rdV_at HR7.out hltj2
                        obtain ⟨px, vx⟩ := x
                        dsimp only at hx0 hx1
                        obtain ⟨hpx, hvx⟩ := HV7.out _ (List.mem_of_getElem? hx6)
                        dsimp only at hpx hvx
                        obtain ⟨fv, hfv⟩ : ∃ fv : Nat, fv = f px := ⟨_, rfl⟩
                        have HT := Lib.hid (show ∀ V, Below w8.heap.size w8 V → V.cell? ⟨b6, o6 + j * 2, none⟩ = some (nv px) ∧ V.cell? ⟨b6, o6 + j * 2 + 1, none⟩ = some (.int .i64 (vx : Int)) from fun V hV => by
                          have h := HB8.out.trans (hV.mono HB8.out.size)
                          exact ⟨(h.cell (p := ⟨b6, o6 + j * 2, none⟩) hb6).trans hx0, (h.cell (p := ⟨b6, o6 + j * 2 + 1, none⟩) hb6).trans hx1⟩)
                        have HCALL := Lib.hid (show ∀ V, Below w8.heap.size w8 V → Calls Tryz.prog 15 #[.slice A2 m c2, nv px] V fun e w' => e = .returned (.int .i64 (fv : Int)) ∧ w' = V from fun V hV => by
                          have h := HB8.out.trans (hV.mono HB8.out.size)
                          have q := lof_any A2 m c2 Lv_ px V (Rd.more (Rd.below HRL7.out h) h.size) (by omega)
                          rwa [HOF.out px hpx, ← hfv] at q)
                        rw [← hfv] at hvx
                        have hng : ¬ (fv : Int) < (vx : Int) := by omega
                        subst hA6
                        clear hx6 hx0 hx1 hb6 hpx hvx hfv
                        repeat (first | go_skip | go_guarded | go_step)
                        refine wp_region_held_drew (S := fun V => Below w8.heap.size w8 V) (by kernel_rfl) ?_ (fun hHeld => ?_)
                        · exact (Below.refl w8.heap.size w8).drew
                        refine wpAnyH_take (i := 0) (oi := ?oid1) (v := ?vd1) ?hod1 (by kernel_rfl) ?hfd1 ?hrd1 ?hQd1 ?hyd1 hHeld ?restd1
                        case hod1 => (simp only [List.getElem?_toArray, List.getElem?_cons_succ, List.getElem?_cons_zero]; exact rfl)
                        case hfd1 => kernel_rfl
                        case hrd1 => kernel_rfl
                        case hQd1 => exact fun _ _ _ h => h
                        case hyd1 =>
                          refine Or.inl ⟨by rfl, ?_⟩
                          intro V hSV
                          go_simp
                          (try with_reducible rfl)
                        try simp only [Act.put, List.setIfInBounds_toArray, List.set_cons_zero, List.set_cons_succ]
                        refine wpAnyH_take (i := 1) (oi := ?oid2) (v := ?vd2) ?hod2 (by kernel_rfl) ?hfd2 ?hrd2 ?hQd2 ?hyd2 hHeld ?restd2
                        case hod2 => (simp only [List.getElem?_toArray, List.getElem?_cons_succ, List.getElem?_cons_zero]; exact rfl)
                        case hfd2 => kernel_rfl
                        case hrd2 => kernel_rfl
                        case hQd2 => exact fun _ _ _ h => h
                        case hyd2 =>
                          refine Or.inl ⟨by rfl, ?_⟩
                          intro V hSV
                          go_simp
                          (try with_reducible rfl)
                        try simp only [Act.put, List.setIfInBounds_toArray, List.set_cons_zero, List.set_cons_succ]
                        refine wpAnyH_take (i := 2) (oi := ?oid3) (v := ?vd3) ?hod3 (by kernel_rfl) ?hfd3 ?hrd3 ?hQd3 ?hyd3 hHeld ?restd3
                        case hod3 => (simp only [List.getElem?_toArray, List.getElem?_cons_succ, List.getElem?_cons_zero]; exact rfl)
                        case hfd3 => kernel_rfl
                        case hrd3 => kernel_rfl
                        case hQd3 => exact fun _ _ _ h => h
                        case hyd3 =>
                          refine Or.inl ⟨by rfl, ?_⟩
                          intro V hSV
                          go_simp
                          (try with_reducible rfl)
                        try simp only [Act.put, List.setIfInBounds_toArray, List.set_cons_zero, List.set_cons_succ]
                        refine wpAnyH_take (i := 3) (oi := ?oid4) (v := ?vd4) ?hod4 (by kernel_rfl) ?hfd4 ?hrd4 ?hQd4 ?hyd4 hHeld ?restd4
                        case hod4 => (simp only [List.getElem?_toArray, List.getElem?_cons_succ, List.getElem?_cons_zero]; exact rfl)
                        case hfd4 => kernel_rfl
                        case hrd4 => kernel_rfl
                        case hQd4 => exact fun _ _ _ h => h
                        case hyd4 =>
                          refine Or.inl ⟨by rfl, ?_⟩
                          intro V hSV
                          go_simp
                          (try with_reducible rfl)
                        try simp only [Act.put, List.setIfInBounds_toArray, List.set_cons_zero, List.set_cons_succ]
                        refine wpAnyH_take (i := 4) (oi := ?oid5) (v := ?vd5) ?hod5 (by kernel_rfl) ?hfd5 ?hrd5 ?hQd5 ?hyd5 hHeld ?restd5
                        case hod5 => (simp only [List.getElem?_toArray, List.getElem?_cons_succ, List.getElem?_cons_zero]; exact rfl)
                        case hfd5 => kernel_rfl
                        case hrd5 => kernel_rfl
                        case hQd5 => exact fun _ _ _ h => h
                        case hyd5 =>
                          refine Or.inl ⟨by rfl, ?_⟩
                          intro V hSV
                          obtain ⟨e0, e1⟩ := HT.out V hSV
                          go_simp
                          (try with_reducible rfl)
                        try simp only [Act.put, List.setIfInBounds_toArray, List.set_cons_zero, List.set_cons_succ]
                        refine wpAnyH_take (i := 5) (oi := ?oid6) (v := ?vd6) ?hod6 (by kernel_rfl) ?hfd6 ?hrd6 ?hQd6 ?hyd6 hHeld ?restd6
                        case hod6 => (simp only [List.getElem?_toArray, List.getElem?_cons_succ, List.getElem?_cons_zero]; exact rfl)
                        case hfd6 => kernel_rfl
                        case hrd6 => kernel_rfl
                        case hQd6 => exact fun _ _ _ h => h
                        case hyd6 =>
                          refine Or.inl ⟨by rfl, ?_⟩
                          intro V hSV
                          go_simp
                          (try with_reducible rfl)
                        try simp only [Act.put, List.setIfInBounds_toArray, List.set_cons_zero, List.set_cons_succ]
                        refine wpAnyH_take (i := 6) (oi := ?oid7) (v := ?vd7) ?hod7 (by kernel_rfl) ?hfd7 ?hrd7 ?hQd7 ?hyd7 hHeld ?restd7
                        case hod7 => (simp only [List.getElem?_toArray, List.getElem?_cons_succ, List.getElem?_cons_zero]; exact rfl)
                        case hfd7 => kernel_rfl
                        case hrd7 => kernel_rfl
                        case hQd7 => exact fun _ _ _ h => h
                        case hyd7 =>
                          refine Or.inl ⟨by rfl, ?_⟩
                          intro V hSV
                          go_simp
                          (try with_reducible rfl)
                        try simp only [Act.put, List.setIfInBounds_toArray, List.set_cons_zero, List.set_cons_succ]
                        refine wpAnyH_take (i := 7) (oi := ?oid8) (v := ?vd8) ?hod8 (by kernel_rfl) ?hfd8 ?hrd8 ?hQd8 ?hyd8 hHeld ?restd8
                        case hod8 => (simp only [List.getElem?_toArray, List.getElem?_cons_succ, List.getElem?_cons_zero]; exact rfl)
                        case hfd8 => kernel_rfl
                        case hrd8 => kernel_rfl
                        case hQd8 => exact fun _ _ _ h => h
                        case hyd8 =>
                          refine Or.inl ⟨by rfl, ?_⟩
                          intro V hSV
                          go_simp
                          (try with_reducible rfl)
                        try simp only [Act.put, List.setIfInBounds_toArray, List.set_cons_zero, List.set_cons_succ]
                        refine wpAnyH_take (i := 8) (oi := ?oid9) (v := ?vd9) ?hod9 (by kernel_rfl) ?hfd9 ?hrd9 ?hQd9 ?hyd9 hHeld ?restd9
                        case hod9 => (simp only [List.getElem?_toArray, List.getElem?_cons_succ, List.getElem?_cons_zero]; exact rfl)
                        case hfd9 => kernel_rfl
                        case hrd9 => kernel_rfl
                        case hQd9 => exact fun _ _ _ h => h
                        case hyd9 =>
                          refine Or.inl ⟨by rfl, ?_⟩
                          intro V hSV
                          go_simp
                          (try with_reducible rfl)
                        try simp only [Act.put, List.setIfInBounds_toArray, List.set_cons_zero, List.set_cons_succ]
                        refine wpAnyH_take (i := 9) (oi := ?oid10) (v := ?vd10) ?hod10 (by kernel_rfl) ?hfd10 ?hrd10 ?hQd10 ?hyd10 hHeld ?restd10
                        case hod10 => (simp only [List.getElem?_toArray, List.getElem?_cons_succ, List.getElem?_cons_zero]; exact rfl)
                        case hfd10 => kernel_rfl
                        case hrd10 => kernel_rfl
                        case hQd10 => exact fun _ _ _ h => h
                        case hyd10 =>
                          refine Or.inl ⟨by rfl, ?_⟩
                          intro V hSV
                          go_simp
                          (try with_reducible rfl)
                        try simp only [Act.put, List.setIfInBounds_toArray, List.set_cons_zero, List.set_cons_succ]
                        refine wpAnyH_take (i := 10) (oi := ?oid11) (v := ?vd11) ?hod11 (by kernel_rfl) ?hfd11 ?hrd11 ?hQd11 ?hyd11 hHeld ?restd11
                        case hod11 => (simp only [List.getElem?_toArray, List.getElem?_cons_succ, List.getElem?_cons_zero]; exact rfl)
                        case hfd11 => kernel_rfl
                        case hrd11 => kernel_rfl
                        case hQd11 => exact fun _ _ _ h => h
                        case hyd11 =>
                          refine Or.inl ⟨by rfl, ?_⟩
                          intro V hSV
                          obtain ⟨e0, e1⟩ := HT.out V hSV
                          go_simp
                          (try with_reducible rfl)
                        try simp only [Act.put, List.setIfInBounds_toArray, List.set_cons_zero, List.set_cons_succ]
                        refine wpAnyH_ready (rs := [11]) (by kernel_rfl) (by simp) ?_
                        refine AllReadyH.cons (o := ?od12) ?hod12 (fun K hK => ?kd12) ?md12
                        case hod12 => (simp only [List.getElem?_toArray, List.getElem?_cons_succ, List.getElem?_cons_zero]; exact rfl)
                        case kd12 =>
                          go_simp
                          refine (HCALL.out _ hHeld).mono ?_
                          rintro e V11 ⟨rfl, rfl⟩
                          (try dsimp only)
                          refine hK.out _ _ ?_ (fun hHeld => ?_)
                          · exact hHeld
                          clear hK K
                          try simp only [Act.put, List.setIfInBounds_toArray, List.set_cons_zero, List.set_cons_succ]
                          refine wpAnyH_take (i := 12) (oi := ?oid13) (v := ?vd13) ?hod13 (by kernel_rfl) ?hfd13 ?hrd13 ?hQd13 ?hyd13 hHeld ?restd13
                          case hod13 => (simp only [List.getElem?_toArray, List.getElem?_cons_succ, List.getElem?_cons_zero]; exact rfl)
                          case hfd13 => kernel_rfl
                          case hrd13 => kernel_rfl
                          case hQd13 => exact fun _ _ _ h => h
                          case hyd13 =>
                            refine Or.inl ⟨by rfl, ?_⟩
                            intro V hSV
                            go_simp
                            (try with_reducible rfl)
                          try simp only [Act.put, List.setIfInBounds_toArray, List.set_cons_zero, List.set_cons_succ]
                          refine wpAnyH_done (by kernel_rfl) ?_ _
                          have HB9 := Lib.hid (HB8.out.trans ((belowDrews (Below.refl w8.heap.size w8) 1).mono HB8.out.size))
                          repeat (first | go_skip | go_guarded | go_step)
                          go_roundw
                          case rel => exact ⟨j + 1, by omega, by go_num, HB9.out⟩
                          case measure => simp [intOf]; omega
                        exact AllReadyH.nil
                      · obtain rfl : m7 = j := by omega
                        have hji2 : ¬ (m7 : Int) < (m7 : Int) := by omega
                        have HBZ := Lib.hid (HB7.out.trans (HB8.out.mono HB7.out.size))
                        repeat (first | go_skip | go_guarded | go_step)
                        refine (WK.out _).mono ?_
                        rintro e wz ⟨rfl, hbz⟩
                        have HBZ := Lib.hid (HBZ.out.trans (hbz.mono HBZ.out.size))
                        clear hbz
                        dsimp only
                        repeat (first | go_skip | go_guarded | go_step)
                        go_ret
                        exact ⟨rfl, HBZ.out⟩
                  exact AllReady.nil
                exact AllReady.nil
              exact AllReady.nil
            exact AllReady.nil

theorem walkAll (ok : StratOk) (wk : TWorksOk) (A : Option Addr) (n c : Nat) (Q : List ClA) (C : List Cl) (a : Nat) (w : World) (h : RdCs w w.heap.size A n Q C) (hnc : n ≤ c) (hcap : ∀ q ∈ Q, q.1.2.1 ≤ q.1.2.2 ∧ q.2.1.2.1 ≤ q.2.1.2.2) (ha : a ≤ 255) :
    Calls Tryz.prog 5 #[.slice A n c, .int .u8 (a : Int)] w fun e w' => e = .returned (.bool true) ∧ Below w.heap.size w w' := by
  cases hb1 : fewB n 0 C [] with
  | false => exact walkFew wk A n c Q C a w h (.inl hb1)
  | true =>
    by_cases h4 : 20 < n
    · exact walkFew wk A n c Q C a w h (.inr h4)
    · have hs : Slim C := by
        unfold fewB at hb1
        simp only [Bool.and_eq_true] at hb1
        exact few_slim hb1.2.1
      by_cases h0 : (rightM C).2 = 0
      · by_cases hv : ∃ f, Valid (edL C) f
        · obtain ⟨f, hf⟩ := least_ex hv
          exact walkGood ok wk A n c Q C a w h hnc hb1 hs (by omega) ha f h0 hf
        · exact walkBad ok wk A n c Q C a w h hnc hb1 hs (by omega) [] 11 (LevTold.none h0 hv) (by decide)
      · exact walkBad ok wk A n c Q C a w h hnc hb1 hs (by omega) [] _ (LevTold.wrong h0) h0

set_option maxRecDepth 100000 in
theorem lifted (ok : StratOk) (wk : TWorksOk) (os : Os) (started : os.Started) (H : Type) (enc : TypeId × Value → H) :
    ReturnsInHanded {} Tryz.checked os 5 .any (Rows.stratHoldsSpec.pre6 enc Tryz.prog Tryz.f5 Rows.stratHoldsRow.domain false) (Rows.stratHoldsSpec.post enc Tryz.prog Tryz.f5 false true false false) := by
  refine returnsInHanded_of_change_sized (C := Tryz.checked) ownKA started (by kernel_rfl) Tryz.func5
    (ChangeSpec.witness6 (enc := enc) (C := Tryz.checked) false ⟨#[], #[.slice none 0 0, .int .u8 0], []⟩ 8 (by kernel_rfl) (by kernel_rfl) (by kernel_rfl) (by kernel_rfl)) ?_
  intro W base args ds gs before hval0 hW hcnd hsz0 _
  have hval : ∀ (j : Nat) t v, Tryz.f5.params[j]? = some t → args[j]? = some v → Value.okWide Tryz.prog W .any base t v := hval0
  have hlt : ∀ x ∈ before, x.block < W.heap.size := fun x hx => by simpa using hW.lt x hx
  have hW' := hW
  obtain ⟨p, q, hA0, hV, rfl, hfz, hnd⟩ := hW
  have hA : DataW.TrodAll enc Tryz.prog W 0 (fun _ => true) true Tryz.f5.params.toList args.toList ds p := hA0
  rw [Tryz.params5] at hA hval
  obtain ⟨v0, vs0, d0, ds0, p0, q0, hargs, rfl, rfl, h0, r0⟩ := trodAll_cons hA
  obtain ⟨v1, vs1, d1, ds1, p1, q1, rfl, rfl, rfl, h1, r1⟩ := trodAll_cons r0
  obtain ⟨rfl, rfl, rfl⟩ := trodAll_nil r1
  obtain rfl : args = #[v0, v1] := by cases args; simp_all
  obtain ⟨rfl, rfl⟩ := trodVars_none hV
  obtain ⟨za, rfl, rfl, rfl, wza⟩ := open_int Tryz.underlying5 (hval 1 5 v1 rfl rfl) h1
  have bza := bounds_u8 wza
  obtain ⟨a, rfl⟩ : ∃ m : Nat, za = (m : Int) := ⟨za.toNat, by omega⟩
  obtain ⟨A, n, c, Q, C, rfl, hk1, hm1, hr1, hcap⟩ := open_clauses2 (hval 0 22 v0 rfl rfl) h0 (fun x hx => hlt x (by simp [hx]))
  refine (walkAll ok wk A n c Q C a W hr1 hk1 hcap (by omega)).mono fun e W' ⟨he, hg⟩ => ?_
  subst he
  exact ⟨_, rfl, post_law laidOutA rfl (by kernel_rfl) hW' hg rfl Tryz.underlying4 rfl rfl rfl⟩

theorem proved_of (ok : StratOk) (wk : TWorksOk) : Rows.StratHoldsSaid :=
  OpenClaim.holds_of_wide 5 Tryz.f5 rfl rfl rfl rfl rfl rfl rfl ⟨rfl, rfl, rfl, rfl, rfl⟩ rfl rfl rfl rfl rfl (by kernel_rfl) Tryz.func5 (by kernel_rfl)
    (of_decide_eq_true (by kernel_rfl)) (by unfold Func.isWrapper; first | (rw [if_pos (by decide +kernel)]; kernel_rfl) | (rw [if_neg (by decide +kernel)]; exact ⟨rfl, rfl⟩))
    (fun os started H enc _ => lifted ok wk os started H enc)
#print axioms proved_of
end Go.Proofs.YtfmghkplafploaaGreat.stratHolds

