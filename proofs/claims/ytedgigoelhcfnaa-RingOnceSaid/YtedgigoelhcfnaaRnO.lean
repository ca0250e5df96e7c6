/- RingOnce: whatever the input, the law returns true (who has a key keeps it until it is dropped), and the input reads as it did. No condition beside what is asked of the package (RingOk). -/
import Derived.Test.YtedgigoelhcfnaaRnF
import Derived.Deep.RegionWith
import Derived.Test.YtedgigoelhcfnaaRows
set_option linter.unusedVariables false
set_option linter.unusedSimpArgs false
namespace Go.Proofs.Ytedgigoelhcfnaa.ringOnce
open Go Go.RowKit Go.ChangeShapes Go.WideShapes Go.ChangeAt

theorem key_put {K : List RgE} (h : RgGood K) (u v : UInt32) (k : List UInt8) : rgKey (rgPut K u k).2 v = if u = v ∧ (rgPut K u k).1 = 0 then k else rgKey K v := by
  unfold rgPut
  split
  · rw [if_neg (by simp)]
  · split
    · rw [if_neg (by simp)]
    · rename_i hs
      split
      · rw [if_neg (by simp)]
      · have hn : rgAt K u = none := by cases q : rgAt K u with | none => rfl | some _ => rw [q] at hs; simp at hs
        unfold rgKey
        rw [rgAt_ins h.rise (rgAt_none.1 hn)]
        by_cases e : v = u
        · rw [if_pos e, if_pos ⟨e.symm, rfl⟩]; rfl
        · rw [if_neg e, if_neg (fun q => e q.1.symm)]
theorem key_drop {K : List RgE} (h : RgGood K) (u v : UInt32) : rgKey (rgDrop K u).2 v = if u = v ∧ (rgDrop K u).1 = 0 then [] else rgKey K v := by
  unfold rgDrop
  split
  · unfold rgKey
    rw [rgAt_cut h.rise]
    by_cases e : v = u
    · rw [if_pos e, if_pos ⟨e.symm, rfl⟩]; rfl
    · rw [if_neg e, if_neg (fun q => e q.1.symm)]
  · rw [if_neg (by simp)]
theorem key_some {K : List RgE} (h : RgGood K) (v : UInt32) : (rgAt K v).isSome = !(rgKey K v).isEmpty := by
  unfold rgKey
  cases q : rgAt K v with
  | none => rfl
  | some k =>
    have := h.key _ (rgAt_mem q)
    cases k with
    | nil => simp at this
    | cons x r => rfl
set_option maxRecDepth 100000 in
set_option maxHeartbeats 8000000 in
theorem walkAll {Rg : World → Nat → (Nat → Prop) → List RgE → Prop} (ok : RingOk Rg) (A : Option Addr) (n c : Nat) (Z : List StE) (v : UInt32) (w : World) (hr : RdSt w w.heap.size A n Z) (hnc : n ≤ c) (hm : c ≤ maxLen) :
    Calls Try.prog 4 #[.slice A n c, nr v] w fun e w' => e = .returned (.bool true) ∧ Below w.heap.size w w' := by
  have WK := Lib.hid (rWorks_of ok)
  have OK := Lib.hid ok
  have hfew := fewS_any A n c Z w hr
  have HX := Lib.hid hr
  clear hr ok
  cases hb : fewS Z with
  | false =>
    rw [hb] at hfew
    clear hb
    go_enter Try.func4, Try.ntmps4
    repeat (first | go_skip | go_guarded | go_step)
    refine hfew.mono ?_
    rintro e w2 ⟨rfl, hw⟩
    rw [hw]
    clear hw hfew
    dsimp only
    repeat (first | go_skip | go_guarded | go_step)
    refine (WK.out _).mono ?_
    rintro e wz ⟨rfl, hbz⟩
    have HBZ := Lib.hid (hbz)
    clear hbz
    dsimp only
    repeat (first | go_skip | go_guarded | go_step)
    go_ret
    exact ⟨rfl, HBZ.out⟩
  | true =>
    rw [hb] at hfew
    have HFEW := Lib.hid (fewS_iff.1 hb)
    have hn200 : n ≤ 200 := by rw [← HX.out.len]; exact HFEW.out.1
    have hnew := OK.out.new_ w
    clear hb
    go_enter Try.func4, Try.ntmps4
    repeat (first | go_skip | go_guarded | go_step)
    refine hfew.mono ?_
    rintro e w2 ⟨rfl, hw⟩
    rw [hw]
    clear hw hfew
    dsimp only
    repeat (first | go_skip | go_guarded | go_step)
    refine hnew.mono ?_
    rintro e w1 ⟨a, G0, rfl, hrg0, hG0, hb1⟩
    have HRG0 := Lib.hid hrg0
    have HG0 := Lib.hid hG0
    have HB1 := Lib.hid hb1
    clear hnew hrg0 hG0 hb1
    dsimp only
    repeat (first | go_skip | go_guarded | go_step)
    go_loopw [6, 7] (fun kv q wr => ∃ (i : Nat) (G : Nat → Prop) (K : List RgE) (T : ByteArray), i ≤ n ∧ kv = .string T ∧ q = .int .i64 (i : Int) ∧ T = bsOf (rgKey K v) ∧ Rg wr a G K ∧ (∀ x, G x → w.heap.size ≤ x) ∧ Below w.heap.size w wr) (fun _ q _ => n - (intOf q).toNat)
    case atStart => exact ⟨0, G0, [], _, by omega, rfl, rfl, rfl, HRG0.out, HG0.out, HB1.out⟩
    case round =>
      rename World => wr
      obtain ⟨i, G, K, T, hi, rfl, rfl, hT, hrg, hG, hbr⟩ := hrel
      have HT := Lib.hid hT
      have HRG := Lib.hid hrg
      have HG := Lib.hid hG
      have HBR := Lib.hid hbr
      clear hT hrg hG hbr
      by_cases hlt : i < n
      · have hci : (i : Int) < (n : Int) := by omega
        have hi0 : (0 : Int) ≤ (i : Int) := by omega
        obtain ⟨b, o, d, u, k, Ak, nk, ck, hA, hb, hz, hc0, hc1, hc2, hrk, hkl, hnck⟩ := (HX.out.below HBR.out).at_ hlt
        have hk300 : nk ≤ 300 := by have := HFEW.out.2 _ (List.mem_of_getElem? hz); dsimp only at this; omega
        have HCELL := Lib.hid (show ∀ V, Below w.heap.size wr V → V.cell? ⟨b, o + i * 3, none⟩ = some (.bool d) ∧ V.cell? ⟨b, o + i * 3 + 1, none⟩ = some (nr u) ∧ V.cell? ⟨b, o + i * 3 + 2, none⟩ = some (.slice Ak nk ck) from fun V hV => ⟨(hV.cell (p := ⟨b, o + i * 3, none⟩) hb).trans hc0, (hV.cell (p := ⟨b, o + i * 3 + 1, none⟩) hb).trans hc1, (hV.cell (p := ⟨b, o + i * 3 + 2, none⟩) hb).trans hc2⟩)
        have HRK := Lib.hid hrk
        have HKL := Lib.hid hkl
        subst hA
        clear hz hrk hkl hb
        cases d with
        | true =>
          have hop := OK.out.drop wr a G K u HRG.out
          obtain ⟨er, her⟩ : ∃ er, er = (rgDrop K u).1 := ⟨_, rfl⟩
          obtain ⟨K2, hK2⟩ : ∃ K2, K2 = (rgDrop K u).2 := ⟨_, rfl⟩
          have HKY := Lib.hid (show rgKey K2 v = if u = v ∧ er = 0 then [] else rgKey K v by rw [hK2, her]; exact key_drop (OK.out.good HRG.out) u v)
          rw [← her, ← hK2] at hop
          clear her hK2
          obtain ⟨L2, hLL⟩ : ∃ L2, L2 = rgKey K2 v := ⟨_, rfl⟩
          have HLL := Lib.hid hLL
          by_cases huv : u = v
          · have hdu : ((u.toNat : Int) == (v.toNat : Int)) = true := by rw [huv]; simp
            by_cases h0 : er = 0
            · have HE : Hid (L2 = []) := by
                show L2 = []
                rw [hLL, HKY.out, if_pos ⟨huv, h0⟩]
              have HUV := Lib.hid huv
              clear hLL huv
              subst h0
              obtain rfl : L2 = [] := HE.out
              repeat (first | go_skip | go_guarded | go_step)
              refine hop.mono ?_
              rintro e w2 ⟨G2, rfl, hrg2, ht2, hG2⟩
              have hbw2 : Below w.heap.size wr w2 := by first | exact ht2.below (fun k _ hk => HG.out k hk) HBR.out.size | exact (belowDrews (Below.refl _ _) 1).trans (ht2.below (fun k _ hk => HG.out k hk) HBR.out.size)
              have HBW2 := Lib.hid hbw2
              have HB2 := Lib.hid (HBR.out.trans hbw2)
              have HG2 := Lib.hid (show ∀ k, G2 k → w.heap.size ≤ k from fun k hk => (hG2 k hk).elim (HG.out k) (fun q => Nat.le_trans HBR.out.size q))
              have HRG2 := Lib.hid hrg2
              obtain ⟨j0, j1, j2⟩ := HCELL.out w2 hbw2
              clear hop hrg2 ht2 hG2 hc0 hc1 hc2 hbw2
              dsimp only
              have hkey := OK.out.key w2 a G2 K2 v HRG2.out
              rw [key_some (OK.out.good HRG2.out), ← HLL.out] at hkey
              repeat (first | go_skip | go_guarded | go_step)
              refine hkey.mono ?_
              rintro e w3 ⟨G3, A3, n3, c3, rfl, hrd3, hap3, hrg3, ht3, hG3⟩
              have HB3 := Lib.hid (HB2.out.trans (ht3.below (B := w.heap.size) (fun k _ hk => HG2.out k hk) HB2.out.size))
              have HG3 := Lib.hid (show ∀ k, G3 k → w.heap.size ≤ k from fun k hk => (hG3 k hk).elim (HG2.out k) (fun q => Nat.le_trans HB2.out.size q))
              have hcv3 := run_conv_str (P := Try.prog) w3 32 9 5 Try.underlying32 Try.underlying5 Try.underlying9 w3.heap.size A3 n3 c3 [] hrd3
              have hlist := OK.out.list w3 a G3 K2 hrg3
              clear hkey hrd3 hap3 hrg3 ht3 hG3
              dsimp only
              repeat (first | go_skip | go_guarded | go_step)
              refine hlist.mono ?_
              rintro e w4 ⟨G4, A4, n4, c4, rfl, hrd4, _, hrg4, ht4, hG4⟩
              have HB4 := Lib.hid (HB3.out.trans (ht4.below (B := w.heap.size) (fun k _ hk => HG3.out k hk) HB3.out.size))
              have HG4 := Lib.hid (show ∀ k, G4 k → w.heap.size ≤ k from fun k hk => (hG4 k hk).elim (HG3.out k) (fun q => Nat.le_trans HB3.out.size q))
              have hn4 : ¬ (32 : Int) < (n4 : Int) := by
                have h1 := hrd4.len1
                have h2 := (OK.out.good hrg4).len
                simp at h1
                omega
              have HRG4 := Lib.hid hrg4
              clear hlist hrd4 hrg4 ht4 hG4
              dsimp only
              repeat (first | go_skip | go_guarded | go_step)
              go_roundw
              case rel => exact ⟨i + 1, G4, K2, _, by omega, rfl, by go_num, by rw [← HLL.out]; rfl, HRG4.out, HG4.out, HB4.out⟩
              case measure => simp [intOf]; omega
            · have hd0 : ((er : Int) == 0) = false := by rw [beq_eq_false_iff_ne]; omega
              have HE : Hid (L2 = rgKey K v) := by
                show L2 = rgKey K v
                rw [hLL, HKY.out, if_neg (fun q => h0 q.2)]
              have HUV := Lib.hid huv
              have H0 := Lib.hid h0
              clear hLL huv h0
              rw [HT.out, show bsOf (rgKey K v) = ⟨L2.toArray⟩ from by rw [← HE.out]; rfl]
              repeat (first | go_skip | go_guarded | go_step)
              refine hop.mono ?_
              rintro e w2 ⟨G2, rfl, hrg2, ht2, hG2⟩
              have hbw2 : Below w.heap.size wr w2 := by first | exact ht2.below (fun k _ hk => HG.out k hk) HBR.out.size | exact (belowDrews (Below.refl _ _) 1).trans (ht2.below (fun k _ hk => HG.out k hk) HBR.out.size)
              have HBW2 := Lib.hid hbw2
              have HB2 := Lib.hid (HBR.out.trans hbw2)
              have HG2 := Lib.hid (show ∀ k, G2 k → w.heap.size ≤ k from fun k hk => (hG2 k hk).elim (HG.out k) (fun q => Nat.le_trans HBR.out.size q))
              have HRG2 := Lib.hid hrg2
              obtain ⟨j0, j1, j2⟩ := HCELL.out w2 hbw2
              clear hop hrg2 ht2 hG2 hc0 hc1 hc2 hbw2
              dsimp only
              have hkey := OK.out.key w2 a G2 K2 v HRG2.out
              rw [key_some (OK.out.good HRG2.out), ← HLL.out] at hkey
              repeat (first | go_skip | go_guarded | go_step)
              refine hkey.mono ?_
              rintro e w3 ⟨G3, A3, n3, c3, rfl, hrd3, hap3, hrg3, ht3, hG3⟩
              have HB3 := Lib.hid (HB2.out.trans (ht3.below (B := w.heap.size) (fun k _ hk => HG2.out k hk) HB2.out.size))
              have HG3 := Lib.hid (show ∀ k, G3 k → w.heap.size ≤ k from fun k hk => (hG3 k hk).elim (HG2.out k) (fun q => Nat.le_trans HB2.out.size q))
              have hcv3 := run_conv_str (P := Try.prog) w3 32 9 5 Try.underlying32 Try.underlying5 Try.underlying9 w3.heap.size A3 n3 c3 L2 hrd3
              have hlist := OK.out.list w3 a G3 K2 hrg3
              clear hkey hrd3 hap3 hrg3 ht3 hG3
              dsimp only
              cases L2 with
              | nil =>
                repeat (first | go_skip | go_guarded | go_step)
                refine hlist.mono ?_
                rintro e w4 ⟨G4, A4, n4, c4, rfl, hrd4, _, hrg4, ht4, hG4⟩
                have HB4 := Lib.hid (HB3.out.trans (ht4.below (B := w.heap.size) (fun k _ hk => HG3.out k hk) HB3.out.size))
                have HG4 := Lib.hid (show ∀ k, G4 k → w.heap.size ≤ k from fun k hk => (hG4 k hk).elim (HG3.out k) (fun q => Nat.le_trans HB3.out.size q))
                have hn4 : ¬ (32 : Int) < (n4 : Int) := by
                  have h1 := hrd4.len1
                  have h2 := (OK.out.good hrg4).len
                  simp at h1
                  omega
                have HRG4 := Lib.hid hrg4
                clear hlist hrd4 hrg4 ht4 hG4
                dsimp only
                repeat (first | go_skip | go_guarded | go_step)
                go_roundw
                case rel => exact ⟨i + 1, G4, K2, _, by omega, rfl, by go_num, by rw [← HLL.out]; rfl, HRG4.out, HG4.out, HB4.out⟩
                case measure => simp [intOf]; omega
              | cons x r =>
                have HNE := Lib.hid (show (⟨(x :: r).toArray⟩ : ByteArray) ≠ ByteArray.empty from fun e => by
                  have h : (⟨(x :: r).toArray⟩ : ByteArray).size = 0 := by rw [e]; rfl
                  simp [ByteArray.size] at h)
                repeat (first | go_skip | go_guarded | go_step)
                refine hlist.mono ?_
                rintro e w4 ⟨G4, A4, n4, c4, rfl, hrd4, _, hrg4, ht4, hG4⟩
                have HB4 := Lib.hid (HB3.out.trans (ht4.below (B := w.heap.size) (fun k _ hk => HG3.out k hk) HB3.out.size))
                have HG4 := Lib.hid (show ∀ k, G4 k → w.heap.size ≤ k from fun k hk => (hG4 k hk).elim (HG3.out k) (fun q => Nat.le_trans HB3.out.size q))
                have hn4 : ¬ (32 : Int) < (n4 : Int) := by
                  have h1 := hrd4.len1
                  have h2 := (OK.out.good hrg4).len
                  simp at h1
                  omega
                have HRG4 := Lib.hid hrg4
                clear hlist hrd4 hrg4 ht4 hG4
                dsimp only
                repeat (first | go_skip | go_guarded | go_step)
                go_roundw
                case rel => exact ⟨i + 1, G4, K2, _, by omega, rfl, by go_num, by rw [← HLL.out]; rfl, HRG4.out, HG4.out, HB4.out⟩
                case measure => simp [intOf]; omega
          · have hdu : ((u.toNat : Int) == (v.toNat : Int)) = false := by
              rw [beq_eq_false_iff_ne]; intro e; exact huv (UInt32.toNat_inj.1 (by omega))
            have HE : Hid (L2 = rgKey K v) := by
              show L2 = rgKey K v
              rw [hLL, HKY.out, if_neg (fun q => huv q.1)]
            have HUV := Lib.hid huv
            clear hLL huv
            rw [HT.out, show bsOf (rgKey K v) = ⟨L2.toArray⟩ from by rw [← HE.out]; rfl]
            repeat (first | go_skip | go_guarded | go_step)
            refine hop.mono ?_
            rintro e w2 ⟨G2, rfl, hrg2, ht2, hG2⟩
            have hbw2 : Below w.heap.size wr w2 := by first | exact ht2.below (fun k _ hk => HG.out k hk) HBR.out.size | exact (belowDrews (Below.refl _ _) 1).trans (ht2.below (fun k _ hk => HG.out k hk) HBR.out.size)
            have HBW2 := Lib.hid hbw2
            have HB2 := Lib.hid (HBR.out.trans hbw2)
            have HG2 := Lib.hid (show ∀ k, G2 k → w.heap.size ≤ k from fun k hk => (hG2 k hk).elim (HG.out k) (fun q => Nat.le_trans HBR.out.size q))
            have HRG2 := Lib.hid hrg2
            obtain ⟨j0, j1, j2⟩ := HCELL.out w2 hbw2
            clear hop hrg2 ht2 hG2 hc0 hc1 hc2 hbw2
            dsimp only
            have hkey := OK.out.key w2 a G2 K2 v HRG2.out
            rw [key_some (OK.out.good HRG2.out), ← HLL.out] at hkey
            repeat (first | go_skip | go_guarded | go_step)
            refine hkey.mono ?_
            rintro e w3 ⟨G3, A3, n3, c3, rfl, hrd3, hap3, hrg3, ht3, hG3⟩
            have HB3 := Lib.hid (HB2.out.trans (ht3.below (B := w.heap.size) (fun k _ hk => HG2.out k hk) HB2.out.size))
            have HG3 := Lib.hid (show ∀ k, G3 k → w.heap.size ≤ k from fun k hk => (hG3 k hk).elim (HG2.out k) (fun q => Nat.le_trans HB2.out.size q))
            have hcv3 := run_conv_str (P := Try.prog) w3 32 9 5 Try.underlying32 Try.underlying5 Try.underlying9 w3.heap.size A3 n3 c3 L2 hrd3
            have hlist := OK.out.list w3 a G3 K2 hrg3
            clear hkey hrd3 hap3 hrg3 ht3 hG3
            dsimp only
            cases L2 with
            | nil =>
              repeat (first | go_skip | go_guarded | go_step)
              refine hlist.mono ?_
              rintro e w4 ⟨G4, A4, n4, c4, rfl, hrd4, _, hrg4, ht4, hG4⟩
              have HB4 := Lib.hid (HB3.out.trans (ht4.below (B := w.heap.size) (fun k _ hk => HG3.out k hk) HB3.out.size))
              have HG4 := Lib.hid (show ∀ k, G4 k → w.heap.size ≤ k from fun k hk => (hG4 k hk).elim (HG3.out k) (fun q => Nat.le_trans HB3.out.size q))
              have hn4 : ¬ (32 : Int) < (n4 : Int) := by
                have h1 := hrd4.len1
                have h2 := (OK.out.good hrg4).len
                simp at h1
                omega
              have HRG4 := Lib.hid hrg4
              clear hlist hrd4 hrg4 ht4 hG4
              dsimp only
              repeat (first | go_skip | go_guarded | go_step)
              go_roundw
              case rel => exact ⟨i + 1, G4, K2, _, by omega, rfl, by go_num, by rw [← HLL.out]; rfl, HRG4.out, HG4.out, HB4.out⟩
              case measure => simp [intOf]; omega
            | cons x r =>
              have HNE := Lib.hid (show (⟨(x :: r).toArray⟩ : ByteArray) ≠ ByteArray.empty from fun e => by
                have h : (⟨(x :: r).toArray⟩ : ByteArray).size = 0 := by rw [e]; rfl
                simp [ByteArray.size] at h)
              repeat (first | go_skip | go_guarded | go_step)
              refine hlist.mono ?_
              rintro e w4 ⟨G4, A4, n4, c4, rfl, hrd4, _, hrg4, ht4, hG4⟩
              have HB4 := Lib.hid (HB3.out.trans (ht4.below (B := w.heap.size) (fun k _ hk => HG3.out k hk) HB3.out.size))
              have HG4 := Lib.hid (show ∀ k, G4 k → w.heap.size ≤ k from fun k hk => (hG4 k hk).elim (HG3.out k) (fun q => Nat.le_trans HB3.out.size q))
              have hn4 : ¬ (32 : Int) < (n4 : Int) := by
                have h1 := hrd4.len1
                have h2 := (OK.out.good hrg4).len
                simp at h1
                omega
              have HRG4 := Lib.hid hrg4
              clear hlist hrd4 hrg4 ht4 hG4
              dsimp only
              repeat (first | go_skip | go_guarded | go_step)
              go_roundw
              case rel => exact ⟨i + 1, G4, K2, _, by omega, rfl, by go_num, by rw [← HLL.out]; rfl, HRG4.out, HG4.out, HB4.out⟩
              case measure => simp [intOf]; omega
        | false =>
          have hop : ∀ V, Below wr.heap.size wr V → Calls Try.prog 11 #[rp a, nr u, .slice Ak nk ck] V fun e w' => ∃ G', e = .returned (.int .i64 ((rgPut K u k).1 : Int)) ∧ Rg w' a G' (rgPut K u k).2 ∧ Turn G V w' ∧ (∀ x, G' x → G x ∨ V.heap.size ≤ x) := fun V hV =>
            OK.out.put V a G K u Ak nk ck w.heap.size k (OK.out.later HRG.out hV) (HRK.out.below (hV.mono HBR.out.size)) (Nat.le_trans HBR.out.size hV.size) hnck (by omega) (fun h0 x hx hg => by
              obtain ⟨b', o', e', hb', _⟩ := HRK.out.2 h0
              rw [e'] at hx
              have := Option.some.inj hx
              have := HG.out x hg
              dsimp only at *
              omega)
          obtain ⟨er, her⟩ : ∃ er, er = (rgPut K u k).1 := ⟨_, rfl⟩
          obtain ⟨K2, hK2⟩ : ∃ K2, K2 = (rgPut K u k).2 := ⟨_, rfl⟩
          have HKY := Lib.hid (show rgKey K2 v = if u = v ∧ er = 0 then k else rgKey K v by rw [hK2, her]; exact key_put (OK.out.good HRG.out) u v k)
          simp only [← her, ← hK2] at hop
          clear her hK2
          obtain ⟨L2, hLL⟩ : ∃ L2, L2 = rgKey K2 v := ⟨_, rfl⟩
          have HLL := Lib.hid hLL
          by_cases huv : u = v
          · have hdu : ((u.toNat : Int) == (v.toNat : Int)) = true := by rw [huv]; simp
            by_cases h0 : er = 0
            · have HE : Hid (L2 = k) := by
                show L2 = k
                rw [hLL, HKY.out, if_pos ⟨huv, h0⟩]
              have HUV := Lib.hid huv
              clear hLL huv
              subst h0
              have he := HE.out
              subst he
              go_upto_region 11 with (fail)
              go_region_with (go_at_call 11; refine (hop _ ?_).mono ?_; (first | exact Below.refl _ _ | exact belowDrews (Below.refl _ _) 1 | exact belowDrews (Below.refl _ _) 2); rintro e w2 ⟨G2, rfl, hrg2, ht2, hG2⟩)
              all_goals
                have hbw2 : Below w.heap.size wr w2 := by first | exact ht2.below (fun k _ hk => HG.out k hk) HBR.out.size | exact (belowDrews (Below.refl _ _) 1).trans (ht2.below (fun k _ hk => HG.out k hk) HBR.out.size)
                have HBW2 := Lib.hid hbw2
                have HB2 := Lib.hid (HBR.out.trans hbw2)
                have HG2 := Lib.hid (show ∀ k, G2 k → w.heap.size ≤ k from fun k hk => (hG2 k hk).elim (HG.out k) (fun q => Nat.le_trans HBR.out.size q))
                have HRG2 := Lib.hid hrg2
                obtain ⟨j0, j1, j2⟩ := HCELL.out w2 hbw2
                clear hop hrg2 ht2 hG2 hc0 hc1 hc2 hbw2
                have hcv2 := run_conv_str (P := Try.prog) w2 32 9 5 Try.underlying32 Try.underlying5 Try.underlying9 w.heap.size Ak nk ck L2 (HRK.out.below HBW2.out)
                have hkey := OK.out.key w2 a G2 K2 v HRG2.out
                rw [key_some (OK.out.good HRG2.out), ← HLL.out] at hkey
                repeat (first | go_skip | go_guarded | go_step)
                refine hkey.mono ?_
                rintro e w3 ⟨G3, A3, n3, c3, rfl, hrd3, hap3, hrg3, ht3, hG3⟩
                have HB3 := Lib.hid (HB2.out.trans (ht3.below (B := w.heap.size) (fun k _ hk => HG2.out k hk) HB2.out.size))
                have HG3 := Lib.hid (show ∀ k, G3 k → w.heap.size ≤ k from fun k hk => (hG3 k hk).elim (HG2.out k) (fun q => Nat.le_trans HB2.out.size q))
                have hcv3 := run_conv_str (P := Try.prog) w3 32 9 5 Try.underlying32 Try.underlying5 Try.underlying9 w3.heap.size A3 n3 c3 L2 hrd3
                have hlist := OK.out.list w3 a G3 K2 hrg3
                clear hkey hrd3 hap3 hrg3 ht3 hG3
                dsimp only
                cases L2 with
                | nil =>
                  repeat (first | go_skip | go_guarded | go_step)
                  refine hlist.mono ?_
                  rintro e w4 ⟨G4, A4, n4, c4, rfl, hrd4, _, hrg4, ht4, hG4⟩
                  have HB4 := Lib.hid (HB3.out.trans (ht4.below (B := w.heap.size) (fun k _ hk => HG3.out k hk) HB3.out.size))
                  have HG4 := Lib.hid (show ∀ k, G4 k → w.heap.size ≤ k from fun k hk => (hG4 k hk).elim (HG3.out k) (fun q => Nat.le_trans HB3.out.size q))
                  have hn4 : ¬ (32 : Int) < (n4 : Int) := by
                    have h1 := hrd4.len1
                    have h2 := (OK.out.good hrg4).len
                    simp at h1
                    omega
                  have HRG4 := Lib.hid hrg4
                  clear hlist hrd4 hrg4 ht4 hG4
                  dsimp only
                  repeat (first | go_skip | go_guarded | go_step)
                  go_roundw
                  case rel => exact ⟨i + 1, G4, K2, _, by omega, rfl, by go_num, by rw [← HLL.out]; rfl, HRG4.out, HG4.out, HB4.out⟩
                  case measure => simp [intOf]; omega
                | cons x r =>
                  have HNE := Lib.hid (show (⟨(x :: r).toArray⟩ : ByteArray) ≠ ByteArray.empty from fun e => by
                    have h : (⟨(x :: r).toArray⟩ : ByteArray).size = 0 := by rw [e]; rfl
                    simp [ByteArray.size] at h)
                  repeat (first | go_skip | go_guarded | go_step)
                  refine hlist.mono ?_
                  rintro e w4 ⟨G4, A4, n4, c4, rfl, hrd4, _, hrg4, ht4, hG4⟩
                  have HB4 := Lib.hid (HB3.out.trans (ht4.below (B := w.heap.size) (fun k _ hk => HG3.out k hk) HB3.out.size))
                  have HG4 := Lib.hid (show ∀ k, G4 k → w.heap.size ≤ k from fun k hk => (hG4 k hk).elim (HG3.out k) (fun q => Nat.le_trans HB3.out.size q))
                  have hn4 : ¬ (32 : Int) < (n4 : Int) := by
                    have h1 := hrd4.len1
                    have h2 := (OK.out.good hrg4).len
                    simp at h1
                    omega
                  have HRG4 := Lib.hid hrg4
                  clear hlist hrd4 hrg4 ht4 hG4
                  dsimp only
                  repeat (first | go_skip | go_guarded | go_step)
                  go_roundw
                  case rel => exact ⟨i + 1, G4, K2, _, by omega, rfl, by go_num, by rw [← HLL.out]; rfl, HRG4.out, HG4.out, HB4.out⟩
                  case measure => simp [intOf]; omega
            · have hd0 : ((er : Int) == 0) = false := by rw [beq_eq_false_iff_ne]; omega
              have HE : Hid (L2 = rgKey K v) := by
                show L2 = rgKey K v
                rw [hLL, HKY.out, if_neg (fun q => h0 q.2)]
              have HUV := Lib.hid huv
              have H0 := Lib.hid h0
              clear hLL huv h0
              rw [HT.out, show bsOf (rgKey K v) = ⟨L2.toArray⟩ from by rw [← HE.out]; rfl]
              go_upto_region 11 with (fail)
              go_region_with (go_at_call 11; refine (hop _ ?_).mono ?_; (first | exact Below.refl _ _ | exact belowDrews (Below.refl _ _) 1 | exact belowDrews (Below.refl _ _) 2); rintro e w2 ⟨G2, rfl, hrg2, ht2, hG2⟩)
              all_goals
                have hbw2 : Below w.heap.size wr w2 := by first | exact ht2.below (fun k _ hk => HG.out k hk) HBR.out.size | exact (belowDrews (Below.refl _ _) 1).trans (ht2.below (fun k _ hk => HG.out k hk) HBR.out.size)
                have HBW2 := Lib.hid hbw2
                have HB2 := Lib.hid (HBR.out.trans hbw2)
                have HG2 := Lib.hid (show ∀ k, G2 k → w.heap.size ≤ k from fun k hk => (hG2 k hk).elim (HG.out k) (fun q => Nat.le_trans HBR.out.size q))
                have HRG2 := Lib.hid hrg2
                obtain ⟨j0, j1, j2⟩ := HCELL.out w2 hbw2
                clear hop hrg2 ht2 hG2 hc0 hc1 hc2 hbw2
                have hkey := OK.out.key w2 a G2 K2 v HRG2.out
                rw [key_some (OK.out.good HRG2.out), ← HLL.out] at hkey
                repeat (first | go_skip | go_guarded | go_step)
                refine hkey.mono ?_
                rintro e w3 ⟨G3, A3, n3, c3, rfl, hrd3, hap3, hrg3, ht3, hG3⟩
                have HB3 := Lib.hid (HB2.out.trans (ht3.below (B := w.heap.size) (fun k _ hk => HG2.out k hk) HB2.out.size))
                have HG3 := Lib.hid (show ∀ k, G3 k → w.heap.size ≤ k from fun k hk => (hG3 k hk).elim (HG2.out k) (fun q => Nat.le_trans HB2.out.size q))
                have hcv3 := run_conv_str (P := Try.prog) w3 32 9 5 Try.underlying32 Try.underlying5 Try.underlying9 w3.heap.size A3 n3 c3 L2 hrd3
                have hlist := OK.out.list w3 a G3 K2 hrg3
                clear hkey hrd3 hap3 hrg3 ht3 hG3
                dsimp only
                cases L2 with
                | nil =>
                  repeat (first | go_skip | go_guarded | go_step)
                  refine hlist.mono ?_
                  rintro e w4 ⟨G4, A4, n4, c4, rfl, hrd4, _, hrg4, ht4, hG4⟩
                  have HB4 := Lib.hid (HB3.out.trans (ht4.below (B := w.heap.size) (fun k _ hk => HG3.out k hk) HB3.out.size))
                  have HG4 := Lib.hid (show ∀ k, G4 k → w.heap.size ≤ k from fun k hk => (hG4 k hk).elim (HG3.out k) (fun q => Nat.le_trans HB3.out.size q))
                  have hn4 : ¬ (32 : Int) < (n4 : Int) := by
                    have h1 := hrd4.len1
                    have h2 := (OK.out.good hrg4).len
                    simp at h1
                    omega
                  have HRG4 := Lib.hid hrg4
                  clear hlist hrd4 hrg4 ht4 hG4
                  dsimp only
                  repeat (first | go_skip | go_guarded | go_step)
                  go_roundw
                  case rel => exact ⟨i + 1, G4, K2, _, by omega, rfl, by go_num, by rw [← HLL.out]; rfl, HRG4.out, HG4.out, HB4.out⟩
                  case measure => simp [intOf]; omega
                | cons x r =>
                  have HNE := Lib.hid (show (⟨(x :: r).toArray⟩ : ByteArray) ≠ ByteArray.empty from fun e => by
                    have h : (⟨(x :: r).toArray⟩ : ByteArray).size = 0 := by rw [e]; rfl
                    simp [ByteArray.size] at h)
                  repeat (first | go_skip | go_guarded | go_step)
                  refine hlist.mono ?_
                  rintro e w4 ⟨G4, A4, n4, c4, rfl, hrd4, _, hrg4, ht4, hG4⟩
                  have HB4 := Lib.hid (HB3.out.trans (ht4.below (B := w.heap.size) (fun k _ hk => HG3.out k hk) HB3.out.size))
                  have HG4 := Lib.hid (show ∀ k, G4 k → w.heap.size ≤ k from fun k hk => (hG4 k hk).elim (HG3.out k) (fun q => Nat.le_trans HB3.out.size q))
                  have hn4 : ¬ (32 : Int) < (n4 : Int) := by
                    have h1 := hrd4.len1
                    have h2 := (OK.out.good hrg4).len
                    simp at h1
                    omega
                  have HRG4 := Lib.hid hrg4
                  clear hlist hrd4 hrg4 ht4 hG4
                  dsimp only
                  repeat (first | go_skip | go_guarded | go_step)
                  go_roundw
                  case rel => exact ⟨i + 1, G4, K2, _, by omega, rfl, by go_num, by rw [← HLL.out]; rfl, HRG4.out, HG4.out, HB4.out⟩
                  case measure => simp [intOf]; omega
          · have hdu : ((u.toNat : Int) == (v.toNat : Int)) = false := by
              rw [beq_eq_false_iff_ne]; intro e; exact huv (UInt32.toNat_inj.1 (by omega))
            have HE : Hid (L2 = rgKey K v) := by
              show L2 = rgKey K v
              rw [hLL, HKY.out, if_neg (fun q => huv q.1)]
            have HUV := Lib.hid huv
            clear hLL huv
            rw [HT.out, show bsOf (rgKey K v) = ⟨L2.toArray⟩ from by rw [← HE.out]; rfl]
            go_upto_region 11 with (fail)
            go_region_with (go_at_call 11; refine (hop _ ?_).mono ?_; (first | exact Below.refl _ _ | exact belowDrews (Below.refl _ _) 1 | exact belowDrews (Below.refl _ _) 2); rintro e w2 ⟨G2, rfl, hrg2, ht2, hG2⟩)
            all_goals
              have hbw2 : Below w.heap.size wr w2 := by first | exact ht2.below (fun k _ hk => HG.out k hk) HBR.out.size | exact (belowDrews (Below.refl _ _) 1).trans (ht2.below (fun k _ hk => HG.out k hk) HBR.out.size)
              have HBW2 := Lib.hid hbw2
              have HB2 := Lib.hid (HBR.out.trans hbw2)
              have HG2 := Lib.hid (show ∀ k, G2 k → w.heap.size ≤ k from fun k hk => (hG2 k hk).elim (HG.out k) (fun q => Nat.le_trans HBR.out.size q))
              have HRG2 := Lib.hid hrg2
              obtain ⟨j0, j1, j2⟩ := HCELL.out w2 hbw2
              clear hop hrg2 ht2 hG2 hc0 hc1 hc2 hbw2
              have hkey := OK.out.key w2 a G2 K2 v HRG2.out
              rw [key_some (OK.out.good HRG2.out), ← HLL.out] at hkey
              repeat (first | go_skip | go_guarded | go_step)
              refine hkey.mono ?_
              rintro e w3 ⟨G3, A3, n3, c3, rfl, hrd3, hap3, hrg3, ht3, hG3⟩
              have HB3 := Lib.hid (HB2.out.trans (ht3.below (B := w.heap.size) (fun k _ hk => HG2.out k hk) HB2.out.size))
              have HG3 := Lib.hid (show ∀ k, G3 k → w.heap.size ≤ k from fun k hk => (hG3 k hk).elim (HG2.out k) (fun q => Nat.le_trans HB2.out.size q))
              have hcv3 := run_conv_str (P := Try.prog) w3 32 9 5 Try.underlying32 Try.underlying5 Try.underlying9 w3.heap.size A3 n3 c3 L2 hrd3
              have hlist := OK.out.list w3 a G3 K2 hrg3
              clear hkey hrd3 hap3 hrg3 ht3 hG3
              dsimp only
              cases L2 with
              | nil =>
                repeat (first | go_skip | go_guarded | go_step)
                refine hlist.mono ?_
                rintro e w4 ⟨G4, A4, n4, c4, rfl, hrd4, _, hrg4, ht4, hG4⟩
                have HB4 := Lib.hid (HB3.out.trans (ht4.below (B := w.heap.size) (fun k _ hk => HG3.out k hk) HB3.out.size))
                have HG4 := Lib.hid (show ∀ k, G4 k → w.heap.size ≤ k from fun k hk => (hG4 k hk).elim (HG3.out k) (fun q => Nat.le_trans HB3.out.size q))
                have hn4 : ¬ (32 : Int) < (n4 : Int) := by
                  have h1 := hrd4.len1
                  have h2 := (OK.out.good hrg4).len
                  simp at h1
                  omega
                have HRG4 := Lib.hid hrg4
                clear hlist hrd4 hrg4 ht4 hG4
                dsimp only
                repeat (first | go_skip | go_guarded | go_step)
                go_roundw
                case rel => exact ⟨i + 1, G4, K2, _, by omega, rfl, by go_num, by rw [← HLL.out]; rfl, HRG4.out, HG4.out, HB4.out⟩
                case measure => simp [intOf]; omega
              | cons x r =>
                have HNE := Lib.hid (show (⟨(x :: r).toArray⟩ : ByteArray) ≠ ByteArray.empty from fun e => by
                  have h : (⟨(x :: r).toArray⟩ : ByteArray).size = 0 := by rw [e]; rfl
                  simp [ByteArray.size] at h)
                repeat (first | go_skip | go_guarded | go_step)
                refine hlist.mono ?_
                rintro e w4 ⟨G4, A4, n4, c4, rfl, hrd4, _, hrg4, ht4, hG4⟩
                have HB4 := Lib.hid (HB3.out.trans (ht4.below (B := w.heap.size) (fun k _ hk => HG3.out k hk) HB3.out.size))
                have HG4 := Lib.hid (show ∀ k, G4 k → w.heap.size ≤ k from fun k hk => (hG4 k hk).elim (HG3.out k) (fun q => Nat.le_trans HB3.out.size q))
                have hn4 : ¬ (32 : Int) < (n4 : Int) := by
                  have h1 := hrd4.len1
                  have h2 := (OK.out.good hrg4).len
                  simp at h1
                  omega
                have HRG4 := Lib.hid hrg4
                clear hlist hrd4 hrg4 ht4 hG4
                dsimp only
                repeat (first | go_skip | go_guarded | go_step)
                go_roundw
                case rel => exact ⟨i + 1, G4, K2, _, by omega, rfl, by go_num, by rw [← HLL.out]; rfl, HRG4.out, HG4.out, HB4.out⟩
                case measure => simp [intOf]; omega
      · obtain rfl : n = i := by omega
        have hci : ¬ (n : Int) < (n : Int) := by omega
        repeat (first | go_skip | go_guarded | go_step)
        refine (WK.out _).mono ?_
        rintro e wz ⟨rfl, hbz⟩
        have HBZ := Lib.hid (HBR.out.trans (hbz.mono HBR.out.size))
        clear hbz
        dsimp only
        repeat (first | go_skip | go_guarded | go_step)
        go_ret
        exact ⟨rfl, HBZ.out⟩

set_option maxRecDepth 100000 in
theorem lifted {Rg : World → Nat → (Nat → Prop) → List RgE → Prop} (ok : RingOk Rg) (os : Os) (started : os.Started) (H : Type) (enc : TypeId × Value → H) :
    ReturnsInHanded {} Try.checked os 4 .any (Rows.ringOnceSpec.pre6 enc Try.prog Try.f4 Rows.ringOnceRow.domain false) (Rows.ringOnceSpec.post enc Try.prog Try.f4 false true false false) := by
  refine returnsInHanded_of_change_sized (C := Try.checked) ownKR started (by kernel_rfl) Try.func4
    (ChangeSpec.witness6 (enc := enc) (C := Try.checked) false ⟨#[], #[.slice none 0 0, .int .u32 0], []⟩ 8 (by kernel_rfl) (by kernel_rfl) (by kernel_rfl) (by kernel_rfl)) ?_
  intro W base args ds gs before hval0 hW hcnd hsz0 _
  have hval : ∀ (j : Nat) t v, Try.f4.params[j]? = some t → args[j]? = some v → Value.okWide Try.prog W .any base t v := hval0
  have hlt : ∀ x ∈ before, x.block < W.heap.size := fun x hx => by simpa using hW.lt x hx
  have hW' := hW
  obtain ⟨p, q, hA0, hV, rfl, hfz, hnd⟩ := hW
  have hA : DataW.TrodAll enc Try.prog W 0 (fun _ => true) true Try.f4.params.toList args.toList ds p := hA0
  rw [Try.params4] at hA hval
  obtain ⟨v0, vs0, d0, ds0, p0, q0, hargs, rfl, rfl, h0, r0⟩ := trodAll_cons hA
  obtain ⟨v1, vs1, d1, ds1, p1, q1, rfl, rfl, rfl, h1, r1⟩ := trodAll_cons r0
  obtain ⟨rfl, rfl, rfl⟩ := trodAll_nil r1
  obtain rfl : args = #[v0, v1] := by cases args; simp_all
  obtain ⟨rfl, rfl⟩ := trodVars_none hV
  obtain ⟨A0, n0, c0, Z0, rfl, hk0, hm0, hr0⟩ := open_steps (hval 0 22 v0 rfl rfl) h0 (fun x hx => hlt x (by simp [hx]))
  obtain ⟨z1, rfl, rfl, rfl, wz1⟩ := open_int Try.underlying31 (hval 1 31 v1 rfl rfl) h1
  obtain ⟨u1, hu1⟩ := u32_ofR wz1
  simp only [nr, Value.int.injEq, true_and] at hu1
  subst hu1
  refine (walkAll ok A0 n0 c0 Z0 u1 W hr0 hk0 hm0).mono fun e W' ⟨he, hg⟩ => ?_
  subst he
  exact ⟨_, rfl, post_law laidOutR rfl (by kernel_rfl) hW' hg rfl Try.underlying4 rfl rfl rfl⟩

theorem proved_of {Rg : World → Nat → (Nat → Prop) → List RgE → Prop} (ok : RingOk Rg) : Rows.RingOnceSaid :=
  OpenClaim.holds_of_wide 4 Try.f4 rfl rfl rfl rfl rfl rfl rfl ⟨rfl, rfl, rfl, rfl, rfl⟩ rfl rfl rfl rfl rfl (by kernel_rfl) Try.func4 (by kernel_rfl)
    (of_decide_eq_true (by kernel_rfl)) (by unfold Func.isWrapper; first | (rw [if_pos (by decide +kernel)]; kernel_rfl) | (rw [if_neg (by decide +kernel)]; exact ⟨rfl, rfl⟩))
    (fun os started H enc _ => lifted ok os started H enc)
#print axioms proved_of
end Go.Proofs.Ytedgigoelhcfnaa.ringOnce
