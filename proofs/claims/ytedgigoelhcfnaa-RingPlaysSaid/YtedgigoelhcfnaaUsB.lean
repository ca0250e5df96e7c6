/- slices.Sort of numbers of 32 bits: the heap. -/
import Derived.Test.YtedgigoelhcfnaaUsA
set_option linter.unusedVariables false
set_option linter.unusedSimpArgs false
namespace Go.Proofs.Ytedgigoelhcfnaa
open Go Go.RowKit

theorem sift_end {lt : UInt32 → UInt32 → Bool} {hi F root : Nat} {d : Array UInt32} (h : ¬ 2 * root + 1 < hi) : Go.Sort.siftDown lt hi F root d = d := by
  rw [Go.Sort.siftDown, dif_pos (by omega)]
theorem sift_ge {lt : UInt32 → UInt32 → Bool} {hi F root ch : Nat} {d : Array UInt32} (h : 2 * root + 1 < hi)
    (hc : (ch = 2 * root + 2 ∧ 2 * root + 2 < hi ∧ lt d[F + (2 * root + 1)]! d[F + (2 * root + 2)]! = true) ∨ (ch = 2 * root + 1 ∧ (¬ 2 * root + 2 < hi ∨ lt d[F + (2 * root + 1)]! d[F + (2 * root + 2)]! = false)))
    (hl : lt d[F + root]! d[F + ch]! = false) : Go.Sort.siftDown lt hi F root d = d := by
  rw [Go.Sort.siftDown, dif_neg (by omega)]
  rcases hc with ⟨rfl, h1, h2⟩ | ⟨rfl, h1⟩
  · rw [if_pos (by rw [show F + (2 * root + 1) + 1 = F + (2 * root + 2) by omega, h2]; simp; omega), if_pos (by rw [hl]; rfl)]
  · rw [if_neg (by
      rcases h1 with h1 | h1
      · simp; omega
      · rw [show F + (2 * root + 1) + 1 = F + (2 * root + 2) by omega, h1]; simp), if_pos (by rw [hl]; rfl)]
theorem sift_step {lt : UInt32 → UInt32 → Bool} {hi F root ch : Nat} {d : Array UInt32} (h : 2 * root + 1 < hi)
    (hc : (ch = 2 * root + 2 ∧ 2 * root + 2 < hi ∧ lt d[F + (2 * root + 1)]! d[F + (2 * root + 2)]! = true) ∨ (ch = 2 * root + 1 ∧ (¬ 2 * root + 2 < hi ∨ lt d[F + (2 * root + 1)]! d[F + (2 * root + 2)]! = false)))
    (hl : lt d[F + root]! d[F + ch]! = true) : Go.Sort.siftDown lt hi F root d = Go.Sort.siftDown lt hi F ch (Go.Sort.swp d (F + root) (F + ch)) := by
  conv => lhs; rw [Go.Sort.siftDown, dif_neg (by omega)]
  rcases hc with ⟨rfl, h1, h2⟩ | ⟨rfl, h1⟩
  · rw [if_pos (by rw [show F + (2 * root + 1) + 1 = F + (2 * root + 2) by omega, h2]; simp; omega), if_neg (by rw [hl]; decide), dif_pos h1]
  · rw [if_neg (by
      rcases h1 with h1 | h1
      · simp; omega
      · rw [show F + (2 * root + 1) + 1 = F + (2 * root + 2) by omega, h1]; simp), if_neg (by rw [hl]; decide)]
theorem sift_size (lt : UInt32 → UInt32 → Bool) (hi F : Nat) : ∀ (n root : Nat) (d : Array UInt32), hi - root ≤ n → (Go.Sort.siftDown lt hi F root d).size = d.size := by
  intro n
  induction n with
  | zero => intro root d h; rw [sift_end (by omega)]
  | succ n ih =>
    intro root d h
    by_cases h1 : 2 * root + 1 < hi
    · by_cases h2 : 2 * root + 2 < hi ∧ lt d[F + (2 * root + 1)]! d[F + (2 * root + 2)]! = true
      · cases h3 : lt d[F + root]! d[F + (2 * root + 2)]! with
        | false => rw [sift_ge h1 (.inl ⟨rfl, h2.1, h2.2⟩) h3]
        | true => rw [sift_step h1 (.inl ⟨rfl, h2.1, h2.2⟩) h3, ih _ _ (by omega), Go.Sort.size_swp]
      · have h4 : ¬ 2 * root + 2 < hi ∨ lt d[F + (2 * root + 1)]! d[F + (2 * root + 2)]! = false := by
          by_cases h5 : 2 * root + 2 < hi
          · right; cases h6 : lt d[F + (2 * root + 1)]! d[F + (2 * root + 2)]! with
            | false => rfl
            | true => exact absurd ⟨h5, h6⟩ h2
          · exact .inl h5
        cases h3 : lt d[F + root]! d[F + (2 * root + 1)]! with
        | false => rw [sift_ge h1 (.inr ⟨rfl, h4⟩) h3]
        | true => rw [sift_step h1 (.inr ⟨rfl, h4⟩) h3, ih _ _ (by omega), Go.Sort.size_swp]
    · rw [sift_end h1]
set_option maxRecDepth 100000 in
set_option maxHeartbeats 8000000 in
theorem usSift (g c lo hi F : Nat) (d : Array UInt32) (rest : List Value) (w : World) (n : Nat) (hn : n = d.size) (hb : BkA w g d rest) (hlo : lo ≤ hi) (hbd : F + hi ≤ n) (hsz : n ≤ 1000000000000) :
    Calls Try.prog 39 #[.slice (some ⟨g, 0, none⟩) n c, .int .i64 (lo : Int), .int .i64 (hi : Int), .int .i64 (F : Int)] w fun e w' => e = .returned (.tuple #[]) ∧ BkA w' g (Go.Sort.siftDown ltU hi F lo d) rest ∧ Turn (fun k => k = g) w w' := by
  have HB := Lib.hid hb
  have HN := Lib.hid hn
  clear hb hn
  go_enter Try.func39, Try.ntmps39
  repeat (first | go_skip | go_guarded | go_step)
  go_loopw [8] (fun q wr => ∃ (r : Nat) (dk : Array UInt32), q = .int .i64 (r : Int) ∧ r ≤ hi ∧ dk.size = n ∧ Go.Sort.siftDown ltU hi F r dk = Go.Sort.siftDown ltU hi F lo d ∧ BkA wr g dk rest ∧ Turn (fun k => k = g) w wr) (fun q _ => hi - (intOf q).toNat)
  case atStart => exact ⟨lo, d, rfl, hlo, HN.out.symm, rfl, HB.out, Turn.refl _ _⟩
  case round =>
    obtain ⟨r, dk, rfl, hr, hdk, hO, hbk, ht⟩ := hrel
    have HO := Lib.hid hO
    have HK := Lib.hid hbk
    have HT := Lib.hid ht
    have HDK := Lib.hid hdk
    clear hO ht
    obtain ⟨ch, hch⟩ : ∃ ch, ch = 2 * r + 1 := ⟨_, rfl⟩
    have e1 : (2 * (r : Int) + 1) = (ch : Int) := by omega
    by_cases h1 : ch < hi
    · have h1i : ¬ (hi : Int) ≤ (ch : Int) := by omega
      obtain ⟨fr, hfr⟩ : ∃ fr, fr = F + r := ⟨_, rfl⟩
      obtain ⟨fc, hfc⟩ : ∃ fc, fc = F + ch := ⟨_, rfl⟩
      have e2 : ((F : Int) + (r : Int)) = (fr : Int) := by omega
      have e3 : ((F : Int) + (ch : Int)) = (fc : Int) := by omega
      have cr := hbk.at_ (i := fr) (by omega)
      have cc := hbk.at_ (i := fc) (by omega)
      have HS := Lib.hid (show ∀ ch2, ((ch2 = 2 * r + 2 ∧ 2 * r + 2 < hi ∧ ltU dk[F + (2 * r + 1)]! dk[F + (2 * r + 2)]! = true) ∨ (ch2 = 2 * r + 1 ∧ (¬ 2 * r + 2 < hi ∨ ltU dk[F + (2 * r + 1)]! dk[F + (2 * r + 2)]! = false))) → (ltU dk[F + r]! dk[F + ch2]! = false → Go.Sort.siftDown ltU hi F lo d = dk) ∧ (ltU dk[F + r]! dk[F + ch2]! = true → Go.Sort.siftDown ltU hi F ch2 (Go.Sort.swp dk (F + r) (F + ch2)) = Go.Sort.siftDown ltU hi F lo d) from fun ch2 hc => ⟨fun hl => by rw [← HO.out]; exact sift_ge (by omega) hc hl, fun hl => by rw [← HO.out]; exact (sift_step (by omega) hc hl).symm⟩)
      have HCH := Lib.hid hch
      have HFR := Lib.hid hfr
      have HFC := Lib.hid hfc
      by_cases h2 : ch + 1 < hi
      · have h2i : ((ch : Int) + 1) < (hi : Int) := by omega
        obtain ⟨fd, hfd⟩ : ∃ fd, fd = F + ch + 1 := ⟨_, rfl⟩
        have e4 : ((fc : Int) + 1) = (fd : Int) := by omega
        have cd := hbk.at_ (i := fd) (by omega)
        have HFD := Lib.hid hfd
        generalize hx : dk[fr]! = x at cr
        generalize hy : dk[fc]! = y at cc
        generalize hz : dk[fd]! = z at cd
        have HX := Lib.hid hx
        have HY := Lib.hid hy
        have HZ := Lib.hid hz
        clear hbk hdk hx hy hz hch hfr hfc hfd
        go_upto_region 3 with (fail)
        go_quiet (refine Calls.quiet_of_same (usLess _ _ _))
        obtain ⟨V, hV, hkV, htV⟩ : ∃ V, V = wr.drewN nq ∧ BkA V g dk rest ∧ Turn (fun k => k = g) w V := ⟨_, rfl, HK.out, usDrew HT.out _⟩
        rw [← hV]
        have HKV := Lib.hid hkV
        have HTV := Lib.hid htV
        have HCH2 := Lib.hid (show ch + 1 = 2 * r + 2 by rw [HCH.out])
        cases hyz : ltU y z with
        | true =>
          have HC := Lib.hid (show ((ch + 1 = 2 * r + 2 ∧ 2 * r + 2 < hi ∧ ltU dk[F + (2 * r + 1)]! dk[F + (2 * r + 2)]! = true) ∨ (ch + 1 = 2 * r + 1 ∧ (¬ 2 * r + 2 < hi ∨ ltU dk[F + (2 * r + 1)]! dk[F + (2 * r + 2)]! = false))) from .inl ⟨HCH2.out, by rw [← HCH2.out]; exact h2, by rw [← HCH2.out, ← HCH.out, ← Nat.add_assoc F ch 1, ← HFD.out, ← HFC.out, HY.out, HZ.out]; exact hyz⟩)
          clear hyz
          obtain ⟨cn, hcn⟩ : ∃ cn, cn = ch + 1 := ⟨_, rfl⟩
          rw [← hcn] at HC
          have e5 : ((ch : Int) + 1) = (cn : Int) := by omega
          have e6 : ((F : Int) + (cn : Int)) = (fd : Int) := by have := HFD.out; omega
          have hrc : r < cn := by have := HCH.out; omega
          have hcnh : cn ≤ hi := by omega
          have HCN := Lib.hid (show F + cn = F + ch + 1 by rw [hcn]; rfl)
          clear hcn
          have c1 := hkV.at_ (i := fr) (by rw [HDK.out, HFR.out]; omega)
          have c2 := hkV.at_ (i := fd) (by rw [HDK.out, HFD.out]; omega)
          rw [HX.out] at c1
          rw [HZ.out] at c2
          clear hV hkV htV
          go_upto_region 5 with (fail)
          go_quiet (refine Calls.quiet_of_same (usLess _ _ _))
          obtain ⟨U, hU, hkU, htU⟩ : ∃ U, U = V.drewN nq ∧ BkA U g dk rest ∧ Turn (fun k => k = g) w U := ⟨_, rfl, HKV.out, usDrew HTV.out _⟩
          rw [← hU]
          have HKU := Lib.hid hkU
          have HTU := Lib.hid htU
          clear c1 c2
          cases hl : ltU x z with
          | false =>
            have HE := Lib.hid ((HS.out cn HC.out).1 (by rw [HCN.out, ← HFR.out, ← HFD.out, HX.out, HZ.out]; exact hl))
            clear hl hU hkU htU
            repeat (first | go_skip | go_guarded | go_step)
            refine bodyPost_ret (results_none rfl _ _ _) rfl ?_
            exact ⟨rfl, by rw [HE.out]; exact HKU.out, HTU.out⟩
          | true =>
            have HE := Lib.hid ((HS.out cn HC.out).2 (by rw [HCN.out, ← HFR.out, ← HFD.out, HX.out, HZ.out]; exact hl))
            have c1 := hkU.at_ (i := fr) (by rw [HDK.out, HFR.out]; omega)
            have c2 := hkU.at_ (i := fd) (by rw [HDK.out, HFD.out]; omega)
            rw [HX.out] at c1
            rw [HZ.out] at c2
            have f1 := hkU.frozen fr
            have f2 := hkU.frozen fd
            have hne : ¬ fr = fd := by rw [HFR.out, HFD.out]; omega
            clear hl hU hkU htU
            repeat (first | go_skip | go_guarded | go_step)
            go_region
            obtain ⟨Z, hZ, hkZ, htZ⟩ : ∃ Z, Z = ((U.setCell { block := g, off := fr } (Value.int IntKind.u32 z.toNat)).setCell { block := g, off := fd } (Value.int IntKind.u32 x.toNat)).drew ∧ BkA Z g (Go.Sort.swp dk fr fd) rest ∧ Turn (fun k => k = g) w Z :=
              ⟨_, rfl, HKU.out.swp (by rw [HDK.out, HFR.out]; omega) (by rw [HDK.out, HFD.out]; omega) HX.out HZ.out, (usSwpT HTU.out g fr fd rfl _ _).drew⟩
            rw [← hZ]
            have HKZ := Lib.hid hkZ
            have HTZ := Lib.hid htZ
            clear hZ hkZ htZ c1 c2 f1 f2
            repeat (first | go_skip | go_guarded | go_step)
            go_roundw
            case rel => exact ⟨cn, _, rfl, by omega, by rw [Go.Sort.size_swp]; exact HDK.out, HE.out, by have := HKZ.out; rw [HFR.out, HFD.out] at this; (try rw [HCN.out]); exact this, HTZ.out⟩
            case measure => simp [intOf]; omega
        | false =>
          have HC := Lib.hid (show ((ch = 2 * r + 2 ∧ 2 * r + 2 < hi ∧ ltU dk[F + (2 * r + 1)]! dk[F + (2 * r + 2)]! = true) ∨ (ch = 2 * r + 1 ∧ (¬ 2 * r + 2 < hi ∨ ltU dk[F + (2 * r + 1)]! dk[F + (2 * r + 2)]! = false))) from .inr ⟨HCH.out, .inr (by rw [← HCH2.out, ← HCH.out, ← Nat.add_assoc F ch 1, ← HFD.out, ← HFC.out, HY.out, HZ.out]; exact hyz)⟩)
          clear hyz
          have hrc : r < ch := by have := HCH.out; omega
          have c1 := hkV.at_ (i := fr) (by rw [HDK.out, HFR.out]; omega)
          have c2 := hkV.at_ (i := fc) (by rw [HDK.out, HFC.out]; omega)
          rw [HX.out] at c1
          rw [HY.out] at c2
          clear hV hkV htV
          go_upto_region 5 with (fail)
          go_quiet (refine Calls.quiet_of_same (usLess _ _ _))
          obtain ⟨U, hU, hkU, htU⟩ : ∃ U, U = V.drewN nq ∧ BkA U g dk rest ∧ Turn (fun k => k = g) w U := ⟨_, rfl, HKV.out, usDrew HTV.out _⟩
          rw [← hU]
          have HKU := Lib.hid hkU
          have HTU := Lib.hid htU
          clear c1 c2
          cases hl : ltU x y with
          | false =>
            have HE := Lib.hid ((HS.out ch HC.out).1 (by rw [show F + ch = F + ch from rfl, ← HFR.out, ← HFC.out, HX.out, HY.out]; exact hl))
            clear hl hU hkU htU
            repeat (first | go_skip | go_guarded | go_step)
            refine bodyPost_ret (results_none rfl _ _ _) rfl ?_
            exact ⟨rfl, by rw [HE.out]; exact HKU.out, HTU.out⟩
          | true =>
            have HE := Lib.hid ((HS.out ch HC.out).2 (by rw [show F + ch = F + ch from rfl, ← HFR.out, ← HFC.out, HX.out, HY.out]; exact hl))
            have c1 := hkU.at_ (i := fr) (by rw [HDK.out, HFR.out]; omega)
            have c2 := hkU.at_ (i := fc) (by rw [HDK.out, HFC.out]; omega)
            rw [HX.out] at c1
            rw [HY.out] at c2
            have f1 := hkU.frozen fr
            have f2 := hkU.frozen fc
            have hne : ¬ fr = fc := by rw [HFR.out, HFC.out]; omega
            clear hl hU hkU htU
            repeat (first | go_skip | go_guarded | go_step)
            go_region
            obtain ⟨Z, hZ, hkZ, htZ⟩ : ∃ Z, Z = ((U.setCell { block := g, off := fr } (Value.int IntKind.u32 y.toNat)).setCell { block := g, off := fc } (Value.int IntKind.u32 x.toNat)).drew ∧ BkA Z g (Go.Sort.swp dk fr fc) rest ∧ Turn (fun k => k = g) w Z :=
              ⟨_, rfl, HKU.out.swp (by rw [HDK.out, HFR.out]; omega) (by rw [HDK.out, HFC.out]; omega) HX.out HY.out, (usSwpT HTU.out g fr fc rfl _ _).drew⟩
            rw [← hZ]
            have HKZ := Lib.hid hkZ
            have HTZ := Lib.hid htZ
            clear hZ hkZ htZ c1 c2 f1 f2
            repeat (first | go_skip | go_guarded | go_step)
            go_roundw
            case rel => exact ⟨ch, _, rfl, by omega, by rw [Go.Sort.size_swp]; exact HDK.out, HE.out, by have := HKZ.out; rw [HFR.out, HFC.out] at this; (try rw [HCN.out]); exact this, HTZ.out⟩
            case measure => simp [intOf]; omega
      · have h2i : ¬ ((ch : Int) + 1) < (hi : Int) := by omega
        have HC := Lib.hid (show ((ch = 2 * r + 2 ∧ 2 * r + 2 < hi ∧ ltU dk[F + (2 * r + 1)]! dk[F + (2 * r + 2)]! = true) ∨ (ch = 2 * r + 1 ∧ (¬ 2 * r + 2 < hi ∨ ltU dk[F + (2 * r + 1)]! dk[F + (2 * r + 2)]! = false))) from .inr ⟨hch, .inl (by omega)⟩)
        have hrc : r < ch := by omega
        generalize hx : dk[fr]! = x at cr
        generalize hy : dk[fc]! = y at cc
        have HX := Lib.hid hx
        have HY := Lib.hid hy
        clear hbk hdk hx hy hch hfr hfc
        go_upto_region 3 with (fail)
        go_quiet (fail)
        obtain ⟨V, hV, hkV, htV⟩ : ∃ V, V = wr.drewN nq ∧ BkA V g dk rest ∧ Turn (fun k => k = g) w V := ⟨_, rfl, HK.out, usDrew HT.out _⟩
        rw [← hV]
        have HKV := Lib.hid hkV
        have HTV := Lib.hid htV
        have c1 := hkV.at_ (i := fr) (by rw [HDK.out, HFR.out]; omega)
        have c2 := hkV.at_ (i := fc) (by rw [HDK.out, HFC.out]; omega)
        rw [HX.out] at c1
        rw [HY.out] at c2
        clear hV hkV htV
        go_upto_region 5 with (fail)
        go_quiet (refine Calls.quiet_of_same (usLess _ _ _))
        obtain ⟨U, hU, hkU, htU⟩ : ∃ U, U = V.drewN nq ∧ BkA U g dk rest ∧ Turn (fun k => k = g) w U := ⟨_, rfl, HKV.out, usDrew HTV.out _⟩
        rw [← hU]
        have HKU := Lib.hid hkU
        have HTU := Lib.hid htU
        clear c1 c2
        cases hl : ltU x y with
        | false =>
          have HE := Lib.hid ((HS.out ch HC.out).1 (by rw [show F + ch = F + ch from rfl, ← HFR.out, ← HFC.out, HX.out, HY.out]; exact hl))
          clear hl hU hkU htU
          repeat (first | go_skip | go_guarded | go_step)
          refine bodyPost_ret (results_none rfl _ _ _) rfl ?_
          exact ⟨rfl, by rw [HE.out]; exact HKU.out, HTU.out⟩
        | true =>
          have HE := Lib.hid ((HS.out ch HC.out).2 (by rw [show F + ch = F + ch from rfl, ← HFR.out, ← HFC.out, HX.out, HY.out]; exact hl))
          have c1 := hkU.at_ (i := fr) (by rw [HDK.out, HFR.out]; omega)
          have c2 := hkU.at_ (i := fc) (by rw [HDK.out, HFC.out]; omega)
          rw [HX.out] at c1
          rw [HY.out] at c2
          have f1 := hkU.frozen fr
          have f2 := hkU.frozen fc
          have hne : ¬ fr = fc := by rw [HFR.out, HFC.out]; omega
          clear hl hU hkU htU
          repeat (first | go_skip | go_guarded | go_step)
          go_region
          obtain ⟨Z, hZ, hkZ, htZ⟩ : ∃ Z, Z = ((U.setCell { block := g, off := fr } (Value.int IntKind.u32 y.toNat)).setCell { block := g, off := fc } (Value.int IntKind.u32 x.toNat)).drew ∧ BkA Z g (Go.Sort.swp dk fr fc) rest ∧ Turn (fun k => k = g) w Z :=
            ⟨_, rfl, HKU.out.swp (by rw [HDK.out, HFR.out]; omega) (by rw [HDK.out, HFC.out]; omega) HX.out HY.out, (usSwpT HTU.out g fr fc rfl _ _).drew⟩
          rw [← hZ]
          have HKZ := Lib.hid hkZ
          have HTZ := Lib.hid htZ
          clear hZ hkZ htZ c1 c2 f1 f2
          repeat (first | go_skip | go_guarded | go_step)
          go_roundw
          case rel => exact ⟨ch, _, rfl, by omega, by rw [Go.Sort.size_swp]; exact HDK.out, HE.out, by have := HKZ.out; rw [HFR.out, HFC.out] at this; (try rw [HCN.out]); exact this, HTZ.out⟩
          case measure => simp [intOf]; omega
    · have h1i : (hi : Int) ≤ (ch : Int) := by omega
      have HE := Lib.hid (show Go.Sort.siftDown ltU hi F lo d = dk by rw [← HO.out, sift_end (by omega)])
      clear hbk hdk hch
      repeat (first | go_skip | go_guarded | go_step)
      go_end0
      exact ⟨rfl, by rw [HE.out]; exact HK.out, HT.out⟩
end Go.Proofs.Ytedgigoelhcfnaa
