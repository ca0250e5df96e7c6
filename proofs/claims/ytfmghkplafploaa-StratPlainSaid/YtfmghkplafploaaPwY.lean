/- Texts, packed: UsK UsQ UsS UsT -/
import Derived.Test.YtfmghkplafploaaPwX
import Derived.Sort.Walk13a
import Derived.Sort.LotD4
import Derived.Sort.LotB
import Derived.Sort.WalkB3
import Derived.Deep.Cut
set_option linter.unusedVariables false
set_option linter.unusedSimpArgs false
namespace Go.Proofs.Ytfmghkplafploaa
open Go Go.RowKit

theorem BkX.turned {w w' : World} {g s x : Nat} (h : BkX w s x) (ht : Turn (fun k => k = g) w w') (hne : s ≠ g) : BkX w' s x := (ht.block s h.lt fun e => hne e).trans h
theorem BkX.swpd {w : World} {g s x i j : Nat} (h : BkX w s x) (hne : s ≠ g) (u v : Value) : BkX ((w.setCell ⟨g, i, none⟩ u).setCell ⟨g, j, none⟩ v).drew s x := (Bk.far (Bk.far h (p := ⟨g, i, none⟩) hne u) (p := ⟨g, j, none⟩) hne v).drew
set_option maxRecDepth 100000 in
set_option maxHeartbeats 8000000 in
theorem usBreak (g c a b : Nat) (d : Array UInt32) (rest : List Value) (w : World) (n : Nat) (hn : n = d.size) (hb : BkA w g d rest) (hab : a + 12 < b) (hbd : b ≤ n) (hsz : n ≤ 1000000000000) :
    Calls Try.prog 46 #[.slice (some ⟨g, 0, none⟩) n c, .int .i64 (a : Int), .int .i64 (b : Int)] w fun e w' =>
      e = .returned (.tuple #[]) ∧ BkA w' g (Go.Sort.breakPatterns d a b) rest ∧ Turn (fun k => k = g) w w' := by
  obtain ⟨L, hL⟩ : ∃ L, b = a + L := ⟨b - a, by omega⟩
  subst hL
  have h8 : 8 ≤ L := by omega
  rw [breakPatterns_eq d a L h8]
  obtain ⟨M, hM⟩ : ∃ M : Nat, M = 1 <<< Go.Sort.bitsLen L := ⟨_, rfl⟩
  have hM1 : 1 ≤ M := by rw [hM, Nat.one_shiftLeft]; exact Nat.two_pow_pos _
  have hM2 : M ≤ 2 * L := by rw [hM, Nat.one_shiftLeft]; exact Go.Sort.two_pow_bitsLen_le (by omega)
  have HM := Lib.hid hM
  obtain ⟨i0, hi0⟩ : ∃ i0, i0 = a + L / 4 * 2 - 1 := ⟨_, rfl⟩
  obtain ⟨q, hq⟩ : ∃ q, q = L / 4 := ⟨_, rfl⟩
  rw [← hM, ← hi0]
  have e0 : (((a + L : Nat) : Int) - (a : Int)) = (L : Int) := by omega
  have e0' : ((a : Int) + (L : Int) - (a : Int)) = (L : Int) := by omega
  have e1 : Int.tdiv (L : Int) 4 = (q : Int) := by rw [Int.tdiv_eq_ediv_of_nonneg (by omega)]; omega
  have hqL : q ≤ L := by omega
  have h8i : (8 : Int) ≤ (L : Int) := by omega
  have hi2 : i0 + 1 = a + q * 2 := by omega
  have hi3 : i0 + 3 < a + L := by omega
  have eK : ((a : Int) + (q : Int) * 2 - 1) = (i0 : Int) := by omega
  have eK2 : ((a : Int) + (q : Int) * 2 + 1) = ((i0 + 2 : Nat) : Int) := by omega
  have hLs : (UInt64.ofNat L).toNat = L := by simp; omega
  have HN := Lib.hid hn
  have HB1 := Lib.hid (hb.alloc (.cells #[.int .u64 (L : Int)] 129))
  have HX1 := Lib.hid (show BkX (w.alloc (.cells #[.int .u64 (L : Int)] 129)) w.heap.size L from Bk.new w 129 [.int .u64 (L : Int)])
  have HT1 := Lib.hid (show Turn (fun k => k = g) w (w.alloc (.cells #[.int .u64 (L : Int)] 129)) from Turn.ofBelow ((Below.refl _ _).alloc (Nat.le_refl _) _))
  have hne : w.heap.size ≠ g := by have := hb.lt; omega
  have HLS := Lib.hid hLs
  have HI0 := Lib.hid hi0
  clear hM hi0 hq hLs hn hb
  go_enter Try.func46, Try.ntmps46
  repeat (first | go_skip | go_guarded | go_step)
  refine (usPow2 L (by omega) _).mono ?_
  rintro e w1 ⟨rfl, rfl⟩
  rw [← HM.out]
  dsimp only
  repeat (first | go_skip | go_guarded | go_step)
  generalize hW1 : w.alloc (.cells #[.int .u64 (L : Int)] 129) = W1 at *
  clear hW1
  go_loopw [9] (fun p wr => ∃ (t : Nat) (r : UInt64) (dk : Array UInt32), p = .int .i64 ((i0 + t : Nat) : Int) ∧ t ≤ 3 ∧ dk.size = n ∧ bpRest a L M i0 (3 - t) t (r, dk) = bpRest a L M i0 3 0 (UInt64.ofNat L, d) ∧ BkX wr w.heap.size r.toNat ∧ BkA wr g dk rest ∧ Turn (fun k => k = g) w wr) (fun p _ => i0 + 3 - (intOf p).toNat)
  case atStart => exact ⟨0, UInt64.ofNat L, d, by first | rfl | go_num, by omega, HN.out.symm, rfl, by rw [HLS.out]; exact HX1.out, HB1.out, HT1.out⟩
  case round =>
    rename World => wr
    obtain ⟨t, r, dk, rfl, ht3, hdk, hR, hx, hbk, ht⟩ := hrel
    have HR := Lib.hid hR
    have HX := Lib.hid hx
    have HK := Lib.hid hbk
    have HT := Lib.hid ht
    have HDK := Lib.hid hdk
    clear hR hx hbk ht hdk
    have eT : ((i0 + t : Nat) : Int) = (i0 : Int) + (t : Int) := by omega
    by_cases h3 : t < 3
    · have h3i : decide (((i0 + t : Nat) : Int) ≤ ((i0 + 2 : Nat) : Int)) = true := by simp; omega
      obtain ⟨p, hp⟩ : ∃ p : Nat, p = i0 + t := ⟨_, rfl⟩
      rw [← hp] at h3i eT ⊢
      have HP := Lib.hid hp
      have hpn : p < n := by omega
      have hpl : p < a + L := by omega
      obtain ⟨R', hR'⟩ : ∃ R' : Nat, R' = (Go.Sort.xorNext r).toNat := ⟨_, rfl⟩
      have hR2 : Go.Sort.xorNextN r.toNat = R' := by rw [hR', Go.Sort.xorNext_toNat]
      have lR' : R' < 18446744073709551616 := by rw [hR']; exact (Go.Sort.xorNext r).toNat_lt
      obtain ⟨O, hO⟩ : ∃ O : Nat, O = R' &&& (M - 1) := ⟨_, rfl⟩
      have lO : O ≤ M - 1 := by rw [hO]; exact Nat.and_le_right
      have eAnd : bits .and .u64 (R' : Int) ((M : Int) - 1) = (O : Int) := by
        rw [show ((M : Int) - 1) = ((M - 1 : Nat) : Int) by omega, bits_and_u64_nat _ _ lR' (by omega), hO]
      have HRR := Lib.hid hR2
      have HO := Lib.hid hO
      have HR' := Lib.hid hR'
      have hd2 : decide ((p : Int) ≤ (i0 : Int) + 2) = true := by simp; omega
      clear hR2 hO hR' eT hp
      repeat (first | go_skip | go_guarded | go_step)
      refine (usNext w.heap.size r.toNat r.toNat_lt wr HX.out).mono ?_
      rintro e w2 ⟨rfl, hx2, ht2⟩
      rw [HRR.out] at hx2 ⊢
      have HX2 := Lib.hid hx2
      have HK2 := Lib.hid (BkA.turned HK.out ht2 hne)
      have HT2 := Lib.hid (HT.out.then_ ht2 fun k h1 h2 => absurd h1 (by show ¬ k < w.heap.size; have h3 : k = w.heap.size := h2; omega))
      clear hx2 ht2
      dsimp only
      by_cases hLO : L ≤ O
      · have hLOi : (L : Int) ≤ (O : Int) := by omega
        obtain ⟨m, hm⟩ : ∃ m : Nat, m = a + (O - L) := ⟨_, rfl⟩
        have hmn : m < n := by omega
        have hST := Lib.hid (show bpRest a L M i0 (3 - t) t (r, dk) = bpRest a L M i0 (3 - (t + 1)) (t + 1) (Go.Sort.xorNext r, Go.Sort.swp dk (i0 + t) m) by rw [hm]; exact bp_step a L M i0 t r dk (O - L) h3 (by rw [← HR'.out, ← HO.out, if_pos hLO]))
        have eM : ((a : Int) + (((O : Int) - (L : Int)))) = (m : Int) := by omega
        have HMM := Lib.hid hm
        clear hm
        have c1 := HK2.out.at_ (i := m) (by rw [HDK.out]; omega)
        have c2 := HK2.out.at_ (i := p) (by rw [HDK.out]; omega)
        generalize hx : dk[m]! = x at c1
        generalize hy : dk[p]! = y at c2
        have HXX := Lib.hid hx
        have HYY := Lib.hid hy
        have f1 := HK2.out.frozen m
        have f2 := HK2.out.frozen p
        clear hx hy
        by_cases hEq : p = m
        · have hxy : y = x := by rw [← HXX.out, ← HYY.out, hEq]
          subst hxy
          subst hEq
          repeat (first | go_skip | go_guarded | go_step)
          go_region
          obtain ⟨Z, hZ, hxZ, hkZ, htZ⟩ : ∃ Z, Z = ((w2.setCell { block := g, off := p } (Value.int IntKind.u32 y.toNat)).setCell { block := g, off := p } (Value.int IntKind.u32 y.toNat)).drew ∧ BkX Z w.heap.size R' ∧ BkA Z g (Go.Sort.swp dk p p) rest ∧ Turn (fun k => k = g) w Z :=
            ⟨_, rfl, BkX.swpd HX2.out hne _ _, HK2.out.swp (by rw [HDK.out]; omega) (by rw [HDK.out]; omega) HYY.out HXX.out, (usSwpT HT2.out g p p rfl _ _).drew⟩
          rw [← hZ]
          have HXZ := Lib.hid hxZ
          have HKZ := Lib.hid hkZ
          have HTZ := Lib.hid htZ
          clear hZ hxZ hkZ htZ c1 c2 f1 f2
          repeat (first | go_skip | go_guarded | go_step)
          go_roundw
          case rel => exact ⟨t + 1, Go.Sort.xorNext r, Go.Sort.swp dk p p, by have := HP.out; first | (congr 1; omega) | go_num, by omega, by rw [Go.Sort.size_swp]; exact HDK.out, by rw [HP.out, ← HR.out, hST.out] ; try rw [← HP.out], by rw [← HR'.out]; exact HXZ.out, HKZ.out, HTZ.out⟩
          case measure => have := HP.out; simp [intOf]; omega
        · have hEq2 : ¬ m = p := fun h => hEq h.symm
          repeat (first | go_skip | go_guarded | go_step)
          go_region
          obtain ⟨Z, hZ, hxZ, hkZ, htZ⟩ : ∃ Z, Z = ((w2.setCell { block := g, off := p } (Value.int IntKind.u32 x.toNat)).setCell { block := g, off := m } (Value.int IntKind.u32 y.toNat)).drew ∧ BkX Z w.heap.size R' ∧ BkA Z g (Go.Sort.swp dk p m) rest ∧ Turn (fun k => k = g) w Z :=
            ⟨_, rfl, BkX.swpd HX2.out hne _ _, HK2.out.swp (by rw [HDK.out]; omega) (by rw [HDK.out]; omega) HYY.out HXX.out, (usSwpT HT2.out g p m rfl _ _).drew⟩
          rw [← hZ]
          have HXZ := Lib.hid hxZ
          have HKZ := Lib.hid hkZ
          have HTZ := Lib.hid htZ
          clear hZ hxZ hkZ htZ c1 c2 f1 f2
          repeat (first | go_skip | go_guarded | go_step)
          go_roundw
          case rel => exact ⟨t + 1, Go.Sort.xorNext r, Go.Sort.swp dk p m, by have := HP.out; first | (congr 1; omega) | go_num, by omega, by rw [Go.Sort.size_swp]; exact HDK.out, by rw [HP.out, ← HR.out, hST.out], by rw [← HR'.out]; exact HXZ.out, HKZ.out, HTZ.out⟩
          case measure => have := HP.out; simp [intOf]; omega
      · have hLOi : ¬ (L : Int) ≤ (O : Int) := by omega
        obtain ⟨m, hm⟩ : ∃ m : Nat, m = a + (O) := ⟨_, rfl⟩
        have hmn : m < n := by omega
        have hST := Lib.hid (show bpRest a L M i0 (3 - t) t (r, dk) = bpRest a L M i0 (3 - (t + 1)) (t + 1) (Go.Sort.xorNext r, Go.Sort.swp dk (i0 + t) m) by rw [hm]; exact bp_step a L M i0 t r dk (O) h3 (by rw [← HR'.out, ← HO.out, if_neg hLO]))
        have eM : ((a : Int) + ((O : Int))) = (m : Int) := by omega
        have HMM := Lib.hid hm
        clear hm
        have c1 := HK2.out.at_ (i := m) (by rw [HDK.out]; omega)
        have c2 := HK2.out.at_ (i := p) (by rw [HDK.out]; omega)
        generalize hx : dk[m]! = x at c1
        generalize hy : dk[p]! = y at c2
        have HXX := Lib.hid hx
        have HYY := Lib.hid hy
        have f1 := HK2.out.frozen m
        have f2 := HK2.out.frozen p
        clear hx hy
        by_cases hEq : p = m
        · have hxy : y = x := by rw [← HXX.out, ← HYY.out, hEq]
          subst hxy
          subst hEq
          repeat (first | go_skip | go_guarded | go_step)
          go_region
          obtain ⟨Z, hZ, hxZ, hkZ, htZ⟩ : ∃ Z, Z = ((w2.setCell { block := g, off := p } (Value.int IntKind.u32 y.toNat)).setCell { block := g, off := p } (Value.int IntKind.u32 y.toNat)).drew ∧ BkX Z w.heap.size R' ∧ BkA Z g (Go.Sort.swp dk p p) rest ∧ Turn (fun k => k = g) w Z :=
            ⟨_, rfl, BkX.swpd HX2.out hne _ _, HK2.out.swp (by rw [HDK.out]; omega) (by rw [HDK.out]; omega) HYY.out HXX.out, (usSwpT HT2.out g p p rfl _ _).drew⟩
          rw [← hZ]
          have HXZ := Lib.hid hxZ
          have HKZ := Lib.hid hkZ
          have HTZ := Lib.hid htZ
          clear hZ hxZ hkZ htZ c1 c2 f1 f2
          repeat (first | go_skip | go_guarded | go_step)
          go_roundw
          case rel => exact ⟨t + 1, Go.Sort.xorNext r, Go.Sort.swp dk p p, by have := HP.out; first | (congr 1; omega) | go_num, by omega, by rw [Go.Sort.size_swp]; exact HDK.out, by rw [HP.out, ← HR.out, hST.out] ; try rw [← HP.out], by rw [← HR'.out]; exact HXZ.out, HKZ.out, HTZ.out⟩
          case measure => have := HP.out; simp [intOf]; omega
        · have hEq2 : ¬ m = p := fun h => hEq h.symm
          repeat (first | go_skip | go_guarded | go_step)
          go_region
          obtain ⟨Z, hZ, hxZ, hkZ, htZ⟩ : ∃ Z, Z = ((w2.setCell { block := g, off := p } (Value.int IntKind.u32 x.toNat)).setCell { block := g, off := m } (Value.int IntKind.u32 y.toNat)).drew ∧ BkX Z w.heap.size R' ∧ BkA Z g (Go.Sort.swp dk p m) rest ∧ Turn (fun k => k = g) w Z :=
            ⟨_, rfl, BkX.swpd HX2.out hne _ _, HK2.out.swp (by rw [HDK.out]; omega) (by rw [HDK.out]; omega) HYY.out HXX.out, (usSwpT HT2.out g p m rfl _ _).drew⟩
          rw [← hZ]
          have HXZ := Lib.hid hxZ
          have HKZ := Lib.hid hkZ
          have HTZ := Lib.hid htZ
          clear hZ hxZ hkZ htZ c1 c2 f1 f2
          repeat (first | go_skip | go_guarded | go_step)
          go_roundw
          case rel => exact ⟨t + 1, Go.Sort.xorNext r, Go.Sort.swp dk p m, by have := HP.out; first | (congr 1; omega) | go_num, by omega, by rw [Go.Sort.size_swp]; exact HDK.out, by rw [HP.out, ← HR.out, hST.out], by rw [← HR'.out]; exact HXZ.out, HKZ.out, HTZ.out⟩
          case measure => have := HP.out; simp [intOf]; omega
    · have ht0 : t = 3 := by omega
      subst ht0
      have h3i : decide (((i0 + 3 : Nat) : Int) ≤ ((i0 + 2 : Nat) : Int)) = false := by simp
      have h3d : decide ((i0 : Int) + 3 ≤ (i0 : Int) + 2) = false := by simp
      repeat (first | go_skip | go_guarded | go_step)
      go_end0
      exact ⟨rfl, by rw [← HR.out]; exact HK.out, HT.out⟩
end Go.Proofs.Ytfmghkplafploaa

set_option linter.unusedVariables false
set_option linter.unusedSimpArgs false
namespace Go.Proofs.Ytfmghkplafploaa
open Go Go.RowKit Go.Sort

/-- The block holds d, behind it what was there; nothing else is turned. -/
structure AtU (w : World) (g : Nat) (rest : List Value) (d : Array UInt32) (wr : World) : Prop where
  bk : BkA wr g d rest
  tn : Turn (fun k => k = g) w wr
theorem AtU.step {w wr w1 : World} {g : Nat} {rest : List Value} {d d' : Array UInt32} (h : AtU w g rest d wr) (h1 : BkA w1 g d' rest) (h2 : Turn (fun k => k = g) wr w1) : AtU w g rest d' w1 := ⟨h1, h.tn.trans h2⟩
theorem AtU.ahead {w wr : World} {g : Nat} {rest : List Value} {d : Array UInt32} (h : AtU w g rest d wr) (m : Nat) : AtU w g rest d (wr.drewN m) := ⟨h.bk, usDrew h.tn _⟩
theorem hintTwo {h : Hint} (e : hintCode h = 2) : h = .decreasing := by cases h <;> simp [hintCode] at e ⊢
theorem eighthU {x y p q : Nat} (h1 : q ≤ p) (h2 : y ≤ x) : decide (((x : Int) - (y : Int)) / 8 ≤ (p : Int) - (q : Int)) = decide (p - q ≥ (x - y) / 8) :=
  decide_eq_decide.2 ⟨fun h => by omega, fun h => by omega⟩
set_option maxHeartbeats 12800000 in
set_option maxRecDepth 1000000 in
theorem usPdq : ∀ (N g c a b limit n : Nat) (d : Array UInt32) (rest : List Value) (w : World), b - a < N → d.size = n → BkA w g d rest → a ≤ b → b ≤ n → n ≤ 1000000000000 → limit < 4611686018427387904 → Below ltU a b d →
    Calls Try.prog 29 #[.slice (some ⟨g, 0, none⟩) n c, .int .i64 (a : Int), .int .i64 (b : Int), .int .i64 (limit : Int)] w fun e w' => e = .returned (.tuple #[]) ∧ AtU w g rest (pdq ltU d a b limit true true) w' := by
  intro N
  induction N with
  | zero => intro _ _ _ _ _ _ _ _ _ h; exact absurd h (Nat.not_lt_zero _)
  | succ N ih =>
    intro g c a b limit n d rest w hN hn hH hab hb hsz hlimit hBel0
    have HNN := Lib.hid hn
    have HH := Lib.hid (AtU.mk hH (Turn.refl (fun k => k = g) w))
    have hsz2 : n < 4611686018427387904 := by omega
    clear hH hn
    go_enter Try.func29, Try.ntmps29
    go_wp2
    go_loopg [1, 2, 3, 8, 9] (b - a) (fun k s1 s2 s3 s8 s9 wr => ∃ (a' b' lim : Nat) (wb wp : Bool) (dk : Array UInt32), s1 = .int .i64 a' ∧ s2 = .int .i64 b' ∧ s3 = .int .i64 lim ∧ s8 = .bool wb ∧ s9 = .bool wp ∧
      a' ≤ b' ∧ b' ≤ n ∧ b' - a' ≤ k ∧ k ≤ b - a ∧ lim ≤ limit ∧ dk.size = n ∧ Below ltU a' b' dk ∧ AtU w g rest dk wr ∧ pdq ltU dk a' b' lim wb wp = pdq ltU d a b limit true true)
    case atStart => exact ⟨a, b, limit, true, true, d, rfl, rfl, rfl, rfl, rfl, hab, hb, Nat.le_refl _, Nat.le_refl _, Nat.le_refl _, HNN.out, hBel0, HH.out, rfl⟩
    case round =>
      obtain ⟨a', b', lim, wb, wp, dk, rfl, rfl, rfl, rfl, rfl, hab', hb', hk, hkN, hlim, hds, hBel, hAt, heq⟩ := hrel
      have A := Lib.hid heq
      have HDS := Lib.hid hds
      clear heq
      by_cases h12 : b' - a' ≤ 12
      · have h12z : (b' : Int) - (a' : Int) ≤ 12 := by omega
        have hc := usIns g c a' b' dk rest wr hAt.bk hab' (by omega) (by omega)
        rw [hds] at hc
        clear hds
        go_wp2_with (go_at_call 44; refine hc.mono ?_; rintro e w1 ⟨rfl, hk1, ht1⟩)
        (try simp only [Exit.inBlock, Exit.then]); refine bodyPost_ret (results_none rfl _ _ _) rfl ?_
        refine ⟨rfl, ?_⟩
        rw [← A.out, pdq_small h12]
        exact hAt.step hk1 ht1
      · have h12z : ¬ ((b' : Int) - (a' : Int) ≤ 12) := by omega
        by_cases hl0 : lim = 0
        · subst hl0
          have hc := usHeap g c a' b' dk rest wr n hds.symm hAt.bk (by omega) (by omega) hsz
          clear hds
          go_wp2_with (go_at_call 45; refine hc.mono ?_; rintro e w1 ⟨rfl, hk1, ht1⟩)
          (try simp only [Exit.inBlock, Exit.then]); refine bodyPost_ret (results_none rfl _ _ _) rfl ?_
          refine ⟨rfl, ?_⟩
          rw [← A.out, pdq_heap h12 rfl]
          exact hAt.step hk1 ht1
        · have hl0z : ¬ ((lim : Int) = 0) := by omega
          obtain ⟨s1, B1, hc1, s2, B2, hpv, s3, B3⟩ := rd_facts (limit := lim) (wb := wb) (wp := wp) swo_ltU partialInsertionSort_holds reverseRange_holds (show a' < b' by omega) (show b' ≤ dk.size by omega) hBel
          have S1 := Lib.hid (s1.trans hds)
          have S2 := Lib.hid (s2.trans hds)
          have S3 := Lib.hid (s3.trans hds)
          have hx0 : a' + 12 < b' := by omega
          clear s1 s2 s3 hds
          go_upto_if 35 with fail
          go_cut [3] from 19 (fun s3 wc => s3 = .int .i64 (rd ltU dk a' b' lim wb wp).lim ∧ AtU w g rest (rd ltU dk a' b' lim wb wp).d1 wc)
          case first =>
            cases wb
            · have hc := usBreak g c a' b' dk rest wr n HDS.out.symm hAt.bk hx0 (by omega) hsz
              go_wp2_with (go_at_call 46; refine hc.mono ?_; rintro e w1 ⟨rfl, hk1, ht1⟩)
              go_meet
              case rel =>
                refine ⟨?_, hAt.step hk1 ht1⟩
                show Value.int .i64 ((lim : Int) - 1) = Value.int .i64 ((lim - 1 : Nat) : Int)
                congr 1
                omega
            · go_wp2_with fail
              go_meet
              case rel => exact ⟨rfl, hAt⟩
          case rest =>
            obtain ⟨rfl, hAt1⟩ := hcut
            have hc17 : Calls Try.prog 47 #[.slice (some ⟨g, 0, none⟩) n c, .int .i64 (a' : Int), .int .i64 (b' : Int)] wc fun e w' => e = .returned (.tuple #[.int .i64 (rd ltU dk a' b' lim wb wp).c.1, .int .i64 (hintCode (rd ltU dk a' b' lim wb wp).c.2)]) ∧ BkA w' g (rd ltU dk a' b' lim wb wp).d1 rest ∧ Turn (fun k => k = g) wc w' :=
              usPivot g c a' b' (rd ltU dk a' b' lim wb wp).d1 rest wc n S1.out.symm hAt1.bk hx0 (by omega) hsz
            go_upto_if 50 with (go_at_call 47; refine hc17.mono ?_; rintro e w2 ⟨rfl, hk2, ht2⟩)
            have hAt2 : AtU w g rest (rd ltU dk a' b' lim wb wp).d1 w2 := hAt1.step hk2 ht2
            clear hk2 ht2
            go_cut [11, 12] from 19 (fun s11 s12 wc => s11 = .int .i64 (rd ltU dk a' b' lim wb wp).pivot ∧ s12 = .int .i64 (hintCode (rd ltU dk a' b' lim wb wp).hint) ∧ AtU w g rest (rd ltU dk a' b' lim wb wp).d2 wc)
            case first =>
              by_cases hh : (rd ltU dk a' b' lim wb wp).c.2 = .decreasing
              · have hcode : hintCode (rd ltU dk a' b' lim wb wp).c.2 = 2 := by rw [hh]; rfl
                obtain ⟨e2, epv, eht⟩ := rd_dec hh
                have E2 := Lib.hid e2
                have EPV := Lib.hid epv
                have EHT := Lib.hid eht
                have hc18 := usRev g c a' b' (rd ltU dk a' b' lim wb wp).d1 rest w2 hAt2.bk (by omega) (by rw [S1.out]; omega) (by rw [S1.out]; omega)
                rw [S1.out] at hc18
                clear e2 epv eht hh
                go_wp2_with (go_at_call 48; refine hc18.mono ?_; rintro e w3 ⟨rfl, hk3, ht3⟩)
                go_meet
                case rel =>
                  refine ⟨?_, by rw [EHT.out]; rfl, by rw [E2.out]; exact hAt2.step hk3 ht3⟩
                  rw [EPV.out]
                  congr 1
                  omega
              · have hcode : ¬ (hintCode (rd ltU dk a' b' lim wb wp).c.2 = 2) := fun h => hh (hintTwo h)
                obtain ⟨e2, epv, eht⟩ := rd_not hh
                have E2 := Lib.hid e2
                have EPV := Lib.hid epv
                have EHT := Lib.hid eht
                clear e2 epv eht
                go_wp2_with fail
                go_meet
                case rel => exact ⟨by rw [EPV.out], by rw [EHT.out], by rw [E2.out]; exact hAt2⟩
            case rest =>
              obtain ⟨rfl, rfl, hAt3⟩ := hcut
              go_upto_region 15 with fail
              go_cut [12, 68] from 19 (fun s12 s68 wx => s12 = .int .i64 (hintCode (rd ltU dk a' b' lim wb wp).hint) ∧ s68 = .bool (wb && wp && decide ((rd ltU dk a' b' lim wb wp).hint = .increasing)) ∧ wx = wc)
              case first =>
                cases wb <;> cases wp <;> cases hh3 : (rd ltU dk a' b' lim _ _).hint <;>
                  (have hcode3 := congrArg hintCode hh3
                   simp only [hintCode] at hcode3
                   go_wp2_with fail
                   go_meet
                   exact ⟨by simp [hh3, hintCode], by simp [hh3, hintCode], rfl⟩)
              case rest =>
                obtain ⟨rfl, rfl, rfl⟩ := hcut
                go_upto_if 68 with fail
                go_cut [] from 19 (fun wx => (rd ltU dk a' b' lim wb wp).pi.2 = false ∧ AtU w g rest (rd ltU dk a' b' lim wb wp).pi.1 wx)
                case first =>
                  cases h68 : (wb && wp && decide ((rd ltU dk a' b' lim wb wp).hint = .increasing))
                  · have epi := Lib.hid (rd_pi_no h68)
                    go_wp2_with fail
                    go_meet
                    case rel => exact ⟨by rw [epi.out], by rw [epi.out]; exact hAt3⟩
                  · have epi := Lib.hid (rd_pi_yes h68)
                    have hc19 := usPins g c a' b' (rd ltU dk a' b' lim wb wp).d2 rest wc n S2.out.symm hAt3.bk (by omega) (by omega) hsz
                    rw [← epi.out] at hc19
                    go_wp2_with (go_at_call 49; refine hc19.mono ?_; rintro e w4 ⟨rfl, hk4, ht4⟩)
                    all_goals first
                      | (have hp2 : (rd ltU dk a' b' lim wb wp).pi.2 = false := by assumption
                         go_meet
                         exact ⟨hp2, hAt3.step hk4 ht4⟩)
                      | (have hp2 : (rd ltU dk a' b' lim wb wp).pi.2 = true := by assumption
                         (try simp only [Exit.inBlock, Exit.then]); refine bodyPost_ret (results_none rfl _ _ _) rfl ?_
                         refine ⟨rfl, ?_⟩
                         rw [← A.out, pdq_done h12 hl0 hp2]
                         exact hAt3.step hk4 ht4)
                case rest =>
                  obtain ⟨hp2, hAt5⟩ := hcut
                  have HP2 := Lib.hid hp2
                  obtain ⟨pv, hpve⟩ : ∃ pv, pv = (rd ltU dk a' b' lim wb wp).pivot := ⟨_, rfl⟩
                  rw [← hpve] at hpv ⊢
                  have HPV := Lib.hid hpve
                  obtain ⟨D, hD⟩ : ∃ D, D = (rd ltU dk a' b' lim wb wp).pi.1 := ⟨_, rfl⟩
                  rw [← hD] at B3 hAt5
                  have HD := Lib.hid hD
                  have SD := Lib.hid (show D.size = n by rw [hD]; exact S3.out)
                  clear hp2 hpve hD
                  go_upto_region 17 with fail
                  go_cut [87] from 19 (fun s87 wx => s87 = .bool (decide (a' > 0) && !ltU D[a' - 1]! D[pv]!) ∧ AtU w g rest D wx)
                  case first =>
                    rcases Nat.eq_zero_or_pos a' with ha0 | ha0
                    · have ha0z : decide ((a' : Int) > 0) = false := decide_eq_false (by omega)
                      go_big_quiet (first | (go_at_call 31; refine Calls.quiet_of_same (usLess _ _ _)))
                      go_wp2_with fail
                      go_meet
                      case rel => exact ⟨by simp [ha0], hAt5.ahead nq⟩
                    · have ha0z : (a' : Int) > 0 := by omega
                      have k1 := hAt5.bk.at_ (i := a' - 1) (by rw [SD.out]; omega)
                      have k2 := hAt5.bk.at_ (i := pv) (by rw [SD.out]; omega)
                      have hjw : ((a' : Int) - 1) = ((a' - 1 : Nat) : Int) := by omega
                      go_big_quiet (first | (go_at_call 31; refine Calls.quiet_of_same (usLess _ _ _)))
                      go_wp2_with fail
                      go_meet
                      case rel => exact ⟨by simp [ha0], hAt5.ahead nq⟩
                  case rest =>
                    obtain ⟨rfl, hAt6⟩ := hcut
                    cases h87 : (decide (a' > 0) && !ltU D[a' - 1]! D[pv]!)
                    · obtain ⟨mid, ap, d4, hx⟩ : ∃ mid ap d4, partition ltU D a' b' pv = (mid, ap, d4) := ⟨(partition ltU D a' b' pv).1, (partition ltU D a' b' pv).2.1, (partition ltU D a' b' pv).2.2, rfl⟩
                      obtain ⟨r1, r2, r3, r4, r5, r6, r7⟩ := round_part swo_ltU (partition_holds _) hpv.1 hpv.2 (show b' ≤ D.size by rw [SD.out]; omega) B3 hx
                      have hc22 := usPart g c a' b' pv D rest wc n SD.out.symm hAt6.bk hpv.1 hpv.2 (by omega) hsz
                      rw [hx] at hc22
                      have X := Lib.hid hx
                      have R3 := Lib.hid (r3.trans SD.out)
                      have H87 := Lib.hid h87
                      clear hx r3 h87
                      go_upto_if 113 with (go_at_call 51; refine hc22.mono ?_; rintro e w7 ⟨rfl, hk7, ht7⟩)
                      have hAt7 : AtU w g rest d4 w7 := hAt6.step hk7 ht7
                      by_cases h4 : mid - a' < b' - mid
                      · have h4z : (mid : Int) - (a' : Int) < (b' : Int) - (mid : Int) := by omega
                        have hih := ih g c a' mid (rd ltU dk a' b' lim wb wp).lim n d4 rest w7 (by omega) R3.out hAt7.bk (by omega) (by omega) hsz (Nat.lt_of_le_of_lt (Nat.le_trans rd_lim_le hlim) hlimit) r4
                        obtain ⟨pL, sL⟩ := pdq_sorts ltU swo_ltU d4 a' mid (rd ltU dk a' b' lim wb wp).lim true true (by omega) (by rw [R3.out]; omega) r4
                        have R6 := Lib.hid (r6 _ pL sL).1
                        have PL := Lib.hid (pL.1.trans R3.out)
                        clear pL sL r6 r7
                        go_wp2_with (go_at_call 29; refine hih.mono ?_; rintro e w8 ⟨rfl, hw8⟩)
                        go_roundg (b' - (mid + 1))
                        case measure => omega
                        case rel =>
                          refine ⟨mid + 1, b', (rd ltU dk a' b' lim wb wp).lim, decide (mid - a' ≥ (b' - a') / 8), ap, pdq ltU d4 a' mid (rd ltU dk a' b' lim wb wp).lim true true, by simp, rfl, rfl, ?_, rfl, by omega, by omega, Nat.le_refl _, by omega, Nat.le_trans rd_lim_le hlim, PL.out, R6.out, hAt7.step hw8.bk hw8.tn, ?_⟩
                          · exact congrArg Value.bool (eighthU (by omega) (by omega))
                          · have hx := X.out
                            have h87 := H87.out
                            rw [HD.out, HPV.out] at hx h87
                            rw [← A.out, pdq_left h12 hl0 HP2.out h87 (by rw [hx]; exact ⟨r1, r2⟩) (by rw [hx]; exact h4), hx]
                      · have h4z : ¬ ((mid : Int) - (a' : Int) < (b' : Int) - (mid : Int)) := by omega
                        have hih := ih g c (mid + 1) b' (rd ltU dk a' b' lim wb wp).lim n d4 rest w7 (by omega) R3.out hAt7.bk (by omega) (by omega) hsz (Nat.lt_of_le_of_lt (Nat.le_trans rd_lim_le hlim) hlimit) r5
                        obtain ⟨pL, sL⟩ := pdq_sorts ltU swo_ltU d4 (mid + 1) b' (rd ltU dk a' b' lim wb wp).lim true true (by omega) (by rw [R3.out]; omega) r5
                        have R7 := Lib.hid (r7 _ pL sL).1
                        have PL := Lib.hid (pL.1.trans R3.out)
                        clear pL sL r6 r7
                        go_wp2_with (go_at_call 29; refine hih.mono ?_; rintro e w8 ⟨rfl, hw8⟩)
                        go_roundg (mid - a')
                        case measure => omega
                        case rel =>
                          refine ⟨a', mid, (rd ltU dk a' b' lim wb wp).lim, decide (b' - mid ≥ (b' - a') / 8), ap, pdq ltU d4 (mid + 1) b' (rd ltU dk a' b' lim wb wp).lim true true, rfl, rfl, rfl, ?_, rfl, by omega, by omega, Nat.le_refl _, by omega, Nat.le_trans rd_lim_le hlim, PL.out, R7.out, hAt7.step hw8.bk hw8.tn, ?_⟩
                          · exact congrArg Value.bool (eighthU (by omega) (by omega))
                          · have hx := X.out
                            have h87 := H87.out
                            rw [HD.out, HPV.out] at hx h87
                            rw [← A.out, pdq_right h12 hl0 HP2.out h87 (by rw [hx]; exact ⟨r1, r2⟩) (by rw [hx]; exact h4), hx]
                    · have h87' := h87
                      simp only [Bool.and_eq_true, decide_eq_true_eq, Bool.not_eq_true'] at h87'
                      obtain ⟨mid, d4, hx⟩ : ∃ mid d4, partitionEqual ltU D a' b' pv = (mid, d4) := ⟨(partitionEqual ltU D a' b' pv).1, (partitionEqual ltU D a' b' pv).2, rfl⟩
                      obtain ⟨r1, r2, r3, r4, _⟩ := round_eq swo_ltU (partitionEqual_holds _) h87'.1 hpv.1 hpv.2 (show b' ≤ D.size by rw [SD.out]; omega) B3 h87'.2 hx
                      have hc21 := usPartEq g c a' b' pv D rest wc n SD.out.symm hAt6.bk hpv.1 hpv.2 (by omega) hsz
                      rw [hx] at hc21
                      have X := Lib.hid hx
                      have R3 := Lib.hid (r3.trans SD.out)
                      have H87 := Lib.hid h87
                      clear hx r3 h87 h87'
                      go_wp2_with (go_at_call 50; refine hc21.mono ?_; rintro e w7 ⟨rfl, hk7, ht7⟩)
                      go_roundg (b' - mid)
                      case measure => omega
                      case rel =>
                        have hx := X.out
                        have h87 := H87.out
                        rw [HD.out, HPV.out] at hx h87
                        exact ⟨mid, b', (rd ltU dk a' b' lim wb wp).lim, wb, wp, d4, rfl, rfl, rfl, rfl, rfl, r2, hb', Nat.le_refl _, by omega, Nat.le_trans rd_lim_le hlim, R3.out, r4, hAt6.step hk7 ht7, by rw [← A.out, pdq_eq h12 hl0 HP2.out h87 (by rw [hx]; exact ⟨r1, r2⟩), hx]⟩
end Go.Proofs.Ytfmghkplafploaa

set_option linter.unusedVariables false
set_option linter.unusedSimpArgs false
namespace Go.Proofs.Ytfmghkplafploaa
open Go Go.RowKit Go.Sort

set_option maxRecDepth 100000 in
theorem usSort (g c n : Nat) (d : Array UInt32) (rest : List Value) (w : World) (hn : d.size = n) (hb : BkA w g d rest) (hsz : n ≤ 1000000000000) :
    Calls Try.prog 19 #[.slice (some ⟨g, 0, none⟩) n c] w fun e w' => e = .returned (.tuple #[]) ∧ BkA w' g (Go.Sort.sort ltU d) rest ∧ Turn (fun k => k = g) w w' := by
  have hk : Go.Sort.bitsLen n ≤ 62 := (Go.Sort.bitsLen_le_iff n 62).2 (by omega)
  have HP := Lib.hid (usPdq (n + 1) g c 0 n (Go.Sort.bitsLen n) n d rest w (by omega) hn hb (Nat.zero_le _) (Nat.le_refl _) hsz (by omega) (Or.inl rfl))
  have HE := Lib.hid (show Go.Sort.sort ltU d = pdq ltU d 0 n (Go.Sort.bitsLen n) true true by unfold Go.Sort.sort; rw [hn])
  clear hb hn
  go_enter Try.func19, Try.ntmps19
  repeat (first | go_skip | go_guarded | go_step)
  refine (usLen n (by omega) _).mono ?_
  rintro e w' ⟨rfl, rfl⟩
  dsimp only
  repeat (first | go_skip | go_guarded | go_step)
  refine HP.out.mono ?_
  rintro e w' ⟨rfl, h⟩
  have H := Lib.hid h
  clear h
  dsimp only
  repeat (first | go_skip | go_guarded | go_step)
  go_end0
  exact ⟨rfl, by rw [HE.out]; exact H.out.bk, H.out.tn⟩
end Go.Proofs.Ytfmghkplafploaa

set_option linter.unusedVariables false
set_option linter.unusedSimpArgs false
namespace Go.Proofs.Ytfmghkplafploaa
open Go Go.RowKit Go.Sort

/-- The row in ascending order. -/
def ascU (l : List UInt32) : List UInt32 := l.mergeSort fun x y => decide (x.toNat ≤ y.toNat)
theorem sortU (l : List UInt32) : (Go.Sort.sort ltU l.toArray).toList = ascU l := by
  obtain ⟨hP, hSo⟩ := sort_sorts ltU swo_ltU l.toArray
  have h := sorted_unique_holds swo_ltU (fun x y h1 h2 => by simp only [ltU, decide_eq_false_iff_not] at h1 h2; exact UInt32.toNat_inj.1 (by omega)) l.toArray _ hP hSo
  rw [h]
  unfold ascU
  congr 1
  funext x y
  show (!decide (y.toNat < x.toNat)) = decide (x.toNat ≤ y.toNat)
  by_cases h : x.toNat ≤ y.toNat
  · have h' : ¬ y.toNat < x.toNat := by omega
    simp [h, h']
  · have h' : y.toNat < x.toNat := by omega
    simp [h, h']
theorem ascU_perm (l : List UInt32) : (ascU l).Perm l := List.mergeSort_perm l _
theorem ascU_sorted (l : List UInt32) : (ascU l).Pairwise fun x y => x.toNat ≤ y.toNat := by
  have h := List.pairwise_mergeSort (le := fun x y : UInt32 => decide (x.toNat ≤ y.toNat)) (fun a b c h1 h2 => by simp only [decide_eq_true_eq] at *; omega) (fun a b => by simp only [Bool.or_eq_true, decide_eq_true_eq]; omega) l
  exact h.imp fun h => by simpa using h
theorem ascU_length (l : List UInt32) : (ascU l).length = l.length := (ascU_perm l).length_eq
set_option maxRecDepth 100000 in
theorem usInsNil (w : World) : Calls Try.prog 44 #[.slice none 0 0, .int .i64 0, .int .i64 0] w fun e w' => e = .returned (.tuple #[]) ∧ w' = w := by
  go_enter Try.func44, Try.ntmps44
  repeat (first | go_skip | go_guarded | go_step)
  go_loopw [6] (fun q wr => q = .int .i64 1 ∧ wr = w) (fun q _ => 0)
  case atStart => exact ⟨rfl, rfl⟩
  case round =>
    obtain ⟨rfl, rfl⟩ := hrel
    repeat (first | go_skip | go_guarded | go_step)
    go_end0
    exact ⟨rfl, rfl⟩
set_option maxRecDepth 100000 in
theorem usPdqNil (w : World) : Calls Try.prog 29 #[.slice none 0 0, .int .i64 0, .int .i64 0, .int .i64 0] w fun e w' => e = .returned (.tuple #[]) ∧ w' = w := by
  go_enter Try.func29, Try.ntmps29
  go_wp2
  go_loopg [1, 2, 3, 8, 9] 0 (fun k s1 s2 s3 s8 s9 wr => s1 = .int .i64 0 ∧ s2 = .int .i64 0 ∧ s3 = .int .i64 0 ∧ s8 = .bool true ∧ s9 = .bool true ∧ wr = w)
  case atStart => exact ⟨rfl, rfl, rfl, rfl, rfl, rfl⟩
  case round =>
    obtain ⟨rfl, rfl, rfl, rfl, rfl, rfl⟩ := hrel
    go_wp2_with (go_at_call 44; refine (usInsNil _).mono ?_; rintro e w1 ⟨rfl, rfl⟩)
    (try simp only [Exit.inBlock, Exit.then]); refine bodyPost_ret (results_none rfl _ _ _) rfl ?_
    exact ⟨rfl, rfl⟩
set_option maxRecDepth 100000 in
theorem usSortNil (w : World) : Calls Try.prog 19 #[.slice none 0 0] w fun e w' => e = .returned (.tuple #[]) ∧ w' = w := by
  have hL : ∀ w, Calls Try.prog 30 #[.int .u64 0] w fun e w' => e = .returned (.int .i64 0) ∧ w' = w := fun w => usLen 0 (by omega) w
  go_enter Try.func19, Try.ntmps19
  repeat (first | go_skip | go_guarded | go_step)
  refine (hL _).mono ?_
  rintro e w' ⟨rfl, rfl⟩
  dsimp only
  repeat (first | go_skip | go_guarded | go_step)
  refine (usPdqNil _).mono ?_
  rintro e w' ⟨rfl, rfl⟩
  dsimp only
  repeat (first | go_skip | go_guarded | go_step)
  go_end0
  exact ⟨rfl, rfl⟩
theorem usSortOwn (base : Nat) (A : Option Addr) (c n : Nat) (l : List UInt32) (w : World) (h : w.ownsRow base 25 1 (.slice A n c) n (l.map nu)) (hsz : n ≤ 1000000000000) :
    Calls Try.prog 19 #[.slice A n c] w fun e w' => e = .returned (.tuple #[]) ∧ w'.ownsRow base 25 1 (.slice A n c) n ((ascU l).map nu) ∧ Turn (fun k => A.map (·.block) = some k) w w' := by
  have hl : l.length = n := by have := h.1; simpa using this
  rcases h.2 with ⟨hv, hn0⟩ | ⟨g, cap, cur, hv, hb, hg, hnc, hcm, hcs, htk⟩
  · injection hv with h1 h2 h3
    subst h1 h2 h3
    have hl0 : l = [] := List.eq_nil_of_length_eq_zero hl
    subst hl0
    refine (usSortNil w).mono ?_
    rintro e w' ⟨rfl, rfl⟩
    exact ⟨rfl, by rw [show ascU [] = [] from List.eq_nil_of_length_eq_zero (ascU_length [])]; exact h, Turn.refl _ _⟩
  · injection hv with h1 h2 h3
    subst h1 h3
    simp only [Nat.mul_one] at hcs htk
    have hcur : cur = (l.map nu ++ cur.toList.drop n).toArray := by
      apply Array.ext'
      rw [← htk]
      simp
    have hbk : BkA w g l.toArray (cur.toList.drop n) := by
      show w.heap[g]? = some (.cells _ _ _)
      rw [hg]
      congr 2
    refine (usSort g c n l.toArray (cur.toList.drop n) w (by simpa using hl) hbk hsz).mono ?_
    rintro e w' ⟨rfl, hk, ht⟩
    refine ⟨rfl, ⟨by simp [ascU_length, hl], .inr ⟨g, c, ((ascU l).map nu ++ cur.toList.drop n).toArray, rfl, hb, ?_, hnc, hcm, ?_, ?_⟩⟩, ?_⟩
    · have h2 : w'.heap[g]? = some (.cells _ _ _) := hk
      rw [h2, sortU]
    · have h5 : cur.toList.length = c := by simpa using hcs
      have h6 : (cur.toList.drop n).length = c - n := by rw [List.length_drop, h5]
      rw [List.size_toArray, List.length_append, List.length_map, ascU_length, h6, hl]
      omega
    · have h7 : ((ascU l).map nu).length = n := by rw [List.length_map, ascU_length, hl]
      simp only [Nat.mul_one, List.toList_toArray]
      rw [List.take_append_of_le_length (by omega), List.take_of_length_le (by omega)]
    · exact ht.mono fun k _ hk => by show some g = some k; rw [show k = g from hk]
end Go.Proofs.Ytfmghkplafploaa

