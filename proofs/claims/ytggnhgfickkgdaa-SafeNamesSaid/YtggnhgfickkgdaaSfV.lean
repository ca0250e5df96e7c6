/- Layer 11 (safe), the landed program: atoms.Vars. -/
import Derived.Test.YtggnhgfickkgdaaSfC
set_option linter.unusedVariables false
set_option linter.unusedSimpArgs false
namespace Go.Proofs.Ytggnhgfickkgdaa
open Go Go.RowKit

def vlist (l : List Tm) : List UInt32 := (l.filter (·.1)).map (·.2)
theorem vlist_mem (l : List Tm) (v : UInt32) : v ∈ vlist l ↔ (true, v) ∈ l := by
  unfold vlist
  simp only [List.mem_map, List.mem_filter]
  constructor
  · rintro ⟨⟨b, x⟩, ⟨h1, h2⟩, rfl⟩
    dsimp only at h2
    subst h2
    exact h1
  · intro h
    exact ⟨(true, v), ⟨h, rfl⟩, rfl⟩
theorem vlist_le (l : List Tm) : (vlist l).length ≤ l.length := by
  unfold vlist
  rw [List.length_map]
  exact List.length_filter_le _ _
theorem vlist_yes {l : List Tm} {i : Nat} {x : UInt32} (h : l[i]? = some (true, x)) : vlist (l.take (i + 1)) = vlist (l.take i) ++ [x] := by
  unfold vlist
  rw [List.take_add_one, h]
  simp
theorem vlist_no {l : List Tm} {i : Nat} {x : UInt32} (h : l[i]? = some (false, x)) : vlist (l.take (i + 1)) = vlist (l.take i) := by
  unfold vlist
  rw [List.take_add_one, h]
  simp
theorem oneU (w : World) (x : UInt32) : OwU (w.alloc (.cells #[nv x] 30)) w.heap.size (some ⟨w.heap.size, 0, none⟩) 1 1 [x] := World.ownsRow_lit w #[nv x] 1 (Nat.le_refl _) (by decide) rfl
theorem OwU.later {w w' : World} {base c n : Nat} {A : Option Addr} {l : List UInt32} (h : OwU w base A c n l) (hb : Below w.heap.size w w') : OwU w' base A c n l := ownBelow h hb (Nat.le_refl _)
theorem OwU.low {w : World} {base c n : Nat} {A : Option Addr} {l : List UInt32} (h : OwU w base A c n l) {k : Nat} (hk : A.map (·.block) = some k) : base ≤ k ∧ k < w.heap.size := World.ownsRow.lt h k (by rw [ownBlk_slice]; exact hk)
theorem compU_any (A : Option Addr) (c n : Nat) (l : List UInt32) (w : World) (base : Nat) (h : OwU w base A c n l) (hn : n ≤ 6) :
    Calls Try.prog 37 #[.slice A n c] w fun e w' => ∃ (m : Nat) (l' : List UInt32), e = .returned (.slice A m c) ∧ m ≤ n ∧ (∀ v, v ∈ l' ↔ v ∈ l) ∧ RdU w' w'.heap.size A m l' ∧ Turn (fun k => A.map (·.block) = some k) w w' := by
  have hl := rdU_len h.rd
  by_cases h0 : n = 0
  · subst h0
    have HR := Lib.hid h.rd
    clear h
    go_enter Try.func37, Try.ntmps37
    repeat (first | go_skip | go_guarded | go_step)
    go_ret
    exact ⟨0, l, rfl, Nat.le_refl _, fun v => Iff.rfl, HR.out, Turn.refl _ _⟩
  · obtain ⟨g, rest, rfl, hb, hc, hm, hr, hbk⟩ := h.block (by omega)
    refine (compU_arr g c n l rest w hl hn hc hm hbk).mono ?_
    rintro e w' ⟨m, l', rfl, h1, h2, h3, h4⟩
    exact ⟨m, l', rfl, h1, h2, h3, h4.mono fun k _ e => by rw [e]; rfl⟩
set_option maxRecDepth 100000 in
set_option maxHeartbeats 4000000 in
theorem vars_any (p : UInt32) (A : Option Addr) (n c : Nat) (l : List Tm) (w : World) (h : RdT w w.heap.size A n l) (hn : n ≤ 6) :
    Calls Try.prog 32 #[.agg #[nv p, .slice A n c]] w fun e w' => ∃ (A' : Option Addr) (m c' : Nat) (vs : List UInt32), e = .returned (.slice A' m c') ∧ m ≤ 6 ∧ (∀ v, v ∈ vs ↔ (true, v) ∈ l) ∧ RdU w' w'.heap.size A' m vs ∧ (∀ k, A'.map (·.block) = some k → w.heap.size ≤ k) ∧ Below w.heap.size w w' := by
  have HL := Lib.hid (rdT_len h)
  obtain ⟨W, hW, hb, hbw⟩ : ∃ W, W = w.alloc (.cells #[nv p, .slice A n c] 33) ∧ Bk W w.heap.size 33 [nv p, .slice A n c] ∧ Below w.heap.size w W := ⟨_, rfl, Bk.new w _ _, (Below.refl _ _).alloc (Nat.le_refl _) _⟩
  have HR := Lib.hid ((h.below hbw).more hbw.size)
  have HW := Lib.hid hW
  have HB := Lib.hid hbw
  have c1 := hb.read (Below.refl _ _) 1 rfl
  clear h hW hb hbw
  go_enter Try.func32, Try.ntmps32
  go_upto_region 1 with (fail)
  rw [← HW.out]
  repeat (first | go_skip | go_guarded | go_step)
  clear c1
  go_loopw [3, 9] (fun lv q wr => ∃ (i : Nat) (Al : Option Addr) (ml cl : Nat), i ≤ n ∧ lv = .slice Al ml cl ∧ q = .int .i64 (i : Int) ∧ OwU wr W.heap.size Al cl ml (vlist (l.take i)) ∧ Below W.heap.size W wr) (fun _ q _ => n - (intOf q).toNat)
  case atStart => exact ⟨0, none, 0, 0, by omega, rfl, rfl, World.ownsRow_nil _ _ _ _, Below.refl _ _⟩
  case round =>
    rename World => wr
    obtain ⟨i, Al, ml, cl, hi, rfl, rfl, how, hbr⟩ := hrel
    have hml : ml ≤ 6 := by
      have h1 := rdU_len how.rd
      have h2 := vlist_le (l.take i)
      rw [List.length_take] at h2
      omega
    have HOW := Lib.hid how
    have HBR := Lib.hid hbr
    clear how hbr
    by_cases hlt : i < n
    · have hci : (i : Int) < (n : Int) := by omega
      obtain ⟨b, o, ⟨v, x⟩, hA, hbb, ht, hc0, hc1⟩ := rdT_at (HR.out.below HBR.out) hlt
      subst hA
      dsimp only at hc0 hc1
      have HT := Lib.hid ht
      clear ht
      obtain ⟨U, hU, hbU, hbu⟩ : ∃ U, U = wr.alloc (.cells #[.bool v, nv x] 48) ∧ Bk U wr.heap.size 48 [.bool v, nv x] ∧ Below wr.heap.size wr U := ⟨_, rfl, Bk.new wr _ _, (Below.refl _ _).alloc (Nat.le_refl _) _⟩
      have HU := Lib.hid hU
      have HOU := Lib.hid (HOW.out.later hbu)
      have HBU := Lib.hid (HBR.out.trans (hbu.mono HBR.out.size))
      have d0 := hbU.read (Below.refl _ _) 0 rfl
      have d1 := hbU.read (Below.refl _ _) 1 rfl
      clear hU hbU hbu
      go_upto_region 5 with (fail)
      rw [← HU.out]
      clear hc0 hc1 HU
      cases v with
      | false =>
        repeat (first | go_skip | go_guarded | go_step)
        go_roundw
        case rel => exact ⟨i + 1, Al, ml, cl, by omega, rfl, by go_num, by rw [vlist_no HT.out]; exact HOU.out, HBU.out⟩
        case measure => simp [intOf]; omega
      | true =>
        have HONE := Lib.hid (oneU U x).rd
        have hZ : Below U.heap.size U (U.alloc (.cells #[nv x] 30)) := (Below.refl _ _).alloc (Nat.le_refl _) _
        have HOZ := Lib.hid (HOU.out.later hZ)
        have HBZ := Lib.hid (HBU.out.trans (hZ.mono HBU.out.size))
        clear hZ
        repeat (first
          | (at_builtin; refine appU _ rfl (.tmp 15) (.tmp 18) rfl W.heap.size Al cl ml _ rfl HOZ.out _ _ 1 1 [x] rfl HONE.out (by omega) HBZ.out.size ?_
             intro A3 c3 Z hoZ hbZ
             have HO3 := Lib.hid hoZ
             have HB3 := Lib.hid (HBZ.out.trans hbZ)
             clear hoZ hbZ)
          | go_skip | go_guarded | go_step)
        go_roundw
        case rel => exact ⟨i + 1, A3, ml + 1, c3, by omega, rfl, by go_num, by rw [vlist_yes HT.out]; exact HO3.out, HB3.out⟩
        case measure => simp [intOf]; omega
    · obtain rfl : i = n := by omega
      have hci : ¬ (i : Int) < (i : Int) := by omega
      have HOL := Lib.hid (show OwU wr W.heap.size Al cl ml (vlist l) by have := HOW.out; rwa [List.take_of_length_le (by have := HL.out; omega)] at this)
      repeat (first | go_skip | go_guarded | go_step)
      refine (sortU_any Al cl ml _ wr W.heap.size HOL.out hml).mono ?_
      rintro e w1 ⟨rfl, l1, hp, ho1, ht1⟩
      have HB1 := Lib.hid (HBR.out.trans (ht1.below (B := W.heap.size) (fun y _ e => (HOL.out.low e).1) HBR.out.size))
      have HO1 := Lib.hid ho1
      have HP := Lib.hid hp
      clear ho1 hp ht1
      dsimp only
      repeat (first | go_skip | go_guarded | go_step)
      refine (compU_any Al cl ml _ w1 W.heap.size HO1.out hml).mono ?_
      rintro e w2 ⟨m, l2, rfl, hm, hmem, hrd, ht2⟩
      have HB2 := Lib.hid (HB1.out.trans (ht2.below (B := W.heap.size) (fun y _ e => (HO1.out.low e).1) HB1.out.size))
      have HM := Lib.hid hmem
      have HRD := Lib.hid hrd
      clear hmem hrd ht2
      dsimp only
      repeat (first | go_skip | go_guarded | go_step)
      go_ret
      exact ⟨Al, m, cl, l2, rfl, by omega, fun v => by rw [HM.out, HP.out.mem_iff, vlist_mem], HRD.out, fun k hk => Nat.le_trans HB.out.size (HO1.out.low hk).1, HB.out.trans (HB2.out.mono HB.out.size)⟩
end Go.Proofs.Ytggnhgfickkgdaa
