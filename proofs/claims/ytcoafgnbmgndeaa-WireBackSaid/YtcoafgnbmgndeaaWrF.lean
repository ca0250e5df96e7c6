/- Layer 6 (wire), the document's TakeFact. -/
import Derived.Test.YtcoafgnbmgndeaaWrS
set_option linter.unusedVariables false
set_option linter.unusedSimpArgs false
namespace Go.Proofs.Ytcoafgnbmgndeaa
open Go Go.RowKit

theorem AfterW.ans {α : Type} {p : Rdr α} {bs : List UInt8} {k k' : Nat} {bad : Bool} {x : α} (z : α) (hk : k ≤ bs.length) (hk' : k' ≤ bs.length) (h : AfterW ((rest bs k false).bind p) bs k' bad x) :
    takeAns p z bs (k : Nat) = if bad then (z, 0, 5) else (x, k', 0) := by
  have h : AfterW (p (bs.drop k)) bs k' bad x := h
  unfold takeAns
  rw [if_neg (by omega), Int.toNat_natCast]
  cases hp : p (bs.drop k) with
  | none =>
    rw [hp] at h
    have h : bad = true := h
    subst h
    rfl
  | some q =>
    obtain ⟨y, r⟩ := q
    rw [hp] at h
    obtain ⟨rfl, rfl, rfl⟩ := h
    simp only [List.length_drop]
    rw [show bs.length - (bs.length - k') = k' from by omega]
    rfl
theorem takeAns_off {α : Type} (p : Rdr α) (z : α) (bs : List UInt8) (t : Int) (h : t < 0 ∨ (bs.length : Int) < t) : takeAns p z bs t = (z, 0, 1) := by
  unfold takeAns
  rw [if_pos h]
theorem run_litN1 (t0 : UInt32) (w : World) : (Instr.buildSlice 24 1 #[(0, nv t0)]).run Try.prog w = .ok (.slice (some ⟨w.heap.size, 0, none⟩) 1 1) (w.alloc (.cells ([t0].map nv).toArray 23)) := by
  obtain ⟨i0, hi, hz0, hz1, hz2⟩ := info_parts u32Info
  simp [Instr.buildSlice, run_underlying Try.underlying24, sizeOf, typeInfo, zeroValue, hi, hz0, hz1, newRow, Instr.fill]
  kernel_rfl
theorem litN_rd (w : World) (l : List UInt32) (n : Nat) (hn : l.length = n) : RdU (w.alloc (.cells (l.map nv).toArray 23)) (w.heap.size + 1) (some ⟨w.heap.size, 0, none⟩) n l := by
  have hb := Bk.new w 23 (l.map nv)
  refine ⟨by simp [hn], fun _ => ⟨w.heap.size, 0, rfl, by omega, fun j u hu => ?_⟩⟩
  rw [Nat.zero_add, hb.cell]
  exact hu

set_option maxRecDepth 100000 in
set_option maxHeartbeats 4000000 in
theorem rOver_any (g : Nat) (A : Option Addr) (n c k : Nat) (bad may : Bool) (w : World) (hk0 : Tk w g A n c k bad) :
    Calls Try.prog 41 #[.pointer (some ⟨g, 0, none⟩), .bool may] w fun e w' => e = .returned (if bad || !may then .tuple #[.int .i64 0, .int .i64 5] else .tuple #[.int .i64 (k : Int), .int .i64 0]) ∧ w = w' := by
  have hb : Bk w g 82 [.slice A n c, .int .i64 (k : Int), .bool bad] := hk0
  have t1 := hb.readT (Below.refl _ _) 1 rfl
  have t2 := hb.readT (Below.refl _ _) 2 rfl
  clear hb hk0
  go_enter Try.func41, Try.ntmps41
  cases bad with
  | true =>
    repeat (first | go_skip | go_guarded | go_step)
    exact bodyPost_ret (v := .tuple #[.int .i64 0, .int .i64 5]) (by simp [results, Try.results41, go_sem]) rfl ⟨by simp, rfl⟩
  | false =>
    cases may with
    | true =>
      repeat (first | go_skip | go_guarded | go_step)
      exact bodyPost_ret (v := .tuple #[.int .i64 (k : Int), .int .i64 0]) (by simp [results, Try.results41, go_sem]) rfl ⟨by simp, rfl⟩
    | false =>
      repeat (first | go_skip | go_guarded | go_step)
      exact bodyPost_ret (v := .tuple #[.int .i64 0, .int .i64 5]) (by simp [results, Try.results41, go_sem]) rfl ⟨by simp, rfl⟩

set_option maxRecDepth 100000 in
set_option maxHeartbeats 4000000 in
theorem rTakeFact_any (A : Option Addr) (n c : Nat) (t : Int) (bs : List UInt8) (w : World) (hr : Rd w w.heap.size 1 A n (bs.map bv)) (hc : n ≤ c) (hm : n ≤ 140737488355328) :
    Calls Try.prog 16 #[.slice A n c, .int .i64 t] w fun e w' => ∃ (p : UInt32) (A' : Option Addr) (m c' : Nat) (L : List UInt32) (y z : Nat), e = .returned (.tuple #[.agg #[nv p, .slice A' m c'], .int .i64 (y : Int), .int .i64 (z : Int)]) ∧ OwU w' w.heap.size A' c' m L ∧ m ≤ 6 ∧ Below w.heap.size w w' ∧ ((p, L), y, z) = takeAns rFact zF bs t := by
  have hl : bs.length = n := by simpa using hr.len1
  obtain ⟨U, hU, hH, hbU, hsz⟩ : ∃ U, U = w.alloc (.cells #[.int .u32 0, .slice none 0 0] 26) ∧ Bk U w.heap.size 26 [.int .u32 0, .slice none 0 0] ∧ Below w.heap.size w U ∧ U.heap.size = w.heap.size + 1 :=
    ⟨_, rfl, Bk.new w _ _, (Below.refl _ _).alloc (Nat.le_refl _) _, by simp⟩
  have HU := Lib.hid hU
  have HH := Lib.hid hH
  have HB := Lib.hid hbU
  have HSZ := Lib.hid hsz
  have HL := Lib.hid hl
  have HR := Lib.hid (hr.below hbU)
  have g0 := hH.readT (Below.refl _ _) 0 rfl
  have g1 := hH.readT (Below.refl _ _) 1 rfl
  have gf0 := hH.frozen 0
  have gf1 := hH.frozen 1
  clear hU hH hbU hsz hr hl
  go_enter Try.func16, Try.ntmps16
  go_upto_region 1 with (fail)
  rw [← HU.out]
  clear HU
  generalize hh2 : w.heap.size = h2 at HH HR HB HSZ g0 g1 gf0 gf1 ⊢
  rw [← hh2] at HB
  by_cases ht0 : t < 0
  · have d0 : decide (t < 0) = true := by simp; omega
    repeat (first | go_skip | go_guarded | go_step)
    refine bodyPost_ret (v := .tuple #[.agg #[.int .u32 0, .slice none 0 0], .int .i64 0, .int .i64 1]) ?_ rfl ⟨0, none, 0, 0, [], 0, 1, rfl, World.ownsRow_nil _ _ _ _, by omega, ?_, (takeAns_off _ _ _ _ (by have := HL.out; omega)).symm⟩
    · have hq := (HH.out.set_ 0 (.int .u32 0)).set_ 1 (.slice none 0 0)
      have q0 := hq.readT (Below.refl _ _) 0 rfl
      have q1 := hq.readT (Below.refl _ _) 1 rfl
      simp [results, Try.results16, go_sem, q0, q1]
    · exact Below.setCell (Below.setCell HB.out (p := ⟨h2, 0, none⟩) (by show w.heap.size ≤ h2; omega) _) (p := ⟨h2, 1, none⟩) (by show w.heap.size ≤ h2; omega) _
  · have d0 : decide (t < 0) = false := by simp; omega
    by_cases ht1 : (n : Int) < t
    · have d1 : decide ((n : Int) < t) = true := by simp; omega
      repeat (first | go_skip | go_guarded | go_step)
      refine bodyPost_ret (v := .tuple #[.agg #[.int .u32 0, .slice none 0 0], .int .i64 0, .int .i64 1]) ?_ rfl ⟨0, none, 0, 0, [], 0, 1, rfl, World.ownsRow_nil _ _ _ _, by omega, ?_, (takeAns_off _ _ _ _ (by have := HL.out; omega)).symm⟩
      · have hq := (HH.out.set_ 0 (.int .u32 0)).set_ 1 (.slice none 0 0)
        have q0 := hq.readT (Below.refl _ _) 0 rfl
        have q1 := hq.readT (Below.refl _ _) 1 rfl
        simp [results, Try.results16, go_sem, q0, q1]
      · exact Below.setCell (Below.setCell HB.out (p := ⟨h2, 0, none⟩) (by show w.heap.size ≤ h2; omega) _) (p := ⟨h2, 1, none⟩) (by show w.heap.size ≤ h2; omega) _
    · obtain ⟨k, rfl⟩ := Int.eq_ofNat_of_zero_le (show 0 ≤ t by omega)
      have d1 : decide ((n : Int) < (k : Int)) = false := by simp; omega
      have d2 : decide (n < k) = false := by simp; omega
      have hk : k ≤ n := by omega
      clear ht0 ht1 g0 g1 gf0 gf1
      repeat (first | go_skip | go_guarded | go_step)
      obtain ⟨W0, hW0, hT, hWb⟩ : ∃ W0, W0 = U.alloc (.cells #[.slice A n c, .int .i64 (k : Int), .bool false] 82) ∧ Tk W0 U.heap.size A n c k false ∧ Below U.heap.size U W0 := ⟨_, rfl, Bk.new U _ _, (Below.refl _ _).alloc (Nat.le_refl _) _⟩
      rw [← hW0]
      have HT := Lib.hid hT
      have HH := Lib.hid (HH.out.later hWb)
      have hgh : h2 < U.heap.size := by have := HSZ.out; omega
      have HR := Lib.hid ((HR.out.below (hWb.mono (Nat.le_of_lt hgh))).more (Nat.le_of_lt hgh))
      have HBW := Lib.hid (HB.out.trans (hWb.mono HB.out.size))
      have HGW := Lib.hid (show U.heap.size < W0.heap.size from Bk.lt hT)
      clear hW0 hT hWb HB HSZ
      generalize U.heap.size = g at HT HR HGW hgh ⊢
      refine (rNumber_any g A n c k 4294967295 false bs W0 HT.out HR.out hc hm hk (by omega)).mono ?_
      rintro e V ⟨v, k1, b1, rfl, hT, hk1, ht, ha⟩
      have hv := ha.most
      have HA1 := Lib.hid (ha.weak.map UInt32.ofNat)
      have HH := Lib.hid (ht.bk HH.out (fun e => by omega))
      have HR := Lib.hid (ht.rd HR.out (by have := HGW.out; omega) (fun k hk e => by omega))
      have HBV := Lib.hid (HBW.out.trans (ht.below (B := w.heap.size) (fun k _ e => by omega) HBW.out.size))
      have HT := Lib.hid hT
      have HGV := Lib.hid (show g < V.heap.size from Bk.lt hT)
      have e7 : IntKind.u32.wrap (v : Int) = (v : Int) := by rw [IntKind.wrap_u32] <;> omega
      clear hT ht ha HBW HGW
      dsimp only
      go_upto_region 5 with (fail)
      obtain ⟨p, hp⟩ : ∃ p, p = UInt32.ofNat v := ⟨_, rfl⟩
      have hnv : Value.int .u32 (v : Int) = nv p := by
        rw [hp]; unfold nv
        rw [toNat32 hv]
      obtain ⟨Z, hZ, hZa, hZw⟩ : ∃ Z, Z = V.alloc (.cells #[.int .u32 (v : Int), .slice none 0 0] 26) ∧ Bk Z V.heap.size 26 [.int .u32 (v : Int), .slice none 0 0] ∧ Below V.heap.size V Z := ⟨_, rfl, Bk.new V _ _, (Below.refl _ _).alloc (Nat.le_refl _) _⟩
      rw [← hZ]
      clear hZ
      rw [hnv] at hZa
      have HZA := Lib.hid hZa
      have HT := Lib.hid (Bk.later HT.out hZw)
      have HH := Lib.hid (HH.out.later hZw)
      have HR := Lib.hid (HR.out.below (hZw.mono (Nat.le_of_lt HGV.out)))
      have HBZ := Lib.hid (HBV.out.trans (hZw.mono HBV.out.size))
      have HAZ := Lib.hid hZa.lt
      rw [← hp] at HA1
      clear hZa hZw hnv hp hv e7 HBV
      generalize V.heap.size = a at HZA HGV HAZ ⊢
      repeat (first | go_skip | go_guarded | go_step)
      refine (rOctet_any g A n c k1 6 b1 bs Z HT.out HR.out hc hm hk1).mono ?_
      rintro e Y ⟨N, k2, b2, rfl, hT, hk2, ht, ha⟩
      have hN := ha.mostB
      have HA2 := Lib.hid ha.weak
      have HZA := Lib.hid (ht.bk HZA.out (fun e => by have := HGV.out; omega))
      have HH := Lib.hid (ht.bk HH.out (fun e => by omega))
      have HR := Lib.hid (ht.rd HR.out (by have := HGV.out; have := HAZ.out; omega) (fun k hk e => by omega))
      have HBY := Lib.hid (HBZ.out.trans (ht.below (B := w.heap.size) (fun k _ e => by omega) HBZ.out.size))
      have HT := Lib.hid hT
      have HYS := Lib.hid (show a < Y.heap.size from HZA.out.lt)
      clear hT ht ha HBZ HAZ
      dsimp only
      repeat (first | go_skip | go_guarded | go_step)
      go_loopw [10] (fun p' wr => ∃ (i : Nat) (A' : Option Addr) (c' : Nat) (L : List UInt32) (k3 : Nat) (b3 : Bool), i ≤ N ∧ p' = .int .i64 (i : Int) ∧ Bk wr a 26 [nv p, .slice A' i c'] ∧ OwU wr Y.heap.size A' c' i L ∧ Tk wr g A n c k3 b3 ∧ k3 ≤ n ∧ Bk wr h2 26 [.int .u32 0, .slice none 0 0] ∧ Turn (fun i => i = g ∨ i = a) Y wr ∧ AfterW ((rest bs k2 b2).bind (rMany rU32 i)) bs k3 b3 L) (fun p _ => N - (intOf p).toNat)
      case atStart => exact ⟨0, none, 0, [], k2, b2, Nat.zero_le _, rfl, HZA.out, World.ownsRow_nil _ _ _ _, HT.out, hk2, HH.out, Turn.refl _ _, AfterW.none0 rfl⟩
      case round =>
        obtain ⟨i, A', c', L, k3, b3, hi, rfl, hba, ho, hT3, hk3, hbh, htu, haf⟩ := hrel
        have hys := htu.size
        have HBA := Lib.hid hba
        have HO := Lib.hid ho
        have HT3 := Lib.hid hT3
        have HBH := Lib.hid hbh
        have HTU := Lib.hid htu
        have HAF := Lib.hid haf
        by_cases hlt : i < N
        · have hci : (i : Int) < (N : Int) := by omega
          have hR3 := htu.rd HR.out (by have := HGV.out; have := HYS.out; omega) (fun k hk e => by have := HGV.out; omega)
          have HR3 := Lib.hid hR3
          clear hba ho hT3 hbh htu haf hR3
          repeat (first | go_skip | go_guarded | go_step)
          refine (rNumber_any g A n c k3 4294967295 b3 bs wr HT3.out HR3.out hc hm hk3 (by omega)).mono ?_
          rintro e V1 ⟨v4, k4, b4, rfl, hT4, hk4, ht4, ha4⟩
          have hv4 := ha4.most
          have HA4 := Lib.hid (ha4.weak.map UInt32.ofNat)
          have HT4 := Lib.hid hT4
          have HU4 := Lib.hid ht4
          have e8 : IntKind.u32.wrap (v4 : Int) = (v4 : Int) := by rw [IntKind.wrap_u32] <;> omega
          obtain ⟨x, hx⟩ : ∃ x, x = UInt32.ofNat v4 := ⟨_, rfl⟩
          have hnx : Value.int .u32 (v4 : Int) = nv x := by
            rw [hx]; unfold nv
            rw [toNat32 hv4]
          rw [← hx] at HA4
          have hrd7 : RdU (V1.alloc (.cells #[.int .u32 (v4 : Int)] 23)) (V1.heap.size + 1) (some ⟨V1.heap.size, 0, none⟩) 1 [x] := by rw [hnx]; exact litN_rd V1 [x] 1 rfl
          have HRD7 := Lib.hid hrd7
          clear hrd7
          have hs1 := ht4.size
          have hga := HGV.out
          have hay := HYS.out
          have HBA7 := Lib.hid (ht4.bk HBA.out (fun e => by omega))
          have HBH7 := Lib.hid (ht4.bk HBH.out (fun e => by omega))
          have HO7 := Lib.hid (ht4.own HO.out (fun k hk e => by have := (World.ownsRow.lt HO.out k hk).1; omega))
          have HT17 := Lib.hid (HTU.out.then_ ht4 (fun k _ h => Or.inl h))
          have hy7 : Y.heap.size ≤ V1.heap.size := by omega
          have r1 := HBA7.out.readT (Below.refl _ _) 1 rfl
          clear hT4 ht4 ha4 hx hnx hs1 hv4
          dsimp only
          repeat (first
            | (at_builtin; refine appU _ rfl (.tmp 41) (.tmp 44) rfl Y.heap.size A' c' i L rfl (World.ownsRow.alloc HO7.out _) _ _ 1 1 [x] rfl HRD7.out (by omega) (by simp; omega) ?_
               intro A6 c6 V6 ho6 hb6
               have hb7 := (Below.alloc (Below.refl Y.heap.size V1) hy7 _).trans hb6
               have hb6a := Bk.below HBA7.out hb7 (by omega)
               have rc1 := hb6a.readT (Below.refl _ _) 1 rfl
               have rf1 := hb6a.frozen 1
               have HB6 := Lib.hid hb6a
               have HO6 := Lib.hid ho6
               have HB7 := Lib.hid hb7
               clear r1 hb6 hb7 hb6a ho6)
            | go_skip | go_guarded | go_step)
          go_roundw
          case rel => exact ⟨i + 1, A6, c6, L ++ [x], k4, b4, by omega, by go_num, HB6.out.set_ 1 (.slice A6 (i + 1) c6), (tkTurn V6 a 1 _).own HO6.out (fun k hk e => by have := (World.ownsRow.lt HO6.out k hk).1; omega), Bk.far (Bk.below HT4.out HB7.out (by omega)) (show g ≠ a by omega) _, hk4, Bk.far (Bk.below HBH7.out HB7.out (by omega)) (show h2 ≠ a by omega) _, (HT17.out.then_ (Turn.ofBelowB (G := fun k => Y.heap.size ≤ k) HB7.out (fun k h _ => h)) (fun k hk h => absurd hk (by omega))).then_ (tkTurn V6 a 1 _) (fun k _ h => Or.inr h), AfterW.snoc HAF.out HA4.out⟩
          case measure => simp [intOf] <;> omega
        · obtain rfl : i = N := by omega
          have r0 := hba.readT (Below.refl _ _) 0 rfl
          have r1 := hba.readT (Below.refl _ _) 1 rfl
          have g0 := hbh.readT (Below.refl _ _) 0 rfl
          have g1 := hbh.readT (Below.refl _ _) 1 rfl
          have gf0 := hbh.frozen 0
          have gf1 := hbh.frozen 1
          have hans := AfterW.ans zF (show k ≤ bs.length by have := HL.out; omega) (show k3 ≤ bs.length by have := HL.out; omega) (AfterW.seq (p := rU32) HA1.out (AfterW.row HA2.out haf))
          have HANS := Lib.hid hans
          have HBR := Lib.hid (HBY.out.trans (htu.below (B := w.heap.size) (fun k _ e => by have := HGV.out; omega) HBY.out.size))
          clear hba ho hT3 hbh htu haf hans
          repeat (first | go_skip | go_guarded | go_step)
          refine (rOver_any g A n c k3 b3 true wr HT3.out).mono ?_
          rintro e w4 ⟨rfl, rfl⟩
          cases b3 with
          | true =>
            simp only [Bool.true_or, if_true]
            repeat (first | go_skip | go_guarded | go_step)
            refine bodyPost_ret (v := .tuple #[.agg #[.int .u32 0, .slice none 0 0], .int .i64 0, .int .i64 5]) ?_ rfl ⟨0, none, 0, 0, [], 0, 5, rfl, World.ownsRow_nil _ _ _ _, by omega, ?_, HANS.out.symm⟩
            · have hq := (HBH.out.set_ 0 (.int .u32 0)).set_ 1 (.slice none 0 0)
              have q0 := hq.readT (Below.refl _ _) 0 rfl
              have q1 := hq.readT (Below.refl _ _) 1 rfl
              simp [results, Try.results16, go_sem, q0, q1]
            · exact Below.setCell (Below.setCell HBR.out (p := ⟨h2, 0, none⟩) (by show w.heap.size ≤ h2; omega) _) (p := ⟨h2, 1, none⟩) (by show w.heap.size ≤ h2; omega) _
          | false =>
            simp only [Bool.false_or, Bool.not_true, Bool.false_eq_true, if_false]
            repeat (first | go_skip | go_guarded | go_step)
            refine bodyPost_ret (v := .tuple #[.agg #[nv p, .slice A' i c'], .int .i64 (k3 : Int), .int .i64 0]) ?_ rfl ⟨p, A', i, c', L, k3, 0, rfl, ?_, hN, ?_, HANS.out.symm⟩
            · have hq := (HBH.out.set_ 0 (nv p)).set_ 1 (.slice A' i c')
              have q0 := hq.readT (Below.refl _ _) 0 rfl
              have q1 := hq.readT (Below.refl _ _) 1 rfl
              simp [results, Try.results16, go_sem, q0, q1]
            · exact ownLower (((tkTurn wr h2 0 _).trans (tkTurn _ h2 1 _)).own HO.out (fun k hk e => by have := (World.ownsRow.lt HO.out k hk).1; have := HGV.out; have := HYS.out; omega)) (by have := HGV.out; have := HYS.out; omega)
            · exact Below.setCell (Below.setCell HBR.out (p := ⟨h2, 0, none⟩) (by show w.heap.size ≤ h2; omega) _) (p := ⟨h2, 1, none⟩) (by show w.heap.size ≤ h2; omega) _
end Go.Proofs.Ytcoafgnbmgndeaa
